/- What the document's SumAll answers: bit by bit, as wire's Sum by its table. What the document's crc, fixed, number and refs answer. -/
import Derived.Test.YthhjlopgpmaokabDoorKC
namespace Go.Proofs.YthhjlopgpmaokabDoor
open Go.RowKit

/-- One bit's step of the register. -/
def t1 (r : Nat) : Nat := if r % 2 = 1 then r / 2 ^^^ 3988292384 else r / 2
theorem t1_lt {r : Nat} (h : r < 2 ^ 32) : t1 r < 2 ^ 32 := by
  unfold t1
  split
  · exact Nat.xor_lt_two_pow (by omega) (by decide)
  · omega
theorem t1_xor (a b : Nat) : t1 (a ^^^ b) = t1 a ^^^ t1 b := by
  have h1 : (a ^^^ b) / 2 = a / 2 ^^^ b / 2 := Nat.xor_div_two_pow (n := 1)
  have h2 : (a ^^^ b) % 2 = a % 2 ^^^ b % 2 := Nat.xor_mod_two_pow (n := 1)
  unfold t1
  rw [h1, h2]
  rcases Nat.mod_two_eq_zero_or_one a with ha | ha <;> rcases Nat.mod_two_eq_zero_or_one b with hb | hb <;> simp only [ha, hb]
  · rfl
  · show a / 2 ^^^ b / 2 ^^^ 3988292384 = a / 2 ^^^ (b / 2 ^^^ 3988292384)
    ac_rfl
  · show a / 2 ^^^ b / 2 ^^^ 3988292384 = a / 2 ^^^ 3988292384 ^^^ b / 2
    ac_rfl
  · show a / 2 ^^^ b / 2 = a / 2 ^^^ 3988292384 ^^^ (b / 2 ^^^ 3988292384)
    rw [show a / 2 ^^^ 3988292384 ^^^ (b / 2 ^^^ 3988292384) = a / 2 ^^^ b / 2 ^^^ (3988292384 ^^^ 3988292384) by ac_rfl, Nat.xor_self, Nat.xor_zero]
def tN : Nat → Nat → Nat
  | 0, r => r
  | n + 1, r => t1 (tN n r)
theorem tN_lt {r : Nat} (h : r < 2 ^ 32) : ∀ n, tN n r < 2 ^ 32
  | 0 => h
  | n + 1 => t1_lt (tN_lt h n)
theorem tN_xor (a b : Nat) : ∀ n, tN n (a ^^^ b) = tN n a ^^^ tN n b
  | 0 => rfl
  | n + 1 => by rw [tN, tN_xor a b n, t1_xor]; rfl
theorem tN_add (r m : Nat) : ∀ n, tN (m + n) r = tN n (tN m r)
  | 0 => rfl
  | n + 1 => by rw [← Nat.add_assoc, tN, tN_add r m n]; rfl
theorem t1_even (q : Nat) : t1 (2 * q) = q := by unfold t1; rw [if_neg (by omega)]; omega
/-- Four bits' steps are one step by the table. -/
theorem t4_s4 (r : Nat) : tN 4 r = s4 r := by
  have hsplit : r = (16 * (r / 16)) ^^^ (r % 16) := by
    have h := Nat.two_pow_add_eq_or_of_lt (i := 4) (b := r % 16) (by omega) (r / 16)
    have hx : (16 * (r / 16)) ^^^ (r % 16) = (16 * (r / 16)) ||| (r % 16) := by
      refine Nat.eq_of_testBit_eq fun i => ?_
      rw [Nat.testBit_xor, Nat.testBit_or]
      by_cases hi : i < 4
      · have : (16 * (r / 16)).testBit i = false := by
          rw [show 16 * (r / 16) = 2 ^ 4 * (r / 16) by omega, Nat.testBit_two_pow_mul]
          simp; omega
        rw [this]; simp
      · have : (r % 16).testBit i = false := Nat.testBit_lt_two_pow (Nat.lt_of_lt_of_le (show r % 16 < 2 ^ 4 by omega) (Nat.pow_le_pow_right (by decide) (by omega)))
        rw [this]; simp
    rw [hx, show 16 * (r / 16) = 2 ^ 4 * (r / 16) by omega, ← h]
    omega
  have hlow : ∀ i, i < 16 → tN 4 i = tab4.getD i 0 := by decide
  have hhigh : tN 4 (16 * (r / 16)) = r / 16 := by
    show t1 (t1 (t1 (t1 (16 * (r / 16))))) = r / 16
    rw [show 16 * (r / 16) = 2 * (2 * (2 * (2 * (r / 16)))) by omega, t1_even, t1_even, t1_even, t1_even]
  conv => lhs; rw [hsplit, tN_xor, hhigh, hlow _ (Nat.mod_lt _ (by decide))]
  rfl
theorem t8_sB (r c : Nat) : tN 8 (r ^^^ c) = sB r c := by
  rw [show (8 : Nat) = 4 + 4 from rfl, tN_add, t4_s4, t4_s4]
  rfl
theorem xor_half {r : Nat} (h : r < 2 ^ 32) : bits .xor .u32 ((r : Int) / 2) 3988292384 = ((r / 2 ^^^ 3988292384 : Nat) : Int) := by
  have := u32_xor_nat (r / 2) 3988292384 (by omega) (by decide)
  simpa using this
end Go.Proofs.YthhjlopgpmaokabDoor

namespace Go.Proofs.YthhjlopgpmaokabDoor
open Go.RowKit Go.Maps

theorem jxor_odd {r : Nat} (h : r < 2 ^ 32) (ho : r % 2 = 1) : bits .xor .u32 ((r / 2 : Nat) : Int) 3988292384 = ((t1 r : Nat) : Int) := by
  have := u32_xor_nat (r / 2) 3988292384 (by omega) (by decide)
  unfold t1
  rw [if_pos ho]
  exact this
theorem jhalf_even {r : Nat} (ho : ¬ r % 2 = 1) : r / 2 = t1 r := by unfold t1; rw [if_neg ho]
theorem jand1 {r : Nat} (h : r < 2 ^ 32) : bits .and .u32 (r : Int) 1 = (r : Int) % 2 :=
  bits_mask .u32 32 (by decide) wraps_u32 1 (by decide) r (by omega) (by exact_mod_cast h)
set_option maxRecDepth 100000 in
set_option maxHeartbeats 1000000 in
theorem rcrc_calls {w : World} {v : Value} {xs : List Int} (h : IsB w v xs) : Calls Tryd.prog 57 #[v] w fun e w' => e = .returned (.int .u32 (sumOf [xs])) ∧ w' = w := by
  obtain ⟨hby, a, cp, rfl, hl, hm, _, hcl⟩ := h
  have HCL := hide hcl
  have HBY := hide hby
  obtain ⟨m, hm'⟩ : ∃ m, m = xs.length := ⟨_, rfl⟩
  rw [← hm'] at hl ⊢
  have HM := hide hm'
  clear hcl hby hm'
  go_enter Tryd.func57, Tryd.ntmps57
  go_wp2
  go_loop [3, 4] (fun r i => ∃ (j S : Nat), j ≤ m ∧ i = .int .i64 j ∧ r = .int .u32 S ∧ Hid (S < 2 ^ 32) ∧ Hid (S = crcN 4294967295 (xs.take j))) (fun _ i => m - (intOf i).toNat)
  case atStart => exact ⟨0, 4294967295, by omega, rfl, rfl, (by decide : (4294967295 : Nat) < 2 ^ 32), rfl⟩
  case round =>
    obtain ⟨j, S, hj, rfl, rfl, HS, HES⟩ := hrel
    by_cases hjt : j < m
    · obtain ⟨b2, off2, rfl, hcl2⟩ := unhide HCL (by rw [← HM.out]; omega)
      have hbj := unhide HBY j
      obtain ⟨c, hcv⟩ : ∃ c : Nat, (c : Int) = xs[j]?.getD 0 := ⟨(xs[j]?.getD 0).toNat, by omega⟩
      have hce : w.cell? ⟨b2, off2 + j, none⟩ = some (.int .u8 (c : Int)) := by
        rw [hcl2 j (by rw [← HM.out]; exact hjt), hcv, List.getD_eq_getElem?_getD]
      have hc1 : c ≤ 255 := by omega
      have H1 := hide (Nat.xor_lt_two_pow HS.out (show c < 2 ^ 32 by omega))
      have hx1 := xor_reg HS.out (show c < 2 ^ 32 by omega)
      obtain ⟨r1, hr1⟩ : ∃ r1, r1 = S ^^^ c := ⟨_, rfl⟩
      rw [← hr1] at hx1 H1
      have HF : Hid (tN 8 r1 = crcN 4294967295 (xs.take (j + 1))) := by
        show _ = _
        rw [take_snoc' (by rw [← HM.out]; exact hjt), crcN_snoc, ← HES.out, hr1, t8_sB, ← hcv, Int.toNat_natCast]
      clear hbj hcv hr1 hcl2
      go_wp2
      go_loop [3, 5] (fun r i => ∃ (q T : Nat), q ≤ 8 ∧ i = .int .i64 q ∧ r = .int .u32 T ∧ Hid (T < 2 ^ 32) ∧ Hid (T = tN q r1)) (fun _ i => 8 - (intOf i).toNat)
      case atStart => exact ⟨0, r1, by omega, rfl, rfl, H1, rfl⟩
      case round =>
        obtain ⟨q, T, hq, rfl, rfl, HT, HET⟩ := hrel
        by_cases hq8 : q < 8
        · have hdv : (T : Int) / 2 = ((T / 2 : Nat) : Int) := by omega
          have ha := jand1 HT.out
          by_cases ho : T % 2 = 1
          · have hoI : (T : Int) % 2 = 1 := by omega
            have hxo := jxor_odd HT.out ho
            rw [hoI] at ha
            rw [← hdv] at hxo
            have HL := hide (t1_lt HT.out)
            have HN2 : Hid (t1 T = tN (q + 1) r1) := by show _ = _; rw [HET.out]; rfl
            clear ho hoI hdv
            go_wp2
            go_round
            case rel => exact ⟨q + 1, t1 T, by omega, by go_num, by rfl, HL, HN2⟩
            case measure => simp [intOf]; omega
          · have hoI : (T : Int) % 2 = 0 := by omega
            have HH := hide (jhalf_even ho)
            have HDV := hide hdv
            rw [hoI] at ha
            have HL := hide (t1_lt HT.out)
            have HN2 : Hid (t1 T = tN (q + 1) r1) := by show _ = _; rw [HET.out]; rfl
            clear ho hoI hdv
            go_wp2
            go_round
            case rel => exact ⟨q + 1, T / 2, by omega, by go_num, by rw [← HDV.out], by rw [HH.out]; exact HL, by rw [HH.out]; exact HN2⟩
            case measure => simp [intOf]; omega
        · obtain rfl : q = 8 := by omega
          go_wp2
          go_round
          case rel => exact ⟨j + 1, T, by omega, by go_num, rfl, HT, by show _ = _; rw [HET.out, HF.out]⟩
          case measure => simp [intOf]; omega
    · have HF : Hid (sumOf [xs] = ((4294967295 ^^^ S : Nat) : Int)) := by
        show _ = _
        obtain rfl : j = m := by omega
        rw [HES.out, List.take_of_length_le (by rw [← HM.out]; exact Nat.le_refl _)]
        rfl
      have hmx := xor_max HS.out
      go_wp2
      go_ret
      rw [HF.out]
      exact ⟨rfl, rfl⟩
theorem fB_snoc (V : Int) (k : Nat) : fB V (k + 1) = fB V k ++ [V / 2 ^ (8 * k) % 256] := by
  unfold fB
  rw [List.range_succ, List.map_append]
  rfl
set_option maxRecDepth 100000 in
set_option maxHeartbeats 1000000 in
theorem rfixed_calls17 {w : World} {B n : Nat} {v : Value} {xs : List Int} {V : Int} (h : Own8 w B v xs) (hB : B ≤ w.heap.size) (_h0 : 0 ≤ V) (_hV : V ≤ 9223372036854775807) (h8 : n ≤ 8) (hl : xs.length ≤ 100000) :
    Calls Tryd.prog 56 #[v, .int .i64 V, .int .i64 (n : Int)] w fun e w' => ∃ v', e = .returned v' ∧ Own8 w' B v' (xs ++ fB V n) ∧ Below B w w' := by
  have HO : Hid (Own8 w B v (xs ++ fB V 0) ∧ B ≤ w.heap.size ∧ Below B w w) := hide ⟨by simpa [fB] using h, hB, Below.refl _ _⟩
  obtain ⟨va, vn, vc, rfl⟩ := h.shape
  clear h hB
  go_enter Tryd.func56, Tryd.ntmps56
  go_wp2
  go_loopw [0, 7] (fun bv i W => ∃ (k : Nat) (a : Option Addr) (m c : Nat), k ≤ n ∧ i = .int .i64 k ∧ bv = .slice a m c ∧ Hid (Own8 W B bv (xs ++ fB V k) ∧ B ≤ W.heap.size ∧ Below B w W)) (fun _ i _ => n - (intOf i).toNat)
  case atStart => exact ⟨0, _, _, _, Nat.zero_le _, rfl, rfl, HO⟩
  case round =>
    clear HO
    obtain ⟨k, a, m, c, hk, rfl, rfl, HT⟩ := hrel
    by_cases hlt : k < n
    · obtain ⟨ho, hs, hb⟩ := HT.out
      have hx0 : 0 ≤ V / 2 ^ (8 * k) % 256 := by omega
      have hx1 : V / 2 ^ (8 * k) % 256 ≤ 255 := by omega
      have hba := jalloc_below wr (.cells #[.int .u8 (V / 2 ^ (8 * k) % 256)] 5)
      have HO2 := hide (ho.below hba)
      have HI2 := hide (isB_lit wr [V / 2 ^ (8 * k) % 256] (by intro x hx; simp at hx; omega) (by simp))
      have hs2 : B ≤ (wr.alloc (.cells #[.int .u8 (V / 2 ^ (8 * k) % 256)] 5)).heap.size := Nat.le_trans hs hba.size
      have HB2 := hide (hb.trans (hba.mono hs))
      have hll : (xs ++ fB V k).length + [V / 2 ^ (8 * k) % 256].length ≤ 140737488355328 := by simp [fB_len]; omega
      have hwr : IntKind.u64.wrap (k : Int) = k := by rw [IntKind.wrap_u64]; omega
      have hwr2 : IntKind.u64.wrap (8 * (k : Int)) = 8 * k := by rw [IntKind.wrap_u64]; omega
      clear ho hs hb hba HT hx0 hx1
      go_wp2_with (first
        | (at_builtin; refine wpList_appB rfl (.tmp 13) (.tmp 20) rfl rfl HO2.out rfl HI2.out hll hs2 ?_; intro v3 w3 ho3 hg3
           have hbb : Below B w w3 := HB2.out.grown hg3 hs2 (fun j hj => (World.ownsRow.lt HO2.out.1 j hj).1)
           rw [List.append_assoc, ← fB_snoc] at ho3
           have HT3 := hide (And.intro ho3 (And.intro (Nat.le_trans hs2 hg3.size) hbb))
           obtain ⟨a3, m3, c3, rfl⟩ := ho3.shape
           clear ho3 hg3 hbb))
      go_roundw
      case rel => exact ⟨k + 1, _, _, _, by omega, by go_num, rfl, HT3⟩
      case measure => simp [intOf]; omega
    · obtain rfl : k = n := by omega
      go_wp2
      go_ret
      exact ⟨_, rfl, HT.out.1, HT.out.2.2⟩
theorem or_add {A c : Nat} (h : A % 256 = 0) (hc : c < 256) : A ||| c = A + c := by
  have h1 := Nat.two_pow_add_eq_or_of_lt (i := 8) (b := c) (by omega) (A / 256)
  rw [show 2 ^ 8 * (A / 256) = A by omega] at h1
  exact h1.symm
theorem jor_low {X L c : Int} (hX : X = IntKind.i64.wrap L) (h0 : 0 ≤ c) (h1 : c ≤ 255) : bits .or .i64 (wrap64 (X * 256)) c = IntKind.i64.wrap (c + 256 * L) := by
  show IntKind.i64.wrap (((BitVec.ofInt 64 (wrap64 (X * 256)) ||| BitVec.ofInt 64 c).toNat : Nat) : Int) = _
  rw [BitVec.toNat_or, BitVec.toNat_ofInt, BitVec.toNat_ofInt]
  have e1 : (wrap64 (X * 256) % ((2 ^ 64 : Nat) : Int)).toNat % 256 = 0 := by
    unfold wrap64
    have : ((2 ^ 64 : Nat) : Int) = 18446744073709551616 := by decide
    rw [this]
    omega
  have e2 : (c % ((2 ^ 64 : Nat) : Int)).toNat = c.toNat := by
    have : ((2 ^ 64 : Nat) : Int) = 18446744073709551616 := by decide
    rw [this]
    omega
  rw [e2, or_add e1 (by omega), hX, IntKind.wrap_i64, IntKind.wrap_i64, IntKind.wrap_i64]
  unfold wrap64
  have : ((2 ^ 64 : Nat) : Int) = 18446744073709551616 := by decide
  rw [this]
  omega
theorem leN_cons_at {b : List Int} {k n q : Nat} (hq : q < n) (hn : k + n ≤ b.length) : leN ((b.drop (k + q)).take (n - q)) = b[k + q]?.getD 0 + 256 * leN ((b.drop (k + (q + 1))).take (n - (q + 1))) := by
  rw [drop_at (show k + q < b.length by omega), show n - q = (n - (q + 1)) + 1 by omega, List.take_succ_cons, leN]
  rfl
set_option maxRecDepth 100000 in
set_option maxHeartbeats 1000000 in
theorem rnumber_calls {w : World} {v : Value} {b : List Int} (h : IsB w v b) {k n : Nat} (h1 : 1 ≤ n) (h8 : n ≤ 8) (hs : k + n ≤ b.length) :
    Calls Tryd.prog 58 #[v, .int .i64 (k : Int), .int .i64 (n : Int)] w fun e w' => e = .returned (.int .i64 (IntKind.i64.wrap (leN ((b.drop k).take n)))) ∧ w' = w := by
  obtain ⟨hby, a, cp, rfl, hl, hm, _, hcl⟩ := h
  obtain ⟨b2, off2, rfl, hcl2⟩ := hcl (by omega)
  have HCL := hide hcl2
  have HBY := hide hby
  clear hcl2
  obtain ⟨m, hm'⟩ : ∃ m, m = b.length := ⟨_, rfl⟩
  rw [← hm'] at hl hs ⊢
  have HM := hide hm'
  clear hcl hby hm'
  go_enter Tryd.func58, Tryd.ntmps58
  go_wp2
  go_loop [7, 8] (fun v i => ∃ (j : Nat) (X x : Int), j ≤ n ∧ i = .int .i64 x ∧ v = .int .i64 X ∧ Hid (x = (j : Int) - 1) ∧ Hid (X = IntKind.i64.wrap (leN ((b.drop (k + j)).take (n - j))))) (fun _ i => (intOf i + 1).toNat)
  case atStart => exact ⟨n, 0, _, Nat.le_refl _, rfl, rfl, by show _ = _; rfl, by show _ = _; rw [Nat.sub_self, List.take_zero]; rfl⟩
  case round =>
    obtain ⟨j, X, x, hj, rfl, rfl, HX, HE⟩ := hrel
    by_cases h0 : j = 0
    · have hx : decide (0 ≤ x) = false := by rw [HX.out, h0]; decide
      have HF : Hid (X = IntKind.i64.wrap (leN ((b.drop k).take n))) := by have := HE.out; rw [h0, Nat.add_zero, Nat.sub_zero] at this; exact this
      clear HE HX
      go_wp2
      go_ret
      exact ⟨by rw [← HF.out]; rfl, rfl⟩
    · obtain ⟨q, rfl⟩ : ∃ q, j = q + 1 := ⟨j - 1, by omega⟩
      obtain rfl : x = (q : Int) := by rw [HX.out]; omega
      have hbk := unhide HBY (k + q)
      obtain ⟨c, hcv⟩ : ∃ c, c = b[k + q]?.getD 0 := ⟨_, rfl⟩
      rw [← hcv] at hbk
      have hce : w.cell? ⟨b2, off2 + (k + q), none⟩ = some (.int .u8 c) := by
        rw [unhide HCL (k + q) (by rw [← HM.out]; omega), hcv, List.getD_eq_getElem?_getD]
      have hor := jor_low HE.out hbk.1 hbk.2
      have HN1 : Hid (IntKind.i64.wrap (c + 256 * leN ((b.drop (k + (q + 1))).take (n - (q + 1)))) = IntKind.i64.wrap (leN ((b.drop (k + q)).take (n - q)))) := by show _ = _; rw [leN_cons_at (k := k) (n := n) (q := q) (by omega) (by rw [← HM.out]; omega), ← hcv]
      obtain ⟨Y, hY⟩ : ∃ Y, Y = IntKind.i64.wrap (c + 256 * leN ((b.drop (k + (q + 1))).take (n - (q + 1)))) := ⟨_, rfl⟩
      rw [← hY] at hor HN1
      clear HE HX hcv hY
      go_wp2
      go_round
      case rel => exact ⟨q, Y, _, by omega, rfl, rfl, by show _ = _; rfl, HN1⟩
      case measure => simp [intOf]
set_option maxRecDepth 100000 in
set_option maxHeartbeats 2000000 in
theorem rrefs_calls {w : World} {v : Value} {l : List JF} (h : IsJ w v l) : Calls Tryd.prog 55 #[v] w fun e w' => e = .returned (.bool (mayRs l)) ∧ w' = w := by
  have hok := h.ok
  obtain ⟨_, va, c, rfl, hlc, hcm, hnil, hcell⟩ := id h
  obtain ⟨n, hn⟩ : ∃ n, n = l.length := ⟨_, rfl⟩
  rw [← hn] at hlc hcell ⊢
  have HCELL := hide hcell
  have HN := hide hn
  have HOK := hide hok
  clear h hn hok hcell hnil
  by_cases h0 : n = 0
  · subst h0
    have HR := hide (mayRs_no (l := l) (Or.inl (by rw [← HN.out]; decide)))
    go_enter Tryd.func55, Tryd.ntmps55
    go_wp2
    go_ret
    exact ⟨by rw [HR.out]; rfl, rfl⟩
  · by_cases h8 : 8 < n
    · have HR := hide (mayRs_no (l := l) (Or.inr (by rw [← HN.out]; exact h8)))
      have hI : 8 < (n : Int) := by omega
      have hz : decide ((n : Int) < 1) = false := by simp; omega
      go_enter Tryd.func55, Tryd.ntmps55
      go_wp2
      go_ret
      exact ⟨by rw [HR.out]; rfl, rfl⟩
    · obtain ⟨b, o, rfl, HC⟩ : ∃ b o, va = some ⟨b, o, none⟩ ∧ Hid (∀ j, j < n → w.rangeAt b (o + j * 34) (jfV (l.getD j .nul))) := unhide HCELL (by omega)
      have hI : decide (8 < (n : Int)) = false := by simp; omega
      have hz : decide ((n : Int) < 1) = false := by simp; omega
      clear HCELL
      go_enter Tryd.func55, Tryd.ntmps55
      go_wp2
      go_loop [3] (fun i => ∃ k : Nat, k ≤ n ∧ i = .int .i64 k ∧ Hid ((l.take k).all JF.may = true)) (fun i => n - (intOf i).toNat)
      case atStart => exact ⟨0, Nat.zero_le _, rfl, by simp [Hid]⟩
      case round =>
        obtain ⟨k, hk, rfl, HT⟩ := hrel
        by_cases hlt : k < n
        · have hr := unhide HC k hlt
          have hkl : k < l.length := by rw [← HN.out]; exact hlt
          have hrok : (l.getD k .nul).Ok := jf_get (P := JF.Ok) HOK.out hkl
          have HMY := hide (fun h1 => may_take hkl HT.out h1)
          have HMN := hide (fun h1 => mayRs_bad hkl h1)
          generalize l.getD k .nul = r at *
          obtain ⟨c32, c33⟩ := jfV_f hrok.len
          have cc1 := hr 32 _ c32
          have cc2 := hr 33 _ c33
          have HMAY : Hid (∀ b, decide (0 ≤ r.f ∧ r.f < 65536 ∧ 0 ≤ r.l ∧ r.l ≤ 262144) = b → r.may = b) := hide (fun b h => h)
          clear hrok c32 c33 hr
          generalize r.f = f at *
          generalize r.l = le at *
          have go1 : ∀ (P : Prop), P ∨ ¬ P := fun P => Classical.em P
          rcases go1 (0 ≤ f) with hf0 | hf0
          · rcases go1 (f < 65536) with hf1 | hf1
            · rcases go1 (0 ≤ le) with hl0 | hl0
              · rcases go1 (le ≤ 262144) with hl1 | hl1
                · have HN1 := hide (unhide HMY (unhide HMAY true (by simp [hf0, hf1, hl0, hl1])))
                  have d0 : decide (f < 0) = false := by simp; omega
                  have d1 : decide (65535 < f) = false := by simp; omega
                  have d2 : decide (le < 0) = false := by simp; omega
                  have d3 : decide (262144 < le) = false := by simp; omega
                  clear hf0 hf1 hl0 hl1 HMN HMAY HMY go1
                  go_wp2
                  go_round
                  case rel => exact ⟨k + 1, by omega, by go_num, HN1⟩
                  case measure => simp [intOf]; omega
                · have HN1 := hide (unhide HMN (unhide HMAY false (by simp [hl1])))
                  have d0 : decide (f < 0) = false := by simp; omega
                  have d1 : decide (65535 < f) = false := by simp; omega
                  have d2 : decide (le < 0) = false := by simp; omega
                  have d3 : decide (262144 < le) = true := by simp; omega
                  clear hf0 hf1 hl0 hl1 HMN HMAY HMY go1
                  go_wp2
                  go_ret
                  exact ⟨by rw [HN1.out]; rfl, rfl⟩
              · have HN1 := hide (unhide HMN (unhide HMAY false (by simp [hl0])))
                have d0 : decide (f < 0) = false := by simp; omega
                have d1 : decide (65535 < f) = false := by simp; omega
                have d2 : decide (le < 0) = true := by simp; omega
                clear hf0 hf1 hl0 HMN HMAY HMY go1
                go_wp2
                go_ret
                exact ⟨by rw [HN1.out]; rfl, rfl⟩
            · have HN1 := hide (unhide HMN (unhide HMAY false (by simp [hf1])))
              have d0 : decide (f < 0) = false := by simp; omega
              have d1 : decide (65535 < f) = true := by simp; omega
              clear hf0 hf1 HMN HMAY HMY go1
              go_wp2
              go_ret
              exact ⟨by rw [HN1.out]; rfl, rfl⟩
          · have HN1 := hide (unhide HMN (unhide HMAY false (by simp [hf0])))
            have d0 : decide (f < 0) = true := by simp; omega
            clear hf0 HMN HMAY HMY go1
            go_wp2
            go_ret
            exact ⟨by rw [HN1.out]; rfl, rfl⟩
        · have HR : Hid (mayRs l = true) := by
            obtain rfl : k = n := by omega
            have := HT.out
            rw [HN.out] at this
            exact mayRs_all (by rw [← HN.out]; omega) (by rw [← HN.out]; omega) this
          go_wp2
          go_ret
          exact ⟨by rw [HR.out]; rfl, rfl⟩
end Go.Proofs.YthhjlopgpmaokabDoor
