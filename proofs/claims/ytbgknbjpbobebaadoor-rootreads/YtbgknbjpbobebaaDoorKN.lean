/- What the document's SumAll answers: bit by bit, as wire's Sum by its table. What the document's SumAll answers. 1.9, in plain numbers: what a bit that is turned over does to the sum. 17.10, in plain numbers: a record with one bit turned over is none. 18.5, in plain numbers: a slot with one bit turned over is none. -/
import Derived.Test.YtbgknbjpbobebaaDoorKC
import Derived.Test.YtbgknbjpbobebaaDoorKB
import Derived.Test.YtbgknbjpbobebaaDoorKD
import Derived.Test.YtbgknbjpbobebaaDoorKI
namespace Go.Proofs.YtbgknbjpbobebaaDoor
open Go.RowKit

/-- One bit's step of the register. -/
def t1 (r : Nat) : Nat := if r % 2 = 1 then r / 2 ^^^ 3988292384 else r / 2
theorem t1_lt {r : Nat} (h : r < 2 ^ 32) : t1 r < 2 ^ 32 := by
  unfold t1
  split
  · exact Nat.xor_lt_two_pow (by omega) (by decide)
  · omega
theorem t1_xor (a b : Nat) : t1 (a ^^^ b) = t1 a ^^^ t1 b := by
  have h1 : (a ^^^ b) / 2 = a / 2 ^^^ b / 2 := Nat.xor_div_two_pow (n := 1)
  have h2 : (a ^^^ b) % 2 = a % 2 ^^^ b % 2 := Nat.xor_mod_two_pow (n := 1)
  unfold t1
  rw [h1, h2]
  rcases Nat.mod_two_eq_zero_or_one a with ha | ha <;> rcases Nat.mod_two_eq_zero_or_one b with hb | hb <;> simp only [ha, hb]
  · rfl
  · show a / 2 ^^^ b / 2 ^^^ 3988292384 = a / 2 ^^^ (b / 2 ^^^ 3988292384)
    ac_rfl
  · show a / 2 ^^^ b / 2 ^^^ 3988292384 = a / 2 ^^^ 3988292384 ^^^ b / 2
    ac_rfl
  · show a / 2 ^^^ b / 2 = a / 2 ^^^ 3988292384 ^^^ (b / 2 ^^^ 3988292384)
    rw [show a / 2 ^^^ 3988292384 ^^^ (b / 2 ^^^ 3988292384) = a / 2 ^^^ b / 2 ^^^ (3988292384 ^^^ 3988292384) by ac_rfl, Nat.xor_self, Nat.xor_zero]
def tN : Nat → Nat → Nat
  | 0, r => r
  | n + 1, r => t1 (tN n r)
theorem tN_lt {r : Nat} (h : r < 2 ^ 32) : ∀ n, tN n r < 2 ^ 32
  | 0 => h
  | n + 1 => t1_lt (tN_lt h n)
theorem tN_xor (a b : Nat) : ∀ n, tN n (a ^^^ b) = tN n a ^^^ tN n b
  | 0 => rfl
  | n + 1 => by rw [tN, tN_xor a b n, t1_xor]; rfl
theorem tN_add (r m : Nat) : ∀ n, tN (m + n) r = tN n (tN m r)
  | 0 => rfl
  | n + 1 => by rw [← Nat.add_assoc, tN, tN_add r m n]; rfl
theorem t1_even (q : Nat) : t1 (2 * q) = q := by unfold t1; rw [if_neg (by omega)]; omega
/-- Four bits' steps are one step by the table. -/
theorem t4_s4 (r : Nat) : tN 4 r = s4 r := by
  have hsplit : r = (16 * (r / 16)) ^^^ (r % 16) := by
    have h := Nat.two_pow_add_eq_or_of_lt (i := 4) (b := r % 16) (by omega) (r / 16)
    have hx : (16 * (r / 16)) ^^^ (r % 16) = (16 * (r / 16)) ||| (r % 16) := by
      refine Nat.eq_of_testBit_eq fun i => ?_
      rw [Nat.testBit_xor, Nat.testBit_or]
      by_cases hi : i < 4
      · have : (16 * (r / 16)).testBit i = false := by
          rw [show 16 * (r / 16) = 2 ^ 4 * (r / 16) by omega, Nat.testBit_two_pow_mul]
          simp; omega
        rw [this]; simp
      · have : (r % 16).testBit i = false := Nat.testBit_lt_two_pow (Nat.lt_of_lt_of_le (show r % 16 < 2 ^ 4 by omega) (Nat.pow_le_pow_right (by decide) (by omega)))
        rw [this]; simp
    rw [hx, show 16 * (r / 16) = 2 ^ 4 * (r / 16) by omega, ← h]
    omega
  have hlow : ∀ i, i < 16 → tN 4 i = tab4.getD i 0 := by decide
  have hhigh : tN 4 (16 * (r / 16)) = r / 16 := by
    show t1 (t1 (t1 (t1 (16 * (r / 16))))) = r / 16
    rw [show 16 * (r / 16) = 2 * (2 * (2 * (2 * (r / 16)))) by omega, t1_even, t1_even, t1_even, t1_even]
  conv => lhs; rw [hsplit, tN_xor, hhigh, hlow _ (Nat.mod_lt _ (by decide))]
  rfl
theorem t8_sB (r c : Nat) : tN 8 (r ^^^ c) = sB r c := by
  rw [show (8 : Nat) = 4 + 4 from rfl, tN_add, t4_s4, t4_s4]
  rfl
theorem xor_half {r : Nat} (h : r < 2 ^ 32) : bits .xor .u32 ((r : Int) / 2) 3988292384 = ((r / 2 ^^^ 3988292384 : Nat) : Int) := by
  have := u32_xor_nat (r / 2) 3988292384 (by omega) (by decide)
  simpa using this
end Go.Proofs.YtbgknbjpbobebaaDoor

namespace Go.Proofs.YtbgknbjpbobebaaDoor
open Go.RowKit

theorem u32_half {r : Nat} (h : r < 2 ^ 32) : (r : Int) / 2 % 4294967296 = ((r / 2 : Nat) : Int) := by omega
theorem xor_odd {r : Nat} (h : r < 2 ^ 32) (ho : r % 2 = 1) : bits .xor .u32 ((r / 2 : Nat) : Int) 3988292384 = ((t1 r : Nat) : Int) := by
  have := u32_xor_nat (r / 2) 3988292384 (by omega) (by decide)
  unfold t1
  rw [if_pos ho]
  exact this
theorem half_even {r : Nat} (ho : ¬ r % 2 = 1) : r / 2 = t1 r := by unfold t1; rw [if_neg ho]

set_option maxHeartbeats 4000000 in
theorem refSum_in (b off n cap : Nat) (xss : List (List Int)) (w : World) (hn : n = xss.length) (hn1 : n ≤ cap) (hc : cap ≤ 9223372036854775807)
    (hcell : ∀ j, j < n → ∃ u, w.cell? ⟨b, off + j, none⟩ = some u ∧ IsB w u (xss.getD j [])) :
    Calls Tryd.prog 63 #[.slice (some ⟨b, off, none⟩) n cap] w fun e w' => e = .returned (.int .u32 (sumOf xss)) ∧ w' = w := by
  have HN : Hid (n = xss.length) := hn
  have HC := hide hcell
  clear hn hcell
  go_enter Tryd.func63, Tryd.ntmps63
  go_wp2
  go_loop [3, 4] (fun r i => ∃ (k R : Nat), k ≤ n ∧ i = .int .i64 k ∧ r = .int .u32 R ∧ Hid (R < 2 ^ 32) ∧ Hid (R = crcAll 4294967295 (xss.take k))) (fun _ i => n - (intOf i).toNat)
  case atStart => exact ⟨0, 4294967295, by omega, rfl, rfl, (by decide : (4294967295 : Nat) < 2 ^ 32), rfl⟩
  case round =>
    obtain ⟨k, R, hk, rfl, rfl, HR, HE⟩ := hrel
    by_cases hlt : k < n
    · obtain ⟨u, hu, hb⟩ := unhide HC k hlt
      obtain ⟨hby, a, cp, rfl, hl, hm, _, hcl⟩ := hb
      generalize hxs : xss.getD k [] = xs at *
      have HXS := hide hxs
      have HCL := hide hcl
      have HBY := hide hby
      obtain ⟨m, hm'⟩ : ∃ m, m = xs.length := ⟨_, rfl⟩
      rw [← hm'] at hu hl
      have HM := hide hm'
      clear hxs hcl hby hm'
      go_wp2
      go_loop [3, 5] (fun r i => ∃ (j S : Nat), j ≤ m ∧ i = .int .i64 j ∧ r = .int .u32 S ∧ Hid (S < 2 ^ 32) ∧ Hid (S = crcN R (xs.take j))) (fun _ i => m - (intOf i).toNat)
      case atStart => exact ⟨0, R, by omega, rfl, rfl, HR, rfl⟩
      case round =>
        obtain ⟨j, S, hj, rfl, rfl, HS, HES⟩ := hrel
        by_cases hjt : j < m
        · obtain ⟨b2, off2, rfl, hcl2⟩ := unhide HCL (by rw [← HM.out]; omega)
          have hbj := unhide HBY j
          obtain ⟨c, hcv⟩ : ∃ c : Nat, (c : Int) = xs[j]?.getD 0 := ⟨(xs[j]?.getD 0).toNat, by omega⟩
          have hce : w.cell? ⟨b2, off2 + j, none⟩ = some (.int .u8 (c : Int)) := by
            rw [hcl2 j (by rw [← HM.out]; exact hjt), hcv, List.getD_eq_getElem?_getD]
          have hc1 : c ≤ 255 := by omega
          have H1 := hide (Nat.xor_lt_two_pow HS.out (show c < 2 ^ 32 by omega))
          have hx1 := xor_reg HS.out (show c < 2 ^ 32 by omega)
          obtain ⟨r1, hr1⟩ : ∃ r1, r1 = S ^^^ c := ⟨_, rfl⟩
          rw [← hr1] at hx1 H1
          have HF : Hid (tN 8 r1 = crcN R (xs.take (j + 1))) := by
            show _ = _
            rw [take_snoc' (by rw [← HM.out]; exact hjt), crcN_snoc, ← HES.out, hr1, t8_sB, ← hcv, Int.toNat_natCast]
          clear hbj hcv hr1 hcl2
          go_wp2
          go_loop [3, 6] (fun r i => ∃ (q T : Nat), q ≤ 8 ∧ i = .int .i64 q ∧ r = .int .u32 T ∧ Hid (T < 2 ^ 32) ∧ Hid (T = tN q r1)) (fun _ i => 8 - (intOf i).toNat)
          case atStart => exact ⟨0, r1, by omega, rfl, rfl, H1, rfl⟩
          case round =>
            obtain ⟨q, T, hq, rfl, rfl, HT, HET⟩ := hrel
            by_cases hq8 : q < 8
            · have HDV := hide (u32_half HT.out)
              by_cases ho : T % 2 = 1
              · have hoI : (T : Int) % 2 = 1 := by omega
                have HXO := hide (xor_odd HT.out ho)
                have HL := hide (t1_lt HT.out)
                have HN2 : Hid (t1 T = tN (q + 1) r1) := by show _ = _; rw [HET.out]; rfl
                clear ho
                go_wp2
                go_round
                case rel => exact ⟨q + 1, t1 T, by omega, by go_num, by rw [HDV.out, HXO.out], HL, HN2⟩
                case measure => simp [intOf]; omega
              · have hoI : (T : Int) % 2 = 0 := by omega
                have HH := hide (half_even ho)
                have HL := hide (t1_lt HT.out)
                have HN2 : Hid (t1 T = tN (q + 1) r1) := by show _ = _; rw [HET.out]; rfl
                clear ho
                go_wp2
                go_round
                case rel => exact ⟨q + 1, T / 2, by omega, by go_num, by rw [HDV.out], by rw [HH.out]; exact HL, by rw [HH.out]; exact HN2⟩
                case measure => simp [intOf]; omega
            · obtain rfl : q = 8 := by omega
              go_wp2
              go_round
              case rel => exact ⟨j + 1, T, by omega, by go_num, rfl, HT, by show _ = _; rw [HET.out, HF.out]⟩
              case measure => simp [intOf]; omega
        · go_wp2
          go_round
          case rel =>
            obtain rfl : j = m := by omega
            exact ⟨k + 1, S, by omega, by go_num, rfl, HS, by show _ = _; rw [take_all (by rw [← HN.out]; exact hlt), crcAll_snoc, ← HE.out, HXS.out, HES.out, List.take_of_length_le (by rw [← HM.out]; exact Nat.le_refl _)]⟩
          case measure => simp [intOf]; omega
    · obtain rfl : k = n := by omega
      have hmx := xor_reg HR.out (show 4294967295 < 2 ^ 32 by decide)
      have hmx' : bits .xor .u32 (R : Int) 4294967295 = ((R ^^^ 4294967295 : Nat) : Int) := hmx
      have HF : Hid (sumOf xss = ((R ^^^ 4294967295 : Nat) : Int)) := by
        show _ = _
        rw [sumOf, HE.out, List.take_of_length_le (by rw [← HN.out]; exact Nat.le_refl _), Nat.xor_comm]
      clear hmx
      go_wp2
      go_ret
      rw [HF.out]
      exact ⟨rfl, rfl⟩

set_option maxHeartbeats 400000 in
theorem refSum_none (a : Option Addr) (cap : Nat) (w : World) :
    Calls Tryd.prog 63 #[.slice a 0 cap] w fun e w' => e = .returned (.int .u32 (sumOf [])) ∧ w' = w := by
  have hmx' : bits .xor .u32 4294967295 4294967295 = 0 := by decide
  go_enter Tryd.func63, Tryd.ntmps63
  go_wp2
  refine wp_loop_rounds 1 ?_
  rw [rounds_succ]
  go_wp2
  go_ret
  exact ⟨by first | rfl | decide, rfl⟩

/-- The document's SumAll, of all parts. -/
theorem refSum_calls {w : World} {v : Value} {xss : List (List Int)} (h : IsBB w v xss) :
    Calls Tryd.prog 63 #[v] w fun e w' => e = .returned (.int .u32 (sumOf xss)) ∧ w' = w := by
  obtain ⟨a, cap, rfl, hl, hm, hc⟩ := h
  by_cases h0 : 0 < xss.length
  · obtain ⟨b, off, rfl, hcell⟩ := hc h0
    exact refSum_in b off _ cap xss w rfl hl hm hcell
  · obtain rfl : xss = [] := List.eq_nil_of_length_eq_zero (by omega)
    exact refSum_none a cap w
end Go.Proofs.YtbgknbjpbobebaaDoor

namespace Go.Proofs.YtbgknbjpbobebaaDoor
open Go.RowKit

theorem xor_none {a b : Nat} (h : a ^^^ b = 0) : a = b := by
  have h1 : a ^^^ b ^^^ b = 0 ^^^ b := by rw [h]
  rw [Nat.xor_assoc, Nat.xor_self, Nat.xor_zero, Nat.zero_xor] at h1
  exact h1
theorem t1_zero {r : Nat} (h : r < 2 ^ 32) (h0 : t1 r = 0) : r = 0 := by
  unfold t1 at h0
  split at h0
  · have h1 : r / 2 = 3988292384 := xor_none h0
    omega
  · omega
theorem tN_zero {r : Nat} (h : r < 2 ^ 32) : ∀ n, tN n r = 0 → r = 0
  | 0, h0 => h0
  | n + 1, h0 => tN_zero h n (t1_zero (tN_lt h n) h0)
theorem tN_inj {a b : Nat} (ha : a < 2 ^ 32) (hb : b < 2 ^ 32) {n : Nat} (h : tN n a = tN n b) : a = b := by
  have h1 : tN n (a ^^^ b) = 0 := by rw [tN_xor, h, Nat.xor_self]
  exact xor_none (tN_zero (Nat.xor_lt_two_pow ha hb) n h1)
/-- A bit, as many steps on as its place: 1. -/
theorem tN_pow : ∀ n, tN n (2 ^ n) = 1
  | 0 => rfl
  | n + 1 => by
    have h : tN (1 + n) (2 ^ (n + 1)) = tN n (tN 1 (2 ^ (n + 1))) := tN_add _ 1 n
    rw [Nat.add_comm 1 n] at h
    rw [h, show tN 1 (2 ^ (n + 1)) = t1 (2 * 2 ^ n) by rw [Nat.pow_succ, Nat.mul_comm]; rfl, t1_even, tN_pow n]
theorem tN_one {m n : Nat} (h : n ≤ m) : tN m (2 ^ n) = tN (m - n) 1 := by
  have h1 := tN_add (2 ^ n) n (m - n)
  rw [tN_pow, show n + (m - n) = m by omega] at h1
  exact h1
theorem sB_split (s d c : Nat) : sB (s ^^^ d) c = sB s c ^^^ tN 8 d := by
  rw [← t8_sB, ← t8_sB, show s ^^^ d ^^^ c = (s ^^^ c) ^^^ d by ac_rfl, tN_xor]
theorem sB_turn (s c m : Nat) : sB s (c ^^^ m) = sB s c ^^^ tN 8 m := by
  rw [← t8_sB, ← t8_sB, show s ^^^ (c ^^^ m) = (s ^^^ c) ^^^ m by ac_rfl, tN_xor]
theorem crcN_split (t : List Int) (s d : Nat) : crcN (s ^^^ d) t = crcN s t ^^^ tN (8 * t.length) d := by
  induction t generalizing s d with
  | nil => rfl
  | cons c t ih =>
    show crcN (sB (s ^^^ d) c.toNat) t = crcN (sB s c.toNat) t ^^^ _
    rw [sB_split, ih, ← tN_add, List.length_cons, show 8 + 8 * t.length = 8 * (t.length + 1) by omega]
/-- One bit of a byte string is turned over. -/
def flipped (xs : List Int) (p j : Nat) : List Int := xs.set p (((xs.getD p 0).toNat ^^^ 2 ^ j : Nat) : Int)
theorem crc_flip (xs : List Int) (r p j : Nat) (hp : p < xs.length) (hj : j < 8) : crcN r (flipped xs p j) = crcN r xs ^^^ tN (8 * (xs.length - p) - j) 1 := by
  induction xs generalizing r p with
  | nil => simp at hp
  | cons c t ih =>
    cases p with
    | zero =>
      show crcN (sB r (((c.toNat ^^^ 2 ^ j : Nat) : Int)).toNat) t = crcN (sB r c.toNat) t ^^^ _
      rw [Int.toNat_natCast, sB_turn, crcN_split, ← tN_add, tN_one (by omega)]
      congr 2
      simp only [List.length_cons]
      omega
    | succ q =>
      have h1 : flipped (c :: t) (q + 1) j = c :: flipped t q j := rfl
      rw [h1]
      show crcN (sB r c.toNat) (flipped t q j) = crcN (sB r c.toNat) t ^^^ _
      rw [ih (sB r c.toNat) q (by simpa using hp)]
      congr 2
      simp only [List.length_cons]
      omega
/-- Bits within 32 that follow one another: what they do to the sum is the pattern, moved on. -/
theorem burst_told {P m : Nat} (h : P < 2 ^ 32) (h0 : P ≠ 0) : tN m P ≠ 0 := fun e => h0 (tN_zero h m e)
end Go.Proofs.YtbgknbjpbobebaaDoor

namespace Go.Proofs.YtbgknbjpbobebaaDoor
open Go.RowKit

theorem jtN8_up (m : Nat) : tN 8 (256 * m) = m := by
  show t1 (t1 (t1 (t1 (t1 (t1 (t1 (t1 (256 * m)))))))) = m
  rw [show 256 * m = 2 * (2 * (2 * (2 * (2 * (2 * (2 * (2 * m))))))) by omega]
  simp only [t1_even]
theorem jbyte_xor (v : Nat) : v % 256 ^^^ 256 * (v / 256) = v := by
  refine Nat.eq_of_testBit_eq fun i => ?_
  rw [Nat.testBit_xor, show 256 = 2 ^ 8 from rfl, Nat.testBit_mod_two_pow, Nat.testBit_two_pow_mul, Nat.testBit_div_two_pow]
  by_cases h : i < 8
  · have h2 : ¬ 8 ≤ i := by omega
    simp [h, h2]
  · have h2 : 8 ≤ i := by omega
    simp [h, h2, show i - 8 + 8 = i by omega]
theorem jcrc_num : ∀ (n s v : Nat), v < 2 ^ (8 * n) → crcN s (fB (v : Int) n) = tN (8 * n) (s ^^^ v)
  | 0, s, v, h => by
    have h0 : v = 0 := by simpa using h
    subst h0
    show s = s ^^^ 0
    rw [Nat.xor_zero]
  | n + 1, s, v, h => by
    have e1 : (v : Int) % 256 = ((v % 256 : Nat) : Int) := by omega
    have e2 : (v : Int) / 256 = ((v / 256 : Nat) : Int) := by omega
    rw [jfB_succ, e1, e2]
    show crcN (sB s (((v % 256 : Nat) : Int)).toNat) (fB ((v / 256 : Nat) : Int) n) = _
    have hv : v / 256 < 2 ^ (8 * n) := by
      rw [show 8 * (n + 1) = 8 * n + 8 by omega, Nat.pow_add] at h
      omega
    rw [Int.toNat_natCast, jcrc_num n _ _ hv, ← t8_sB, show tN 8 (s ^^^ v % 256) ^^^ v / 256 = tN 8 (s ^^^ v % 256) ^^^ tN 8 (256 * (v / 256)) by rw [jtN8_up], ← tN_xor, Nat.xor_assoc, jbyte_xor, ← tN_add, show 8 + 8 * n = 8 * (n + 1) by omega]
/-- The sum over a whole record is one number. -/
theorem enc_res {r : JR} (h : r.Ok) (hl : r.rs.length ≤ 8) : crcN 4294967295 (encL r) = tN 32 4294967295 := by
  unfold encL
  rw [crcN_append]
  have hlt : crcN 4294967295 (encB r) < 2 ^ 32 := crcN_lt (by decide) (encB_by h hl)
  have e : sumOf [encB r] = ((4294967295 ^^^ crcN 4294967295 (encB r) : Nat) : Int) := rfl
  rw [e, jcrc_num 4 _ _ (by show _ < 2 ^ 32; exact Nat.xor_lt_two_pow (by decide) hlt), Nat.xor_comm 4294967295, ← Nat.xor_assoc, Nat.xor_self, Nat.zero_xor]
theorem jcrc_turnB {s : List Int} {a : Nat} (h : a < 8 * s.length) (r : Nat) : crcN r (turnB s a) = crcN r s ^^^ tN (8 * s.length - a) 1 := by
  have h1 := crc_flip s r (a / 8) (a % 8) (by omega) (by omega)
  rw [show 8 * (s.length - a / 8) - a % 8 = 8 * s.length - a by omega] at h1
  exact h1
theorem dec_res {b : List Int} {r : JR} (hb : By8 b) (h : decO b = some r) : crcN 4294967295 b = tN 32 4294967295 := by
  obtain ⟨h1, h2, h3, h4⟩ := dec_some h
  rw [← h4]
  exact enc_res (dec_ok hb h) (encE_ok h3).2.2.2.1
/-- One bit turned over makes it no record. -/
theorem turn_none {b : List Int} {r : JR} (hb : By8 b) (h : decO b = some r) {a : Nat} (ha : a < 4096) : decO (turnB b a) = none := by
  have hl := (dec_some h).1
  cases hd : decO (turnB b a) with
  | none => rfl
  | some r2 =>
    have hs : IsSec (turnB b a) := turnB_is ⟨hl, hb⟩ ha
    have e1 := dec_res hb h
    have e2 := dec_res hs.2 hd
    rw [jcrc_turnB (by rw [hl]; omega), e1] at e2
    have e3 : tN (8 * b.length - a) 1 = 0 := by
      have := congrArg (fun z => tN 32 4294967295 ^^^ z) e2
      simp only [← Nat.xor_assoc, Nat.xor_self, Nat.zero_xor] at this
      exact this
    have := tN_zero (by decide) _ e3
    omega
end Go.Proofs.YtbgknbjpbobebaaDoor

namespace Go.Proofs.YtbgknbjpbobebaaDoor
open Go.RowKit

theorem sl_res {s : SL} (h : s.Ok) : crcN 4294967295 (slL s) = tN 32 4294967295 := by
  unfold slL
  rw [crcN_append]
  have hlt : crcN 4294967295 (slB s) < 2 ^ 32 := crcN_lt (by decide) (slB_by h)
  have e : sumOf [slB s] = ((4294967295 ^^^ crcN 4294967295 (slB s) : Nat) : Int) := rfl
  rw [e, jcrc_num 4 _ _ (by show _ < 2 ^ 32; exact Nat.xor_lt_two_pow (by decide) hlt), Nat.xor_comm 4294967295, ← Nat.xor_assoc, Nat.xor_self, Nat.zero_xor]
theorem decS_res {b : List Int} {s : SL} (hb : By8 b) (h : decS b = some s) : crcN 4294967295 b = tN 32 4294967295 := by
  rw [← (decS_some h).2.2.2]
  exact sl_res (decS_ok hb h)
/-- One bit turned over makes it no slot. -/
theorem turn_noneS {b : List Int} {s : SL} (hb : By8 b) (h : decS b = some s) {a : Nat} (ha : a < 4096) : decS (turnB b a) = none := by
  have hl := (decS_some h).1
  cases hd : decS (turnB b a) with
  | none => rfl
  | some r2 =>
    have hs : IsSec (turnB b a) := turnB_is ⟨hl, hb⟩ ha
    have e1 := decS_res hb h
    have e2 := decS_res hs.2 hd
    rw [jcrc_turnB (by rw [hl]; omega), e1] at e2
    have e3 : tN (8 * b.length - a) 1 = 0 := by
      have := congrArg (fun z => tN 32 4294967295 ^^^ z) e2
      simp only [← Nat.xor_assoc, Nat.xor_self, Nat.zero_xor] at this
      exact this
    have := tN_zero (by decide) _ e3
    omega
end Go.Proofs.YtbgknbjpbobebaaDoor
