/- What the document's SumAll answers. -/
import Derived.Test.YtbgknbjpbobebaaDoorRefS
namespace Go.Proofs.YtbgknbjpbobebaaDoor
open Go.RowKit

theorem u32_half {r : Nat} (h : r < 2 ^ 32) : (r : Int) / 2 % 4294967296 = ((r / 2 : Nat) : Int) := by omega
theorem xor_odd {r : Nat} (h : r < 2 ^ 32) (ho : r % 2 = 1) : bits .xor .u32 ((r / 2 : Nat) : Int) 3988292384 = ((t1 r : Nat) : Int) := by
  have := u32_xor_nat (r / 2) 3988292384 (by omega) (by decide)
  unfold t1
  rw [if_pos ho]
  exact this
theorem half_even {r : Nat} (ho : ¬ r % 2 = 1) : r / 2 = t1 r := by unfold t1; rw [if_neg ho]

set_option maxHeartbeats 4000000 in
theorem refSum_in (b off n cap : Nat) (xss : List (List Int)) (w : World) (hn : n = xss.length) (hn1 : n ≤ cap) (hc : cap ≤ 9223372036854775807)
    (hcell : ∀ j, j < n → ∃ u, w.cell? ⟨b, off + j, none⟩ = some u ∧ IsB w u (xss.getD j [])) :
    Calls Tryd.prog 63 #[.slice (some ⟨b, off, none⟩) n cap] w fun e w' => e = .returned (.int .u32 (sumOf xss)) ∧ w' = w := by
  have HN : Hid (n = xss.length) := hn
  have HC := hide hcell
  clear hn hcell
  go_enter Tryd.func63, Tryd.ntmps63
  go_wp2
  go_loop [3, 4] (fun r i => ∃ (k R : Nat), k ≤ n ∧ i = .int .i64 k ∧ r = .int .u32 R ∧ Hid (R < 2 ^ 32) ∧ Hid (R = crcAll 4294967295 (xss.take k))) (fun _ i => n - (intOf i).toNat)
  case atStart => exact ⟨0, 4294967295, by omega, rfl, rfl, (by decide : (4294967295 : Nat) < 2 ^ 32), rfl⟩
  case round =>
    obtain ⟨k, R, hk, rfl, rfl, HR, HE⟩ := hrel
    by_cases hlt : k < n
    · obtain ⟨u, hu, hb⟩ := unhide HC k hlt
      obtain ⟨hby, a, cp, rfl, hl, hm, _, hcl⟩ := hb
      generalize hxs : xss.getD k [] = xs at *
      have HXS := hide hxs
      have HCL := hide hcl
      have HBY := hide hby
      obtain ⟨m, hm'⟩ : ∃ m, m = xs.length := ⟨_, rfl⟩
      rw [← hm'] at hu hl
      have HM := hide hm'
      clear hxs hcl hby hm'
      go_wp2
      go_loop [3, 5] (fun r i => ∃ (j S : Nat), j ≤ m ∧ i = .int .i64 j ∧ r = .int .u32 S ∧ Hid (S < 2 ^ 32) ∧ Hid (S = crcN R (xs.take j))) (fun _ i => m - (intOf i).toNat)
      case atStart => exact ⟨0, R, by omega, rfl, rfl, HR, rfl⟩
      case round =>
        obtain ⟨j, S, hj, rfl, rfl, HS, HES⟩ := hrel
        by_cases hjt : j < m
        · obtain ⟨b2, off2, rfl, hcl2⟩ := unhide HCL (by rw [← HM.out]; omega)
          have hbj := unhide HBY j
          obtain ⟨c, hcv⟩ : ∃ c : Nat, (c : Int) = xs[j]?.getD 0 := ⟨(xs[j]?.getD 0).toNat, by omega⟩
          have hce : w.cell? ⟨b2, off2 + j, none⟩ = some (.int .u8 (c : Int)) := by
            rw [hcl2 j (by rw [← HM.out]; exact hjt), hcv, List.getD_eq_getElem?_getD]
          have hc1 : c ≤ 255 := by omega
          have H1 := hide (Nat.xor_lt_two_pow HS.out (show c < 2 ^ 32 by omega))
          have hx1 := xor_reg HS.out (show c < 2 ^ 32 by omega)
          obtain ⟨r1, hr1⟩ : ∃ r1, r1 = S ^^^ c := ⟨_, rfl⟩
          rw [← hr1] at hx1 H1
          have HF : Hid (tN 8 r1 = crcN R (xs.take (j + 1))) := by
            show _ = _
            rw [take_snoc' (by rw [← HM.out]; exact hjt), crcN_snoc, ← HES.out, hr1, t8_sB, ← hcv, Int.toNat_natCast]
          clear hbj hcv hr1 hcl2
          go_wp2
          go_loop [3, 6] (fun r i => ∃ (q T : Nat), q ≤ 8 ∧ i = .int .i64 q ∧ r = .int .u32 T ∧ Hid (T < 2 ^ 32) ∧ Hid (T = tN q r1)) (fun _ i => 8 - (intOf i).toNat)
          case atStart => exact ⟨0, r1, by omega, rfl, rfl, H1, rfl⟩
          case round =>
            obtain ⟨q, T, hq, rfl, rfl, HT, HET⟩ := hrel
            by_cases hq8 : q < 8
            · have HDV := hide (u32_half HT.out)
              by_cases ho : T % 2 = 1
              · have hoI : (T : Int) % 2 = 1 := by omega
                have HXO := hide (xor_odd HT.out ho)
                have HL := hide (t1_lt HT.out)
                have HN2 : Hid (t1 T = tN (q + 1) r1) := by show _ = _; rw [HET.out]; rfl
                clear ho
                go_wp2
                go_round
                case rel => exact ⟨q + 1, t1 T, by omega, by go_num, by rw [HDV.out, HXO.out], HL, HN2⟩
                case measure => simp [intOf]; omega
              · have hoI : (T : Int) % 2 = 0 := by omega
                have HH := hide (half_even ho)
                have HL := hide (t1_lt HT.out)
                have HN2 : Hid (t1 T = tN (q + 1) r1) := by show _ = _; rw [HET.out]; rfl
                clear ho
                go_wp2
                go_round
                case rel => exact ⟨q + 1, T / 2, by omega, by go_num, by rw [HDV.out], by rw [HH.out]; exact HL, by rw [HH.out]; exact HN2⟩
                case measure => simp [intOf]; omega
            · obtain rfl : q = 8 := by omega
              go_wp2
              go_round
              case rel => exact ⟨j + 1, T, by omega, by go_num, rfl, HT, by show _ = _; rw [HET.out, HF.out]⟩
              case measure => simp [intOf]; omega
        · go_wp2
          go_round
          case rel =>
            obtain rfl : j = m := by omega
            exact ⟨k + 1, S, by omega, by go_num, rfl, HS, by show _ = _; rw [take_all (by rw [← HN.out]; exact hlt), crcAll_snoc, ← HE.out, HXS.out, HES.out, List.take_of_length_le (by rw [← HM.out]; exact Nat.le_refl _)]⟩
          case measure => simp [intOf]; omega
    · obtain rfl : k = n := by omega
      have hmx := xor_reg HR.out (show 4294967295 < 2 ^ 32 by decide)
      have hmx' : bits .xor .u32 (R : Int) 4294967295 = ((R ^^^ 4294967295 : Nat) : Int) := hmx
      have HF : Hid (sumOf xss = ((R ^^^ 4294967295 : Nat) : Int)) := by
        show _ = _
        rw [sumOf, HE.out, List.take_of_length_le (by rw [← HN.out]; exact Nat.le_refl _), Nat.xor_comm]
      clear hmx
      go_wp2
      go_ret
      rw [HF.out]
      exact ⟨rfl, rfl⟩

set_option maxHeartbeats 400000 in
theorem refSum_none (a : Option Addr) (cap : Nat) (w : World) :
    Calls Tryd.prog 63 #[.slice a 0 cap] w fun e w' => e = .returned (.int .u32 (sumOf [])) ∧ w' = w := by
  have hmx' : bits .xor .u32 4294967295 4294967295 = 0 := by decide
  go_enter Tryd.func63, Tryd.ntmps63
  go_wp2
  refine wp_loop_rounds 1 ?_
  rw [rounds_succ]
  go_wp2
  go_ret
  exact ⟨by first | rfl | decide, rfl⟩

/-- The document's SumAll, of all parts. -/
theorem refSum_calls {w : World} {v : Value} {xss : List (List Int)} (h : IsBB w v xss) :
    Calls Tryd.prog 63 #[v] w fun e w' => e = .returned (.int .u32 (sumOf xss)) ∧ w' = w := by
  obtain ⟨a, cap, rfl, hl, hm, hc⟩ := h
  by_cases h0 : 0 < xss.length
  · obtain ⟨b, off, rfl, hcell⟩ := hc h0
    exact refSum_in b off _ cap xss w rfl hl hm hcell
  · obtain rfl : xss = [] := List.eq_nil_of_length_eq_zero (by omega)
    exact refSum_none a cap w
end Go.Proofs.YtbgknbjpbobebaaDoor
