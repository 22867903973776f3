/- What wire.Sum answers. -/
import Derived.Test.YtmfpkoegpoboiabDoorSame
import Derived.Test.YtmfpkoegpoboiabDoorCrc
namespace Go.Proofs.YtmfpkoegpoboiabDoor
open Go.RowKit

/-- The value is a slice of slices of bytes; in this world it reads the lists. -/
structure IsBB (w : World) (v : Value) (xss : List (List Int)) : Prop where
  val : ∃ a cap, v = .slice a xss.length cap ∧ xss.length ≤ cap ∧ cap ≤ 9223372036854775807 ∧
    (0 < xss.length → ∃ b off, a = some ⟨b, off, none⟩ ∧ ∀ j, j < xss.length → ∃ u, w.cell? ⟨b, off + j, none⟩ = some u ∧ IsB w u (xss.getD j []))

/-- The table lies in memory as it was laid. -/
def Tab (w : World) : Prop := ∀ i, i < 16 → w.cell? ⟨0, i, none⟩ = some (.int .u32 ((tab4.getD i 0 : Nat) : Int))

theorem Tab.below {w w' : World} (h : Tab w) (hb : Below w.heap.size w w') : Tab w' := fun i hi =>
  (hb.cell (p := ⟨0, i, none⟩) (World.block_lt_of_cell? w _ (h i hi))).trans (h i hi)

set_option maxHeartbeats 1000000 in
theorem sum_in (b off n cap : Nat) (xss : List (List Int)) (w : World) (hn : n = xss.length) (hn1 : n ≤ cap) (hc : cap ≤ 9223372036854775807) (ht : Tab w)
    (hcell : ∀ j, j < n → ∃ u, w.cell? ⟨b, off + j, none⟩ = some u ∧ IsB w u (xss.getD j [])) :
    Calls Tryd.prog 15 #[.slice (some ⟨b, off, none⟩) n cap] w fun e w' => e = .returned (.int .u32 (sumOf xss)) ∧ w' = w := by
  have HN : Hid (n = xss.length) := hn
  have HT := hide ht
  have HC := hide hcell
  clear hn ht hcell
  go_enter Tryd.func15, Tryd.ntmps15
  go_wp2
  go_loop [3, 10] (fun r i => ∃ (k R : Nat), k ≤ n ∧ i = .int .i64 k ∧ r = .int .u32 R ∧ Hid (R < 2 ^ 32) ∧ Hid (R = crcAll 4294967295 (xss.take k))) (fun _ i => n - (intOf i).toNat)
  case atStart => exact ⟨0, 4294967295, by omega, rfl, rfl, (by decide : (4294967295 : Nat) < 2 ^ 32), rfl⟩
  case round =>
    obtain ⟨k, R, hk, rfl, rfl, HR, HE⟩ := hrel
    by_cases hlt : k < n
    · obtain ⟨u, hu, hb⟩ := unhide HC k hlt
      obtain ⟨hby, a, cp, rfl, hl, hm, _, hcl⟩ := hb
      generalize hxs : xss.getD k [] = xs at *
      have HXS := hide hxs
      have HCL := hide hcl
      have HBY := hide hby
      obtain ⟨m, hm'⟩ : ∃ m, m = xs.length := ⟨_, rfl⟩
      rw [← hm'] at hu hl
      have HM := hide hm'
      clear hxs hcl hby hm'
      by_cases hm0 : 0 < m
      · obtain ⟨b2, off2, rfl, hcl⟩ := unhide HCL (by rw [← HM.out]; exact hm0)
        have HCL2 := hide hcl
        clear hcl HCL
        go_wp2
        go_loop [3, 16] (fun r i => ∃ (j S : Nat), j ≤ m ∧ i = .int .i64 j ∧ r = .int .u32 S ∧ Hid (S < 2 ^ 32) ∧ Hid (S = crcN R (xs.take j))) (fun _ i => m - (intOf i).toNat)
        case atStart => exact ⟨0, R, by omega, rfl, rfl, HR, rfl⟩
        case round =>
          obtain ⟨j, S, hj, rfl, rfl, HS, HES⟩ := hrel
          by_cases hjt : j < m
          · have hbj := unhide HBY j
            obtain ⟨c, hcv⟩ : ∃ c : Nat, (c : Int) = xs[j]?.getD 0 := ⟨(xs[j]?.getD 0).toNat, by omega⟩
            have hce : w.cell? ⟨b2, off2 + j, none⟩ = some (.int .u8 (c : Int)) := by
              rw [unhide HCL2 j (by rw [← HM.out]; exact hjt), hcv, List.getD_eq_getElem?_getD]
            have hc1 : c ≤ 255 := by omega
            have H1 := hide (Nat.xor_lt_two_pow HS.out (show c < 2 ^ 32 by omega))
            have hx1 := xor_reg HS.out (show c < 2 ^ 32 by omega)
            obtain ⟨r1, hr1⟩ : ∃ r1, r1 = S ^^^ c := ⟨_, rfl⟩
            rw [← hr1] at hx1 H1
            have ht1 : w.cell? ⟨0, r1 % 16, none⟩ = some (.int .u32 ((tab4.getD (r1 % 16) 0 : Nat) : Int)) := unhide HT _ (Nat.mod_lt _ (by decide))
            have hk1 := mask15 H1.out
            have hq1 := xor_quarter H1.out (tab4_lt (r1 % 16) (Nat.mod_lt _ (by decide)))
            obtain ⟨t1, ht1e⟩ : ∃ t1, t1 = tab4.getD (r1 % 16) 0 := ⟨_, rfl⟩
            rw [← ht1e] at ht1 hq1
            have H2 : Hid (s4 r1 < 2 ^ 32) := s4_lt H1.out
            obtain ⟨r2, hr2⟩ : ∃ r2, r2 = r1 / 16 ^^^ t1 := ⟨_, rfl⟩
            rw [← hr2] at hq1
            have E2 : Hid (s4 r1 = r2) := by show _ = _; rw [hr2, ht1e]; rfl
            rw [E2.out] at H2
            have ht2 : w.cell? ⟨0, r2 % 16, none⟩ = some (.int .u32 ((tab4.getD (r2 % 16) 0 : Nat) : Int)) := unhide HT _ (Nat.mod_lt _ (by decide))
            have hk2 := mask15 H2.out
            have hq2 := xor_quarter H2.out (tab4_lt (r2 % 16) (Nat.mod_lt _ (by decide)))
            obtain ⟨t2, ht2e⟩ : ∃ t2, t2 = tab4.getD (r2 % 16) 0 := ⟨_, rfl⟩
            rw [← ht2e] at ht2 hq2
            have H3 : Hid (s4 r2 < 2 ^ 32) := s4_lt H2.out
            have E3 : Hid (s4 r2 = r2 / 16 ^^^ t2) := by show _ = _; rw [ht2e]; rfl
            have HF : Hid (s4 r2 = crcN R (xs.take (j + 1))) := by
              show _ = _
              rw [take_snoc' (by rw [← HM.out]; exact hjt), crcN_snoc, ← HES.out, sB, ← E2.out, hr1, ← hcv, Int.toNat_natCast]
            rw [← E3.out] at hq2
            clear hbj hcv hr1 ht1e hr2 ht2e
            go_wp2
            go_round
            case rel => exact ⟨j + 1, s4 r2, by omega, by go_num, rfl, H3, HF⟩
            case measure => simp [intOf]; omega
          · go_wp2
            go_round
            case rel =>
              obtain rfl : j = m := by omega
              exact ⟨k + 1, S, by omega, by go_num, rfl, HS, by show _ = _; rw [take_all (by rw [← HN.out]; exact hlt), crcAll_snoc, ← HE.out, HXS.out, HES.out, List.take_of_length_le (by rw [← HM.out]; exact Nat.le_refl _)]⟩
            case measure => simp [intOf]; omega
      · obtain rfl : m = 0 := by omega
        clear HCL
        go_wp2
        refine wp_loop_rounds 1 ?_
        rw [rounds_succ]
        go_wp2
        go_round
        case rel =>
          have h0 : xs = [] := List.eq_nil_of_length_eq_zero HM.out.symm
          exact ⟨k + 1, R, by omega, by go_num, rfl, HR, by show _ = _; rw [take_all (by rw [← HN.out]; exact hlt), crcAll_snoc, ← HE.out, HXS.out, h0]; rfl⟩
        case measure => simp [intOf]; omega
    · obtain rfl : k = n := by omega
      have hmx := xor_max HR.out
      have HF : Hid (sumOf xss = ((4294967295 ^^^ R : Nat) : Int)) := by
        show _ = _
        rw [sumOf, HE.out, List.take_of_length_le (by rw [← HN.out]; exact Nat.le_refl _)]
      go_wp2
      go_ret
      rw [HF.out]
      exact ⟨rfl, rfl⟩

set_option maxHeartbeats 400000 in
theorem sum_none (a : Option Addr) (cap : Nat) (w : World) :
    Calls Tryd.prog 15 #[.slice a 0 cap] w fun e w' => e = .returned (.int .u32 (sumOf [])) ∧ w' = w := by
  have hmx := xor_max (r := 4294967295) (by decide)
  have hmx' : bits .xor .u32 IntKind.u32.max 4294967295 = 0 := by decide
  go_enter Tryd.func15, Tryd.ntmps15
  go_wp2
  refine wp_loop_rounds 1 ?_
  rw [rounds_succ]
  go_wp2
  go_ret
  exact ⟨by first | rfl | decide, rfl⟩

/-- wire.Sum, of all parts. -/
theorem sum_calls {w : World} {v : Value} {xss : List (List Int)} (h : IsBB w v xss) (ht : Tab w) :
    Calls Tryd.prog 15 #[v] w fun e w' => e = .returned (.int .u32 (sumOf xss)) ∧ w' = w := by
  obtain ⟨a, cap, rfl, hl, hm, hc⟩ := h
  by_cases h0 : 0 < xss.length
  · obtain ⟨b, off, rfl, hcell⟩ := hc h0
    exact sum_in b off _ cap xss w rfl hl hm ht hcell
  · obtain rfl : xss = [] := List.eq_nil_of_length_eq_zero (by omega)
    exact sum_none a cap w
end Go.Proofs.YtmfpkoegpoboiabDoor
