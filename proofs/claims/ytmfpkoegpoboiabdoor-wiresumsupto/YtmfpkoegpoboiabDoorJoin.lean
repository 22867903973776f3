/- What join answers: the parts, one behind the other, in new memory. -/
import Derived.Test.YtmfpkoegpoboiabDoorIsb
namespace Go.Proofs.YtmfpkoegpoboiabDoor
open Go.RowKit

theorem flatten_take {xss : List (List Int)} {k : Nat} (h : k < xss.length) : (xss.take (k + 1)).flatten = (xss.take k).flatten ++ xss.getD k [] := by
  rw [take_all h]; simp
theorem flatten_le {xss : List (List Int)} (k : Nat) : ((xss.take k).flatten).length ≤ xss.flatten.length := by
  have h := congrArg List.flatten (List.take_append_drop k xss)
  rw [List.flatten_append] at h
  have := congrArg List.length h
  rw [List.length_append] at this
  omega
theorem IsBB.below {w w' : World} {v : Value} {xss : List (List Int)} (h : IsBB w v xss) (hb : Below w.heap.size w w') : IsBB w' v xss := by
  obtain ⟨a, cap, rfl, hl, hm, hc⟩ := h
  refine ⟨a, cap, rfl, hl, hm, fun hp => ?_⟩
  obtain ⟨b, off, ha, hcell⟩ := hc hp
  refine ⟨b, off, ha, fun j hj => ?_⟩
  obtain ⟨u, hu, hi⟩ := hcell j hj
  exact ⟨u, (hb.cell (p := ⟨b, off + j, none⟩) (World.block_lt_of_cell? w _ hu)).trans hu, hi.below hb⟩

set_option maxHeartbeats 1000000 in
theorem join_in (b off n cap : Nat) (xss : List (List Int)) (w : World) (hn : n = xss.length) (hl : n ≤ cap) (hm : cap ≤ 9223372036854775807) (hs : xss.flatten.length ≤ 140737488355328)
    (hcell : ∀ j, j < n → ∃ u, w.cell? ⟨b, off + j, none⟩ = some u ∧ IsB w u (xss.getD j [])) :
    Calls Tryd.prog 16 #[.slice (some ⟨b, off, none⟩) n cap] w fun e w' => ∃ v, e = .returned v ∧ w'.ownsRow w.heap.size 5 1 v xss.flatten.length (xss.flatten.map (Value.int .u8)) ∧ Below w.heap.size w w' := by
  obtain ⟨i0, hi, hz0, hz1, hz2⟩ := info_parts info8
  have HN := hide hn
  have HC := hide hcell
  have HS := hide hs
  clear hn hcell hs
  go_enter Tryd.func16, Tryd.ntmps16
  go_wp2
  go_loopw [3, 4] (fun l i wr => ∃ (k L : Nat), k ≤ n ∧ i = .int .i64 (k : Int) ∧ Hid (L = ((xss.take k).flatten).length) ∧ wr.ownsRow w.heap.size 5 1 l L (((xss.take k).flatten).map (Value.int .u8)) ∧ Below w.heap.size w wr) (fun _ i _ => n - (intOf i).toNat)
  case atStart => exact ⟨0, 0, by omega, rfl, rfl, World.ownsRow_nil _ _ _ _, Below.refl _ _⟩
  case round =>
    obtain ⟨k, L, hk, rfl, HL, hown, hnx⟩ := hrel
    have hsz := hnx.size
    by_cases hlt : k < n
    · have hkx : k < xss.length := by rw [← HN.out]; exact hlt
      obtain ⟨u, hu, hb0⟩ := unhide HC k hlt
      have hb := hb0.below hnx
      have hu1 : wr.cell? ⟨b, off + k, none⟩ = some u := (hnx.cell (p := ⟨b, off + k, none⟩) (World.block_lt_of_cell? w _ hu)).trans hu
      have hft := flatten_take hkx
      have hfl := flatten_le (xss := xss) (k + 1)
      rw [hft, List.length_append, ← HL.out] at hfl
      have hfl2 : L + (xss.getD k []).length ≤ 140737488355328 := Nat.le_trans hfl HS.out
      have HFT := hide hft
      generalize hxs : xss.getD k [] = xs at *
      have HXS := hide hxs
      clear hft hfl hu hb0 hxs hkx
      have hb' := hb
      obtain ⟨_, a, cp, rfl, _, _, hz, hc⟩ := hb
      cases a with
      | none =>
        have h0 : xs = [] := by
          by_cases hp : 0 < xs.length
          · obtain ⟨b2, off2, ha, _⟩ := hc hp
            cases ha
          · exact List.eq_nil_of_length_eq_zero (by omega)
        subst h0
        obtain rfl := hz rfl
        clear hz hc hb'
        go_wp2_with (at_builtin; refine wpList_append_own_none rfl _ _ 23 rfl w.heap.size 5 i0 1 Tryd.underlying23 hi _ _ _ rfl hown rfl ?_)
        go_roundw
        case rel => exact ⟨k + 1, L, by omega, by go_num, by show _ = _; rw [HFT.out, List.append_nil]; exact HL.out, by rw [HFT.out, List.append_nil]; exact hown, hnx⟩
        case measure => simp [intOf]; omega
      | some ad =>
        have HCL := hide hb'.cells
        obtain ⟨m, hm'⟩ : ∃ m, m = xs.length := ⟨_, rfl⟩
        rw [← hm'] at hu1 hfl2
        have HM := hide hm'
        clear hz hc hb' hm'
        go_wp2_with (at_builtin; refine wpList_append_own _ rfl _ _ 23 rfl w.heap.size 5 i0 (.int .u8 0) 1 1 Tryd.underlying23 hi hz0 hz1 hz2 rfl (by decide) _ _ _ rfl hown ad m cp (xs.map (Value.int .u8)) rfl (by rw [HM.out]; simp) (unhide HCL) (u8_one xs) (by unfold maxLen; omega) (by omega) hsz ?_; intro v2 w2 hown2 hgrow _)
        have hB2 := hnx.grown hgrow hsz (fun j hj => (hown.lt j hj).1)
        clear hgrow hown
        go_roundw
        case rel => exact ⟨k + 1, L + m, by omega, by go_num, by show _ = _; rw [HFT.out, List.length_append, ← HL.out, ← HM.out], by rw [HFT.out, List.map_append]; exact hown2, hB2⟩
        case measure => simp [intOf]; omega
    · go_wp2
      go_ret
      have e : xss.take k = xss := List.take_of_length_le (by rw [← HN.out]; omega)
      rw [e] at hown
      have hL := HL.out
      rw [e] at hL
      rw [hL] at hown
      exact ⟨_, rfl, hown, hnx⟩

set_option maxHeartbeats 400000 in
theorem join_none (a : Option Addr) (cap : Nat) (w : World) :
    Calls Tryd.prog 16 #[.slice a 0 cap] w fun e w' => e = .returned (.slice none 0 0) ∧ w' = w := by
  go_enter Tryd.func16, Tryd.ntmps16
  go_wp2
  refine wp_loop_rounds 1 ?_
  rw [rounds_succ]
  go_wp2
  go_ret
  exact ⟨rfl, rfl⟩

/-- join, of all parts. -/
theorem join_calls {w : World} {v : Value} {xss : List (List Int)} (h : IsBB w v xss) (hb : ∀ x ∈ xss.flatten, 0 ≤ x ∧ x ≤ 255) (hs : xss.flatten.length ≤ 140737488355328) :
    Calls Tryd.prog 16 #[v] w fun e w' => ∃ a n c, e = .returned (.slice a n c) ∧ Own8 w' w.heap.size (.slice a n c) xss.flatten ∧ Below w.heap.size w w' := by
  obtain ⟨a, cap, rfl, hl, hm, hc⟩ := h
  by_cases h0 : 0 < xss.length
  · obtain ⟨b, off, rfl, hcell⟩ := hc h0
    refine (join_in b off _ cap xss w rfl hl hm hs hcell).mono ?_
    rintro e w' ⟨u, rfl, hown, hbel⟩
    have hi := isB_owns hown hb
    obtain ⟨a, n, c, rfl⟩ := hi.shape
    exact ⟨a, n, c, rfl, ⟨hown, hb⟩, hbel⟩
  · obtain rfl : xss = [] := List.eq_nil_of_length_eq_zero (by omega)
    refine (join_none a cap w).mono ?_
    rintro e w' ⟨rfl, rfl⟩
    exact ⟨none, 0, 0, rfl, ⟨World.ownsRow_nil _ _ _ _, by simp⟩, Below.refl _ _⟩
end Go.Proofs.YtmfpkoegpoboiabDoor
