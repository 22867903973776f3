/- What wire.Bytes answers: the length, then the bytes, in new memory. -/
import Derived.Test.YtmfpkoegpoboiabDoorUint
import Derived.Test.YtmfpkoegpoboiabDoorSame
import Derived.Laws.AppendOwnNone
namespace Go.Proofs.YtmfpkoegpoboiabDoor
open Go.RowKit

theorem u8_one (xs : List Int) : ∀ u ∈ xs.map (Value.int .u8), u.oneCell' = true := by
  intro u hu
  obtain ⟨x, _, rfl⟩ := List.mem_map.1 hu
  rfl

set_option maxHeartbeats 400000 in
theorem bytes_some (ad : Addr) (cap : Nat) (xs : List Int) (w : World) (hl : xs.length ≤ 140737488351232)
    (hc : ∀ j u, (xs.map (Value.int .u8))[j]? = some u → w.cell? (ad.add j) = some u) :
    Calls Tryd.prog 32 #[.slice (some ad) xs.length cap] w fun e w' => ∃ v, e = .returned v ∧
      w'.ownsRow w.heap.size 5 1 v (bB xs).length ((bB xs).map (Value.int .u8)) ∧ Below w.heap.size w w' := by
  obtain ⟨i0, hi, hz0, hz1, hz2⟩ := info_parts info8
  have HC := hide hc
  clear hc
  go_enter Tryd.func32, Tryd.ntmps32
  go_wp2_with fail
  refine (uint_calls _ _ (by omega) (top9 (by omega))).mono ?_
  rintro e w1 ⟨v1, rfl, hown, hbel⟩
  have hsz := hbel.size
  have hul := (uB_len 9 xs.length).2
  have HU : Hid ((uBytes xs.length).length ≤ 10) := hul
  have hn : (uBytes (xs.length : Int)).length + xs.length ≤ 140737488355328 := by have := HU.out; omega
  have hc1 : ∀ j u, (xs.map (Value.int .u8))[j]? = some u → w1.cell? (ad.add j) = some u := fun j u hj =>
    (hbel.cell (World.block_lt_of_cell? w _ (unhide HC j u hj))).trans (unhide HC j u hj)
  have HC1 := hide hc1
  clear hul hc1
  go_wp2_with (at_builtin; refine wpList_append_own _ rfl _ _ 23 rfl w.heap.size 5 i0 (.int .u8 0) 1 1 Tryd.underlying23 hi hz0 hz1 hz2 rfl (by decide) _ _ _ rfl hown ad xs.length cap (xs.map (Value.int .u8)) rfl (by simp) (unhide HC1) (u8_one xs) (by unfold maxLen; omega) (by omega) hsz ?_; intro v2 w2 hown2 hgrow hnil)
  go_ret
  refine ⟨_, rfl, ?_, hbel.grown hgrow hsz (fun k hk => (hown.lt k hk).1)⟩
  simpa [bB] using hown2

set_option maxHeartbeats 400000 in
theorem bytes_nil (w : World) :
    Calls Tryd.prog 32 #[.slice none 0 0] w fun e w' => ∃ v, e = .returned v ∧
      w'.ownsRow w.heap.size 5 1 v (bB []).length ((bB []).map (Value.int .u8)) ∧ Below w.heap.size w w' := by
  obtain ⟨i0, hi, hz0, hz1, hz2⟩ := info_parts info8
  go_enter Tryd.func32, Tryd.ntmps32
  go_wp2_with fail
  refine (uint_calls _ _ (by omega) (top9 (by omega))).mono ?_
  rintro e w1 ⟨v1, rfl, hown, hbel⟩
  go_wp2_with (at_builtin; refine wpList_append_own_none rfl _ _ 23 rfl w.heap.size 5 i0 1 Tryd.underlying23 hi _ _ _ rfl hown rfl ?_)
  go_ret
  exact ⟨_, rfl, by simpa [bB] using hown, hbel⟩

/-- wire.Bytes, of every slice. -/
theorem bytes_calls {w : World} {v : Value} {xs : List Int} (h : IsB w v xs) (hl : xs.length ≤ 140737488351232) :
    Calls Tryd.prog 32 #[v] w fun e w' => ∃ v, e = .returned v ∧
      w'.ownsRow w.heap.size 5 1 v (bB xs).length ((bB xs).map (Value.int .u8)) ∧ Below w.heap.size w w' := by
  have h' := h
  obtain ⟨_, a, cap, rfl, _, _, hz, hc⟩ := h
  cases a with
  | none =>
    have h0 : xs = [] := by
      by_cases hp : 0 < xs.length
      · obtain ⟨b, off, ha, _⟩ := hc hp
        cases ha
      · exact List.eq_nil_of_length_eq_zero (by omega)
    subst h0
    rw [hz rfl]
    exact bytes_nil w
  | some ad => exact bytes_some ad cap xs w hl h'.cells
end Go.Proofs.YtmfpkoegpoboiabDoor
