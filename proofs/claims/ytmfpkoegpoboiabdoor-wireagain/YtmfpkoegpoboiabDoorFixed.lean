/- What wire.Fixed answers. -/
import Derived.Test.YtmfpkoegpoboiabDoorUint
import Derived.Test.YtmfpkoegpoboiabDoorSame
namespace Go.Proofs.YtmfpkoegpoboiabDoor
open Go.RowKit

set_option maxHeartbeats 400000 in
theorem fixed_arg (V n : Int) (w : World) (h : n < 1 ∨ 8 < n) :
    Calls Tryd.prog 31 #[.int .u64 V, .int .i64 n] w fun e w' => e = .returned (.tuple #[.slice none 0 0, .int .i64 1]) ∧ w' = w := by
  by_cases h1 : n < 1
  · clear h
    go_enter Tryd.func31, Tryd.ntmps31
    go_wp2
    go_ret2
    exact ⟨rfl, rfl⟩
  · have h2 : 8 < n := by omega
    clear h
    go_enter Tryd.func31, Tryd.ntmps31
    go_wp2
    go_ret2
    exact ⟨rfl, rfl⟩

theorem made8 (n : Nat) : (madeCells (Value.int .u8 0).cells (n * 1)).toList = List.replicate n (.int .u8 0) := by
  have h : (Value.int .u8 0).cells = #[.int .u8 0] := rfl
  simp [madeCells, h, Nat.mod_one, List.map_const']

set_option maxHeartbeats 400000 in
theorem fixed_wide (V : Int) (n : Nat) (w : World) (_h0 : 0 ≤ V) (h1 : 1 ≤ n) (h2 : n ≤ 8) (hv : (V / 2 ^ (8 * n) != 0) = true) :
    Calls Tryd.prog 31 #[.int .u64 V, .int .i64 n] w fun e w' => e = .returned (.tuple #[.slice none 0 0, .int .i64 12]) ∧ w' = w := by
  go_enter Tryd.func31, Tryd.ntmps31
  go_wp2
  go_ret2
  exact ⟨rfl, rfl⟩

set_option maxHeartbeats 400000 in
theorem fixed_in (V : Int) (n : Nat) (w : World) (_h0 : 0 ≤ V) (h1 : 1 ≤ n) (h2 : n ≤ 8) (hv : (V / 2 ^ (8 * n) != 0) = false) :
    Calls Tryd.prog 31 #[.int .u64 V, .int .i64 n] w fun e w' => ∃ v, e = .returned (.tuple #[v, .int .i64 0]) ∧
      w'.ownsRow w.heap.size 5 1 v n ((fB V n).map (Value.int .u8)) ∧ Below w.heap.size w w' := by
  obtain ⟨i0, hi, hz0, hz1, hz2⟩ := info_parts info8
  go_enter Tryd.func31, Tryd.ntmps31
  go_wp2_with (at_make; refine wpList_make_full _ rfl _ _ 23 rfl w.heap.size 5 i0 (.int .u8 0) 1 Tryd.underlying23 hi hz0 hz1 .i64 .i64 _ _ n rfl rfl rfl rfl (by rw [hz2]; omega) (by unfold maxLen; omega) (Nat.le_refl _) ?_; intro w1 hown hgrow)
  have hown0 : w1.ownsRow w.heap.size 5 1 (.slice (some ⟨w.heap.size, 0, none⟩) n n) n ((fK V n 0).map (Value.int .u8)) := by
    rw [fK_zero, List.map_replicate]
    rw [made8] at hown
    exact hown
  have hbel := (Below.refl w.heap.size w).grown hgrow (Nat.le_refl _) (fun k hk => by cases hk)
  clear hown hgrow
  go_loopw [23] (fun i wr => ∃ k : Nat, k ≤ n ∧ i = .int .i64 k ∧ wr.ownsRow w.heap.size 5 1 (.slice (some ⟨w.heap.size, 0, none⟩) n n) n ((fK V n k).map (Value.int .u8)) ∧ Below w.heap.size w wr)
    (fun i _ => n - (intOf i).toNat)
  case atStart => exact ⟨0, Nat.zero_le _, rfl, hown0, hbel⟩
  case round =>
    clear hown0 hbel
    obtain ⟨k, hk, rfl, hown, hnx⟩ := hrel
    by_cases hlt : k < n
    · have hce := hown.cellAt k (by omega)
      have hfr := hown.frozenAt k
      have hst := hown.stored k (.int .u8 (V / 2 ^ (8 * k) % 256))
      have HST := hide hst
      have hce' : ∃ u, wr.cell? ⟨w.heap.size, k, none⟩ = some u := by rw [hce]; exact ⟨_, List.getElem?_eq_getElem (by simp [fK]; omega)⟩
      obtain ⟨u, hu⟩ := hce'
      clear hce hst
      go_wp2
      go_roundw
      case rel =>
        have h := unhide HST
        exact ⟨k + 1, by omega, by go_num, by rw [fK_step, List.map_set]; exact h.1, hnx.grown h.2 hnx.size (fun j hj => by injection hj with e; omega)⟩
      case measure => simp [intOf]; omega
    · go_wp2
      go_ret2
      obtain rfl : k = n := by omega
      exact ⟨_, rfl, by rw [← fK_all]; exact hown, hnx⟩

/-- Does the number need more than n bytes? -/
def fWide (V : Int) (n : Nat) : Bool := V / 2 ^ (8 * n) != 0
end Go.Proofs.YtmfpkoegpoboiabDoor
