/- The table of errors: each number is the document's. -/
import Derived.Test.YtmfdiicnhfadmaaDoorNames
namespace Go.Proofs.YtmfdiicnhfadmaaDoor
open Go.RowKit

set_option maxRecDepth 100000 in
set_option maxHeartbeats 1000000 in
theorem errs_calls (w : World) : Calls Tryd.prog 9 #[] w fun e w' => e = .returned (.slice (some ⟨w.heap.size, 0, none⟩) 64 64) ∧ Pairs w' w.heap.size 64 ∧ Below w.heap.size w w' := by
  go_enter Tryd.func9, Tryd.ntmps9
  go_wp2_with (refine wpList_buildSlice rfl 22 64 _ rfl (.slice (some ⟨w.heap.size, 0, none⟩) 64 64) (w' := w.alloc (.cells (twice [0, 1, 2, 10, 11, 12, 13, 30, 31, 32, 40, 50, 60, 61, 70, 71, 80, 81, 82, 83, 90, 91, 92, 110, 111, 112, 120, 121, 122, 123, 124, 125, 126, 127, 130, 140, 141, 142, 143, 144, 150, 160, 161, 162, 163, 170, 171, 172, 180, 190, 191, 210, 211, 212, 213, 214, 215, 216, 217, 218, 220, 221, 222, 223]).toArray 25)) (by kernel_rfl) ?_)
  go_ret
  exact ⟨rfl, pairs_lit w [0, 1, 2, 10, 11, 12, 13, 30, 31, 32, 40, 50, 60, 61, 70, 71, 80, 81, 82, 83, 90, 91, 92, 110, 111, 112, 120, 121, 122, 123, 124, 125, 126, 127, 130, 140, 141, 142, 143, 144, 150, 160, 161, 162, 163, 170, 171, 172, 180, 190, 191, 210, 211, 212, 213, 214, 215, 216, 217, 218, 220, 221, 222, 223] _ _ 64 rfl rfl, (Below.refl _ _).alloc (Nat.le_refl _) _⟩
end Go.Proofs.YtmfdiicnhfadmaaDoor
