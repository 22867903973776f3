/- The table of limits: each number is the document's. -/
import Derived.Test.YtmfdiicnhfadmaaDoorNames
namespace Go.Proofs.YtmfdiicnhfadmaaDoor
open Go.RowKit

set_option maxRecDepth 100000 in
set_option maxHeartbeats 1000000 in
theorem limits_calls (w : World) : Calls Tryd.prog 10 #[] w fun e w' => e = .returned (.slice (some ⟨w.heap.size, 0, none⟩) 49 49) ∧ Pairs w' w.heap.size 49 ∧ Below w.heap.size w w' := by
  go_enter Tryd.func10, Tryd.ntmps10
  go_wp2_with (refine wpList_buildSlice rfl 22 49 _ rfl (.slice (some ⟨w.heap.size, 0, none⟩) 49 49) (w' := w.alloc (.cells (twice [512, 480, 2, 65536, 8, 1024, 64, 255, 16, 1024, 4096, 1048576, 262144, 33554432, 65536, 256, 64, 8, 64, 1048576, 255, 2147483647, 64, 1099511627776, 65536, 512, 4096, 1, 2, 3, 4, 5, 6, 7, 1, 2, 3, 4, 5, 6, 7, 8, 9, 10, 11, 12, 13, 14, 15]).toArray 25)) (by kernel_rfl) ?_)
  go_ret
  exact ⟨rfl, pairs_lit w [512, 480, 2, 65536, 8, 1024, 64, 255, 16, 1024, 4096, 1048576, 262144, 33554432, 65536, 256, 64, 8, 64, 1048576, 255, 2147483647, 64, 1099511627776, 65536, 512, 4096, 1, 2, 3, 4, 5, 6, 7, 1, 2, 3, 4, 5, 6, 7, 8, 9, 10, 11, 12, 13, 14, 15] _ _ 49 rfl rfl, (Below.refl _ _).alloc (Nat.le_refl _) _⟩
end Go.Proofs.YtmfdiicnhfadmaaDoor
