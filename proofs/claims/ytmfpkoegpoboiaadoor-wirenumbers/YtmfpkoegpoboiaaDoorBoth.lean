/- What both answers: true. -/
import Derived.Test.YtmfpkoegpoboiaaDoorRoomy
namespace Go.Proofs.YtmfpkoegpoboiaaDoor
open Go.RowKit

set_option maxRecDepth 100000 in
set_option maxHeartbeats 2000000 in
theorem both_calls (w : World) : Calls Tryd.prog 10 #[] w fun e w' => e = .returned (.bool true) ∧ Below w.heap.size w w' := by
  have HB0 := hide (Below.refl w.heap.size w)
  go_enter Tryd.func10, Tryd.ntmps10
  go_wp2_with fail
  have i1 : IsB (w.alloc (.cells #[.int .u8 1] 5)) (.slice (some ⟨w.heap.size, 0, none⟩) 1 1) [1] := isB_lit w [1] _ rfl 1 rfl (by decide) (by decide)
  have n1 := below_step (unhide HB0) (lit_below w (.cells #[.int .u8 1] 5))
  refine (rfixed_e i1 (show rdF [1] 2 9 = (0, 0, 1) by decide +kernel)).mono ?_
  rintro e w1 ⟨rfl, hw⟩
  have HB1 := hide (show Below w.heap.size w w1 by rw [hw]; exact n1)
  clear hw i1 n1
  clear HB0
  go_wp2_with fail
  have i2 : IsB (w1.alloc (.cells #[.int .u8 1] 5)) (.slice (some ⟨w1.heap.size, 0, none⟩) 1 1) [1] := isB_lit w1 [1] _ rfl 1 rfl (by decide) (by decide)
  have n2 := below_step (unhide HB1) (lit_below w1 (.cells #[.int .u8 1] 5))
  refine (rfixed_e i2 (show rdF [1] 1 9 = (0, 0, 1) by decide +kernel)).mono ?_
  rintro e w2 ⟨rfl, hw⟩
  have HB2 := hide (show Below w.heap.size w w2 by rw [hw]; exact n2)
  clear hw i2 n2
  clear HB1
  go_wp2_with fail
  have i3 : IsB (w2.alloc (.cells #[.int .u8 128] 5)) (.slice (some ⟨w2.heap.size, 0, none⟩) 1 1) [128] := isB_lit w2 [128] _ rfl 1 rfl (by decide) (by decide)
  have n3 := below_step (unhide HB2) (lit_below w2 (.cells #[.int .u8 128] 5))
  refine (rbytes_e i3 (by decide) (by decide) (show rdB [128] 2 (-1) = ([], 0, 1) by decide +kernel)).mono ?_
  rintro e w3 ⟨x3, y3, z3, rfl, -, hb⟩
  have HB3 := hide (below_step n3 hb)
  clear hb i3 n3
  clear HB2
  go_wp2_with fail
  have i4 : IsB (w3.alloc (.cells #[.int .u8 128] 5)) (.slice (some ⟨w3.heap.size, 0, none⟩) 1 1) [128] := isB_lit w3 [128] _ rfl 1 rfl (by decide) (by decide)
  have n4 := below_step (unhide HB3) (lit_below w3 (.cells #[.int .u8 128] 5))
  refine (rbytes_e i4 (by decide) (by decide) (show rdB [128] 0 (-1) = ([], 0, 1) by decide +kernel)).mono ?_
  rintro e w4 ⟨x4, y4, z4, rfl, -, hb⟩
  have HB4 := hide (below_step n4 hb)
  clear hb i4 n4
  clear HB3
  go_wp2_with fail
  have i5 : IsB (w4.alloc (.cells #[.int .u8 128, .int .u8 0] 5)) (.slice (some ⟨w4.heap.size, 0, none⟩) 2 2) [128, 0] := isB_lit w4 [128, 0] _ rfl 2 rfl (by decide) (by decide)
  have n5 := below_step (unhide HB4) (lit_below w4 (.cells #[.int .u8 128, .int .u8 0] 5))
  refine (rbytes_e i5 (by decide) (by decide) (show rdB [128, 0] 0 0 = ([], 0, 11) by decide +kernel)).mono ?_
  rintro e w5 ⟨x5, y5, z5, rfl, -, hb⟩
  have HB5 := hide (below_step n5 hb)
  clear hb i5 n5
  clear HB4
  go_wp2_with fail
  have i6 : IsB (w5.alloc (.cells #[.int .u8 9] 5)) (.slice (some ⟨w5.heap.size, 0, none⟩) 1 1) [9] := isB_lit w5 [9] _ rfl 1 rfl (by decide) (by decide)
  have n6 := below_step (unhide HB5) (lit_below w5 (.cells #[.int .u8 9] 5))
  refine (rbytes_e i6 (by decide) (by decide) (show rdB [9] 0 8 = ([], 0, 13) by decide +kernel)).mono ?_
  rintro e w6 ⟨x6, y6, z6, rfl, -, hb⟩
  have HB6 := hide (below_step n6 hb)
  clear hb i6 n6
  clear HB5
  go_wp2_with fail
  refine (fixed_arg 999 9 _ (by decide)).mono ?_
  rintro e w7 ⟨rfl, hw⟩
  obtain rfl := hw.symm
  clear hw
  go_wp2_with (go_at_call 16; refine (num_calls _ _).mono ?_; rintro e w' ⟨rfl, hw'⟩; obtain rfl := hw'.symm)
  go_ret
  exact ⟨rfl, unhide HB6⟩
end Go.Proofs.YtmfpkoegpoboiaaDoor
