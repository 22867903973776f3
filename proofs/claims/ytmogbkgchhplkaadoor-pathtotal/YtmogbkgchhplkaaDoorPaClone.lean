/- strings.Clone, by the library's own contract: the numbering is ours. -/
import Derived.Test.YtmogbkgchhplkaaDoorPaCont
import Derived.Shelf.Pu.Clone
namespace Go.Proofs.YtmogbkgchhplkaaDoor
open Go.RowKit Go.Shelf

def renC : Ren := ⟨fun n => if n = 25 then 47 else 0, fun n => if n = 3 then 3 else if n = 4 then 4 else if n = 5 then 5 else if n = 9 then 9 else if n = 37 then 54 else if n = 47 then 64 else 0, fun n => n⟩
theorem laysC : LaysPu.n25 Tryd.prog renC := by
  constructor
  all_goals first | kernel_rfl | (intro w; kernel_rfl)
theorem clone1_calls (s : ByteArray) (hs : s.size ≤ 1000000) (w : World) : Calls Tryd.prog 47 #[.string s] w fun e w' => e = .returned (.string s) ∧ Below w.heap.size w w' := AnyPu.stringslite_Clone laysC s w (by omega)
set_option maxHeartbeats 1000000 in
theorem clone_calls (s : ByteArray) (hs : s.size ≤ 1000000) (w : World) : Calls Tryd.prog 36 #[.string s] w fun e w' => e = .returned (.string s) ∧ Below w.heap.size w w' := by
  have H := hide (clone1_calls s hs w)
  go_enter Tryd.func36, Tryd.ntmps36
  go_wp2_with fail
  refine (unhide H).mono ?_
  rintro e w1 ⟨rfl, hb1⟩
  go_wp2
  go_ret
  exact ⟨rfl, hb1⟩
end Go.Proofs.YtmogbkgchhplkaaDoor
