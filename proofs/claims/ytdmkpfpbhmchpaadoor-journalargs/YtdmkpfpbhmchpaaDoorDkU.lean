/- What Turn answers. -/
import Derived.Test.YtdmkpfpbhmchpaaDoorDkT
namespace Go.Proofs.YtdmkpfpbhmchpaaDoor
open Go.RowKit Go.Maps

theorem there_of_block {w w' : World} {b o n : Nat} (h : w.there b o n) (hb : w'.heap[b]? = w.heap[b]?) : w'.there b o n := fun j hj => by
  obtain ⟨h1, h2⟩ := h j hj
  exact ⟨by rw [World.cell?_of_block (a := ⟨b, o + j, none⟩) hb]; exact h1, by rw [World.frozen?_of_block (a := ⟨b, o + j, none⟩) hb]; exact h2⟩
end Go.Proofs.YtdmkpfpbhmchpaaDoor
