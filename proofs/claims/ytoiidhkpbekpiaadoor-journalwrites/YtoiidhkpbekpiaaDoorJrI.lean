/- What the document's Decode answers. -/
import Derived.Test.YtoiidhkpbekpiaaDoorJrH
import Derived.Test.YtoiidhkpbekpiaaDoorJrF
namespace Go.Proofs.YtoiidhkpbekpiaaDoor
open Go.RowKit Go.Maps

theorem grown_set (W : World) (g j : Nat) (u : Value) : W.grownBy (W.setCell ⟨g, j, none⟩ u) (some g) := ⟨rfl, rfl, rfl, by simp, fun k _ hk => Below.heap_setCell W ⟨g, j, none⟩ u k (fun e => hk (by rw [e]))⟩
theorem arr_apart {W : World} {g g' : Nat} {t t' : TypeId} {cs cs' : List Value} (h : Arr W g t cs) (h' : Arr W g' t' cs') (ht : t ≠ t') : g ≠ g' := fun e => by
  subst e
  unfold Arr at h h'
  rw [h] at h'
  simp only [Option.some.injEq, Obj.cells.injEq] at h'
  exact ht h'.2.1
end Go.Proofs.YtoiidhkpbekpiaaDoor
