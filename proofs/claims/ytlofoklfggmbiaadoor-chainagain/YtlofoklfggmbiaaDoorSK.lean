/- sameInts of any slices of ints that hold the same; slices of slices of ints. Slices of ints, cut, as equations; what the calls of the chain's laws enter. chain's statements: sectors in rows of slices, wherever they lie; what the disk's blocks are. chain's statements: the document's Lay. Refs and acts held against one another; what is read behind a guard. -/
import Derived.Test.YtlofoklfggmbiaaDoorSG
import Derived.Test.YtlofoklfggmbiaaDoorRL
import Derived.Deep.QuietTactic
import Derived.Test.YtlofoklfggmbiaaDoorSH
import Derived.Test.YtlofoklfggmbiaaDoorRK
import Derived.Test.YtlofoklfggmbiaaDoorRI
import Derived.Test.YtlofoklfggmbiaaDoorRJ
import Derived.Test.YtlofoklfggmbiaaDoorQH
namespace Go.Proofs.YtlofoklfggmbiaaDoor
open Go.RowKit Go.Maps

end Go.Proofs.YtlofoklfggmbiaaDoor

namespace Go.Proofs.YtlofoklfggmbiaaDoor
open Go.RowKit Go.Maps

theorem num6_enter (v : Value) (W : World) : (callFunc 10 #[v]).run Tryd.prog W = .ok (.enter 10 #[v]) W := by kernel_rfl
end Go.Proofs.YtlofoklfggmbiaaDoor

namespace Go.Proofs.YtlofoklfggmbiaaDoor
open Go.RowKit Go.Maps

/-- A block of cells of that type. -/
def Ty (W : World) (b : Nat) (t : TypeId) : Prop := ∃ c m, W.heap[b]? = some (.cells c t m)
theorem Arr.ty {W : World} {g : Nat} {t : TypeId} {cs : List Value} (h : Arr W g t cs) : Ty W g t := ⟨_, _, h⟩
theorem Ty.one {W : World} {b : Nat} {t t' : TypeId} (h : Ty W b t) (h' : Ty W b t') : t = t' := by
 obtain ⟨c, m, h⟩ := h
 obtain ⟨c', m', h'⟩ := h'
 rw [h] at h'
 simp only [Option.some.injEq, Obj.cells.injEq] at h'
 exact h'.2.1
theorem Ty.lt {W : World} {b : Nat} {t : TypeId} (h : Ty W b t) : b < W.heap.size := by
 obtain ⟨c, m, h⟩ := h
 exact (Array.getElem?_eq_some_iff.1 h).1
theorem Ty.up {F : Nat → Prop} {W W' : World} {b : Nat} {t : TypeId} (h : Ty W b t) (hu : Up F W W') (hF : ¬ F b) : Ty W' b t := by
 obtain ⟨c, m, h⟩ := h
 exact ⟨c, m, hu.cells h hF⟩
theorem Dk.ty {W : World} {p gl gm : Nat} {V : Nat → Value} {D : AD} (h : Dk W p gl gm V D) {b : Nat} (hb : Ft p gl gm V b) {t : TypeId} (ht : Ty W b t) : t = 116 ∨ t = 118 := by
 rcases hb with rfl | rfl | rfl | ⟨i, e⟩
 · exact Or.inl (ht.one h.blk.ty)
 · obtain ⟨_, c, m, h1⟩ := row_blk h.las rfl
   exact Or.inr (ht.one ⟨c, m, h1⟩)
 · obtain ⟨M, ⟨es, clock, hb, _⟩, _⟩ := h.map
   obtain ⟨c, m, ht⟩ := ht
   rw [hb] at ht
   cases ht
 · obtain ⟨_, c, m, h1⟩ := row_blk (h.row i) e
   exact Or.inr (ht.one ⟨c, m, h1⟩)
end Go.Proofs.YtlofoklfggmbiaaDoor

namespace Go.Proofs.YtlofoklfggmbiaaDoor
open Go.RowKit Go.Maps

end Go.Proofs.YtlofoklfggmbiaaDoor

namespace Go.Proofs.YtlofoklfggmbiaaDoor
open Go.RowKit Go.Maps

theorem infoK6 : (Tryd.prog.info? 32).map (·.size) = some 32 := by kernel_rfl
end Go.Proofs.YtlofoklfggmbiaaDoor
