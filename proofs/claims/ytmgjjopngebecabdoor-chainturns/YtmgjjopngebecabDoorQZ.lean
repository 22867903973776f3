/- The document's words behind one block. -/
import Derived.Test.YtmgjjopngebecabDoorQY
import Derived.Test.YtmgjjopngebecabDoorQL
namespace Go.Proofs.YtmgjjopngebecabDoor
open Go.RowKit

/-- The blocks of the words, of the table and of the answer. -/
structure Blk (w wr : World) (sv KT : List Value) : Prop where
  s : Arr wr w.heap.size 153 sv
  k : Arr wr (w.heap.size + 1) 170 KT
  r : Arr wr (w.heap.size + 1 + 1) 153 (List.replicate 8 (.int .u32 0))
  b : Below w.heap.size w wr
theorem Blk.drew {w wr : World} {sv KT : List Value} (h : Blk w wr sv KT) : Blk w wr.drew sv KT := ⟨h.s.drew, h.k.drew, h.r.drew, h.b.drew⟩
theorem Blk.set {w wr : World} {sv KT : List Value} (h : Blk w wr sv KT) (g j : Nat) (u : Value) (hg : w.heap.size + 1 + 1 < g) : Blk w (wr.setCell ⟨g, j, none⟩ u) sv KT :=
  ⟨h.s.other _ _ (show w.heap.size ≠ g by omega), h.k.other _ _ (show w.heap.size + 1 ≠ g by omega), h.r.other _ _ (show w.heap.size + 1 + 1 ≠ g by omega), h.b.setCell (p := ⟨g, j, none⟩) (show w.heap.size ≤ g by omega) _⟩
theorem Blk.alloc {w wr : World} {sv KT : List Value} (h : Blk w wr sv KT) (o : Obj) : Blk w (wr.alloc o) sv KT := ⟨h.s.alloc o, h.k.alloc o, h.r.alloc o, h.b.alloc h.b.size o⟩
theorem Blk.wrote {w wr wr' : World} {sv KT : List Value} {g : Nat} (h : Blk w wr sv KT) (hw : Wrote wr wr' g) (hg : w.heap.size + 1 + 1 < g) : Blk w wr' sv KT :=
  ⟨h.s.wrote hw (by omega), h.k.wrote hw (by omega), h.r.wrote hw (by omega), hw.below _ _ h.b (by omega)⟩
theorem Blk.setS {w wr : World} {sv KT : List Value} (h : Blk w wr sv KT) (j : Nat) (u : Value) : Blk w (wr.setCell ⟨w.heap.size, j, none⟩ u) (sv.set j u) KT :=
  ⟨h.s.set j u, h.k.other _ _ (show w.heap.size + 1 ≠ w.heap.size by omega), h.r.other _ _ (show w.heap.size + 1 + 1 ≠ w.heap.size by omega), h.b.setCell (p := ⟨w.heap.size, j, none⟩) (Nat.le_refl _) _⟩
/-- The j-th word. -/
def H8.at_ (s : H8) (j : Nat) : Int := [s.a, s.b, s.c, s.d, s.e, s.f, s.g, s.h].getD j 0
theorem H8.vals_at (s : H8) : ∀ j, j < 8 → s.vals[j]? = some (.int .u32 (s.at_ j))
  | 0, _ => rfl | 1, _ => rfl | 2, _ => rfl | 3, _ => rfl | 4, _ => rfl | 5, _ => rfl | 6, _ => rfl | 7, _ => rfl
  | _ + 8, h => by omega
theorem H8.plus_at (s t : H8) : ∀ j, j < 8 → (s.plus t).at_ j = (s.at_ j + t.at_ j) % 4294967296
  | 0, _ => rfl | 1, _ => rfl | 2, _ => rfl | 3, _ => rfl | 4, _ => rfl | 5, _ => rfl | 6, _ => rfl | 7, _ => rfl
  | _ + 8, h => by omega
/-- The first k of one list, the rest of the other one. -/
def mixV (sv pv : List Value) (k : Nat) : List Value := pv.take k ++ sv.drop k
theorem mixV_at {sv pv : List Value} {k : Nat} (h1 : k ≤ pv.length) : (mixV sv pv k)[k]? = sv[k]? := by
  unfold mixV
  rw [List.getElem?_append_right (by simp; omega), List.getElem?_drop]
  congr 1
  simp; omega
theorem mixV_set {sv pv : List Value} {k : Nat} {u : Value} (h1 : k < pv.length) (h2 : k < sv.length) (hu : pv[k]? = some u) : (mixV sv pv k).set k u = mixV sv pv (k + 1) := by
  unfold mixV
  rw [List.set_append_right _ _ (by simp; omega), List.take_add_one, hu]
  have e : k - (pv.take k).length = 0 := by simp; omega
  rw [e, List.drop_eq_getElem_cons h2, List.set_cons_zero, List.append_assoc]
  rfl
theorem blk_new (w : World) (sv KT : List Value) :
    Blk w ((((w.alloc (.cells sv.toArray 153)).alloc (.cells KT.toArray 170)).alloc (.cells (List.replicate 8 (.int .u32 0)).toArray 153)).alloc (.cells (row64 []).toArray 170)) sv KT ∧
    Arr ((((w.alloc (.cells sv.toArray 153)).alloc (.cells KT.toArray 170)).alloc (.cells (List.replicate 8 (.int .u32 0)).toArray 153)).alloc (.cells (row64 []).toArray 170)) (w.heap.size + 1 + 1 + 1) 170 (row64 []) := by
  have h1 := Arr.new w sv 153
  have h2 := Arr.new (w.alloc (.cells sv.toArray 153)) KT 170
  have h3 := Arr.new ((w.alloc (.cells sv.toArray 153)).alloc (.cells KT.toArray 170)) (List.replicate 8 (.int .u32 0)) 153
  have h4 := Arr.new (((w.alloc (.cells sv.toArray 153)).alloc (.cells KT.toArray 170)).alloc (.cells (List.replicate 8 (.int .u32 0)).toArray 153)) (row64 []) 170
  rw [size_alloc] at h2
  rw [size_alloc, size_alloc] at h3
  rw [size_alloc, size_alloc, size_alloc] at h4
  have b1 := (Below.refl w.heap.size w).alloc (Nat.le_refl _) (.cells sv.toArray 153)
  have b2 := b1.alloc b1.size (.cells KT.toArray 170)
  have b3 := b2.alloc b2.size (.cells (List.replicate 8 (.int .u32 0)).toArray 153)
  exact ⟨⟨((h1.alloc _).alloc _).alloc _, (h2.alloc _).alloc _, h3.alloc _, b3.alloc b3.size _⟩, h4⟩

end Go.Proofs.YtmgjjopngebecabDoor
