/- SpaceApart's walk. -/
import Derived.Test.YtifmfnkpogconaaDoorDoes4
namespace Go.Proofs.YtifmfnkpogconaaDoor
open Go.RowKit

structure Ap4 (w0 W : World) (gW gs q g gw g2 gw2 fr to_ : Nat) (wsS wsC : List Nat) (v1 : Value) (l1 : List Nat) (v2 : Value) (l2 : List Nat) : Prop where
  bel : Below w0.heap.size w0 W
  blkW : W.heap[gW]? = some (.cells #[.slice (some ⟨gs, 0, none⟩) 1 1, .slice none 0 0, .slice none 0 0, .slice none 0 0, .int .i64 0] 34 (0, 0))
  blkS : W.heap[gs]? = some (.cells #[.pointer (some ⟨q, 0, none⟩)] 35 (0, 0))
  lo : w0.heap.size ≤ gs
  s : Sp W w0.heap.size g gw fr to_ wsS
  c : Sp W w0.heap.size g2 gw2 fr to_ wsC
  ne : gw ≠ gw2
  r1 : Row W w0.heap.size 3 v1 (iV l1)
  r2 : Row W w0.heap.size 3 v2 (iV l2)
section
variable {w0 W W' : World} {gW gs q g gw g2 gw2 fr to_ : Nat} {wsS wsC : List Nat} {v1 : Value} {l1 : List Nat} {v2 : Value} {l2 : List Nat}
theorem Ap4.below (h : Ap4 w0 W gW gs q g gw g2 gw2 fr to_ wsS wsC v1 l1 v2 l2) (hb : Below W.heap.size W W') : Ap4 w0 W' gW gs q g gw g2 gw2 fr to_ wsS wsC v1 l1 v2 l2 :=
  have hc : Ch 0 (fun _ => False) W W' := Ch.of_below hb
  ⟨h.bel.trans (hb.mono h.bel.size), hc.cells h.blkW id, hc.cells h.blkS id, h.lo, h.s.below hb, h.c.below hb, h.ne, h.r1.below hb, h.r2.below hb⟩
theorem Ap4.moveS (h : Ap4 w0 W gW gs q g gw g2 gw2 fr to_ wsS wsC v1 l1 v2 l2) (hm : Moved W W' w0.heap.size g gw fr to_) : ∃ ws, Ap4 w0 W' gW gs q g gw g2 gw2 fr to_ ws wsC v1 l1 v2 l2 := by
  obtain ⟨ws, m1, m2⟩ := hm
  obtain ⟨k1, cs, mk, k2⟩ := h.s.words
  have hc : Ch w0.heap.size (fun t => t = 71) W W' := Ch.of_grown m2 k1 k2 rfl
  exact ⟨ws, h.bel.trans (hc.below h.bel.size), hc.cells h.blkW (by decide), hc.cells h.blkS (by decide), h.lo, m1, h.c.apart m2 h.ne ⟨cs, mk, k2⟩, h.ne, h.r1.ch hc (by decide), h.r2.ch hc (by decide)⟩
theorem Ap4.moveC (h : Ap4 w0 W gW gs q g gw g2 gw2 fr to_ wsS wsC v1 l1 v2 l2) (hm : Moved W W' w0.heap.size g2 gw2 fr to_) : ∃ ws, Ap4 w0 W' gW gs q g gw g2 gw2 fr to_ wsS ws v1 l1 v2 l2 := by
  obtain ⟨ws, m1, m2⟩ := hm
  obtain ⟨k1, cs, mk, k2⟩ := h.c.words
  have hc : Ch w0.heap.size (fun t => t = 71) W W' := Ch.of_grown m2 k1 k2 rfl
  exact ⟨ws, h.bel.trans (hc.below h.bel.size), hc.cells h.blkW (by decide), hc.cells h.blkS (by decide), h.lo, h.s.apart m2 (fun e => h.ne e.symm) ⟨cs, mk, k2⟩, m1, h.ne, h.r1.ch hc (by decide), h.r2.ch hc (by decide)⟩
theorem Ap4.store (h : Ap4 w0 W gW gs q g gw g2 gw2 fr to_ wsS wsC v1 l1 v2 l2) (p : Nat) : Ap4 w0 (W.setCell ⟨gs, 0, none⟩ (.pointer (some ⟨p, 0, none⟩))) gW gs p g gw g2 gw2 fr to_ wsS wsC v1 l1 v2 l2 := by
  have hc : Ch w0.heap.size (fun t => t = 35) W (W.setCell ⟨gs, 0, none⟩ (.pointer (some ⟨p, 0, none⟩))) := Ch.of_grown (grown_set1 W gs 0 _) h.lo h.blkS rfl
  exact ⟨h.bel.trans (hc.below h.bel.size), hc.cells h.blkW (by decide), cells_of_set _ h.blkS, h.lo, h.s.ch hc (by decide) (by decide), h.c.ch hc (by decide) (by decide), h.ne, h.r1.ch hc (by decide), h.r2.ch hc (by decide)⟩
theorem Ap4.set2 (h : Ap4 w0 W gW gs q g gw g2 gw2 fr to_ wsS wsC v1 l1 v2 l2) {v3 : Value} {l3 : List Nat} (hr : Row W w0.heap.size 3 v3 (iV l3)) : Ap4 w0 W gW gs q g gw g2 gw2 fr to_ wsS wsC v1 l1 v3 l3 :=
  ⟨h.bel, h.blkW, h.blkS, h.lo, h.s, h.c, h.ne, h.r1, hr⟩
end
end Go.Proofs.YtifmfnkpogconaaDoor
