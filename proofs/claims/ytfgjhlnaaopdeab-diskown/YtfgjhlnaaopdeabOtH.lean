/- DiskStays, walked whole. -/
import Derived.Test.YtfgjhlnaaopdeabOtG
import Derived.Test.YtfgjhlnaaopdeabDkO
namespace Go.Proofs.Ytfgjhlnaaopdeab
open Go.RowKit Go.Maps

/-- A sector that lasts, and to which nothing is written. -/
def Sy (D : AD) (i : Nat) (s : List Int) : Prop := D.la.getD i zsec = s ∧ D.wr i = []
theorem Sy.write {D : AD} {i j : Nat} {s t : List Int} (h : Sy D i s) (hj : j ≠ i) : Sy (D.write j t) i s := ⟨h.1, by simp only [AD.write]; rw [updF_other _ _ (fun e => hj e.symm)]; exact h.2⟩
theorem Sy.settle {D : AD} {i : Nat} {s : List Int} (h : Sy D i s) (hi : i < D.la.length) (fate : Nat → Int) : Sy (D.settle fate) i s := by
  refine ⟨?_, rfl⟩
  rw [AD.settle_at D fate hi, h.2, if_neg (by simp; omega)]
  exact h.1
theorem Sy.now {D : AD} {i : Nat} {s : List Int} (h : Sy D i s) : D.now i = s := by unfold AD.now; rw [h.2]; exact h.1
theorem Sy.reads {D : AD} {i : Nat} {s : List Int} (h : Sy D i s) (k : Nat) : Sy (D.reads k) i s := h
theorem Sy.made {D : AD} {i : Nat} {s : List Int} (hi : i < D.la.length) (hw : ∀ j, ((D.write i s).wr j).length < 9223372036854775807) : Sy (D.write i s).flush i s := by
  refine ⟨?_, rfl⟩
  rw [AD.flush_at (D.write i s) hi (hw i), now_write, if_pos rfl]
theorem settle_len (D : AD) (fate : Nat → Int) : (D.settle fate).la.length = D.la.length := AD.laAfter_len D fate _
/-- Lists of lists of writes that are handed in. -/
structure IsWrs (w : World) (v : Value) (ls : List Ats) : Prop where
  val : ∃ a cap, v = .slice a ls.length cap ∧ ls.length ≤ cap ∧ cap ≤ 9223372036854775807 ∧ (0 < ls.length → ∃ b off, a = some ⟨b, off, none⟩ ∧
    ∀ j, j < ls.length → ∃ u, w.cell? ⟨b, off + j, none⟩ = some u ∧ IsWr w u (ls.getD j []))
/-- Behind so many of the rounds. -/
def Ro (w wr : World) (B p n i : Nat) (s : List Int) : Prop := ∃ gl D, Dk1 w wr B p gl D ∧ D.la.length = n ∧ Sy D i s ∧ w.heap.size ≤ gl
theorem dk1_gl {w wr : World} {B p gl : Nat} {D : AD} (h : Dk1 w wr B p gl D) : w.heap.size ≤ gl := by
  obtain ⟨gm, V, h1, h2, h3⟩ := h.all
  exact h2 0 (by decide) gl (Or.inr (Or.inl rfl))
theorem isI_block {w : World} {v : Value} {xs : List Int} (h : IsI w v xs) {b : Nat} (hb : Value.inBlock v b) : b < w.heap.size := by
  obtain ⟨off, n, c, hv, hn⟩ := hb
  obtain ⟨_, a, cap, hv2, _, _, hc⟩ := h
  rw [hv] at hv2
  injection hv2 with e1 e2 e3
  obtain ⟨b2, off2, ha, hcell⟩ := hc (by omega)
  rw [ha] at e1
  injection e1 with e1
  injection e1 with e1
  subst e1
  exact World.block_lt_of_cell? w _ (hcell 0 (by omega))
end Go.Proofs.Ytfgjhlnaaopdeab
