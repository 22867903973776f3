/- A slice of ints. -/
import Derived.Test.YtcdilcjgmcamcabTkHb
namespace Go.Proofs.Ytcdilcjgmcamcab
open Go.RowKit Go.Maps

/-- The value is a slice of ints; in this world it reads the list. -/
structure IsI (w : World) (v : Value) (cs : List Int) : Prop where
  bd : ∀ c ∈ cs, -9223372036854775808 ≤ c ∧ c ≤ 9223372036854775807
  val : ∃ a cap, v = .slice a cs.length cap ∧ cs.length ≤ cap ∧ cap ≤ 9223372036854775807 ∧
    (0 < cs.length → ∃ b off, a = some ⟨b, off, none⟩ ∧ ∀ j, j < cs.length → w.cell? ⟨b, off + j, none⟩ = some (.int .i64 (cs.getD j 0)))
theorem IsI.below {w w' : World} {v : Value} {xs : List Int} (h : IsI w v xs) (hb : Below w.heap.size w w') : IsI w' v xs := by
  obtain ⟨h1, a, cap, hv, hl, hm, hc⟩ := h
  refine ⟨h1, a, cap, hv, hl, hm, fun hp => ?_⟩
  obtain ⟨b, off, ha, hcell⟩ := hc hp
  exact ⟨b, off, ha, fun j hj => (hb.cell (p := ⟨b, off + j, none⟩) (World.block_lt_of_cell? w _ (hcell j hj))).trans (hcell j hj)⟩
theorem IsI.at {w W : World} {a : Option Addr} {n c : Nat} {xs : List Int} (h : IsI w (.slice a n c) xs) (hb : Below w.heap.size w W) {i : Nat} (hi : i < xs.length) : ∃ b o, a = some ⟨b, o, none⟩ ∧ W.cell? ⟨b, o + i, none⟩ = some (.int .i64 (xs.getD i 0)) ∧ -9223372036854775808 ≤ xs.getD i 0 ∧ xs.getD i 0 ≤ 9223372036854775807 := by
  obtain ⟨h1, a', cap, hv, hl, hm, hc⟩ := h
  injection hv with e1 e2 e3
  subst e1 e2 e3
  obtain ⟨b, off, ha, hcell⟩ := hc (by omega)
  have := h1 (xs.getD i 0) (by rw [List.getD_eq_getElem?_getD, List.getElem?_eq_getElem hi]; exact List.getElem_mem hi)
  exact ⟨b, off, ha, (hb.cell (p := ⟨b, off + i, none⟩) (World.block_lt_of_cell? w _ (hcell i hi))).trans (hcell i hi), this.1, this.2⟩
end Go.Proofs.Ytcdilcjgmcamcab
