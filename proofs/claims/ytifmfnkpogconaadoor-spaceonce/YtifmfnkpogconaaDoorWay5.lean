/- SpaceWay: two spaces and the numbers that are gone, in memory. -/
import Derived.Test.YtifmfnkpogconaaDoorWay4
namespace Go.Proofs.YtifmfnkpogconaaDoor
open Go.RowKit

/-- The value is a slice of ints; in this world it reads the list. -/
structure IsI (w : World) (v : Value) (cs : List Int) : Prop where
  bd : ∀ c ∈ cs, -9223372036854775808 ≤ c ∧ c ≤ 9223372036854775807
  val : ∃ a cap, v = .slice a cs.length cap ∧ cs.length ≤ cap ∧ cap ≤ 9223372036854775807 ∧
    (0 < cs.length → ∃ b off, a = some ⟨b, off, none⟩ ∧ ∀ j, j < cs.length → w.cell? ⟨b, off + j, none⟩ = some (.int .i64 (cs.getD j 0)))
structure Wm (w0 W : World) (ga gwa gb gwb gg n f t : Nat) (wsA wsB : List Nat) (gl : List Bool) : Prop where
  bel : Below w0.heap.size w0 W
  a : Sp W w0.heap.size ga gwa f t wsA
  b : Sp W w0.heap.size gb gwb f t wsB
  ne : gwa ≠ gwb
  gone : Row W w0.heap.size 4 (.slice (some ⟨gg, 0, none⟩) n n) (bV gl)
  len : gl.length = n
section
variable {w0 W W' : World} {ga gwa gb gwb gg n f t : Nat} {wsA wsB : List Nat} {gl : List Bool}
theorem Wm.below (h : Wm w0 W ga gwa gb gwb gg n f t wsA wsB gl) (hb : Below W.heap.size W W') : Wm w0 W' ga gwa gb gwb gg n f t wsA wsB gl :=
  ⟨h.bel.trans (hb.mono h.bel.size), h.a.below hb, h.b.below hb, h.ne, h.gone.below hb, h.len⟩
theorem Wm.moveA (h : Wm w0 W ga gwa gb gwb gg n f t wsA wsB gl) {ws : List Nat} (m1 : Sp W' w0.heap.size ga gwa f t ws) (m2 : W.grownBy W' (some gwa)) : Wm w0 W' ga gwa gb gwb gg n f t ws wsB gl := by
  obtain ⟨k1, cs, mk, k2⟩ := h.a.words
  have hc : Ch w0.heap.size (fun t => t = 71) W W' := Ch.of_grown m2 k1 k2 rfl
  exact ⟨h.bel.trans (hc.below h.bel.size), m1, h.b.apart m2 h.ne ⟨cs, mk, k2⟩, h.ne, h.gone.ch hc (by decide), h.len⟩
theorem Wm.moveB (h : Wm w0 W ga gwa gb gwb gg n f t wsA wsB gl) {ws : List Nat} (m1 : Sp W' w0.heap.size gb gwb f t ws) (m2 : W.grownBy W' (some gwb)) : Wm w0 W' ga gwa gb gwb gg n f t wsA ws gl := by
  obtain ⟨k1, cs, mk, k2⟩ := h.b.words
  have hc : Ch w0.heap.size (fun t => t = 71) W W' := Ch.of_grown m2 k1 k2 rfl
  exact ⟨h.bel.trans (hc.below h.bel.size), h.a.apart m2 (fun e => h.ne e.symm) ⟨cs, mk, k2⟩, m1, h.ne, h.gone.ch hc (by decide), h.len⟩
theorem Wm.mark (h : Wm w0 W ga gwa gb gwb gg n f t wsA wsB gl) (k : Nat) (x : Bool) : Wm w0 (W.setCell ⟨gg, k, none⟩ (.bool x)) ga gwa gb gwb gg n f t wsA wsB (gl.set k x) := by
  obtain ⟨r1, r2⟩ := h.gone.set k (.bool x)
  obtain ⟨k1, cs, mk, k2⟩ := h.gone.cellsAt
  have hc : Ch w0.heap.size (fun t => t = 4) W (W.setCell ⟨gg, k, none⟩ (.bool x)) := Ch.of_grown r2 k1 k2 rfl
  have e : (bV gl).set k (.bool x) = bV (gl.set k x) := by unfold bV; rw [List.map_set]
  exact ⟨h.bel.trans (hc.below h.bel.size), h.a.ch hc (by decide) (by decide), h.b.ch hc (by decide) (by decide), h.ne, by rw [← e]; exact r1, by rw [List.length_set]; exact h.len⟩
theorem Wm.cell (h : Wm w0 W ga gwa gb gwb gg n f t wsA wsB gl) {k : Nat} (hk : k < n) : W.cell? ⟨gg, k, none⟩ = some (.bool (gl.getD k false)) ∧ W.frozen? ⟨gg, k, none⟩ = false := by
  have hl := h.len
  refine ⟨?_, h.gone.frozenAt k⟩
  rw [h.gone.cellAt (by rw [bV_len]; omega)]
  unfold bV
  rw [List.getElem?_map, List.getD_eq_getElem?_getD, List.getElem?_eq_getElem (by omega)]
  rfl
end
theorem madeB (n : Nat) : (madeCells (Value.bool false).cells (n * 1)).toList = bV (List.replicate n false) := by
  have h : (Value.bool false).cells = #[Value.bool false] := rfl
  simp [madeCells, h, Nat.mod_one, List.map_const', bV]
theorem not_set {bs : List Bool} {k : Nat} : (bs.map (!·)).set k true = (bs.set k false).map (!·) := by rw [List.map_set]; rfl
theorem not_get {bs : List Bool} {k : Nat} (hk : k < bs.length) : (bs.map (!·)).getD k false = !(bs.getD k false) := by
  rw [List.getD_eq_getElem?_getD, List.getD_eq_getElem?_getD, List.getElem?_map, List.getElem?_eq_getElem hk]
  rfl
end Go.Proofs.YtifmfnkpogconaaDoor
