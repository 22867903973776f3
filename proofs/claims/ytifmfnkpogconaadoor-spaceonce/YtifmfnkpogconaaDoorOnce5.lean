/- SpaceOnce: a space and the numbers that are out, in memory. -/
import Derived.Test.YtifmfnkpogconaaDoorOnce4
import Derived.Test.YtifmfnkpogconaaDoorDoes4
namespace Go.Proofs.YtifmfnkpogconaaDoor
open Go.RowKit

structure Om (w0 W : World) (g gw gg n f t : Nat) (ws : List Nat) (bs : List Bool) : Prop where
  bel : Below w0.heap.size w0 W
  s : Sp W w0.heap.size g gw f t ws
  out : Row W w0.heap.size 4 (.slice (some ⟨gg, 0, none⟩) n n) (bV (bs.map (!·)))
  len : bs.length = n
section
variable {w0 W W' : World} {g gw gg n f t : Nat} {ws : List Nat} {bs : List Bool}
theorem Om.below (h : Om w0 W g gw gg n f t ws bs) (hb : Below W.heap.size W W') : Om w0 W' g gw gg n f t ws bs :=
  ⟨h.bel.trans (hb.mono h.bel.size), h.s.below hb, h.out.below hb, h.len⟩
theorem Om.move (h : Om w0 W g gw gg n f t ws bs) {ws' : List Nat} (m1 : Sp W' w0.heap.size g gw f t ws') (m2 : W.grownBy W' (some gw)) : Om w0 W' g gw gg n f t ws' bs ∧ Ch 0 (fun t => t = 71) W W' := by
  obtain ⟨k1, cs, mk, k2⟩ := h.s.words
  have hc : Ch w0.heap.size (fun t => t = 71) W W' := Ch.of_grown m2 k1 k2 rfl
  exact ⟨⟨h.bel.trans (hc.below h.bel.size), m1, h.out.ch hc (by decide), h.len⟩, hc.mono (Nat.zero_le _) fun _ h => h⟩
theorem Om.mark (h : Om w0 W g gw gg n f t ws bs) (k : Nat) (x : Bool) : Om w0 (W.setCell ⟨gg, k, none⟩ (.bool x)) g gw gg n f t ws (bs.set k (!x)) ∧ Ch 0 (fun t => t = 4) W (W.setCell ⟨gg, k, none⟩ (.bool x)) := by
  obtain ⟨r1, r2⟩ := h.out.set k (.bool x)
  obtain ⟨k1, cs, mk, k2⟩ := h.out.cellsAt
  have hc : Ch w0.heap.size (fun t => t = 4) W (W.setCell ⟨gg, k, none⟩ (.bool x)) := Ch.of_grown r2 k1 k2 rfl
  have e : (bV (bs.map (!·))).set k (.bool x) = bV ((bs.set k (!x)).map (!·)) := by
    unfold bV
    rw [List.map_set, List.map_set, Bool.not_not]
  exact ⟨⟨h.bel.trans (hc.below h.bel.size), h.s.ch hc (by decide) (by decide), by rw [← e]; exact r1, by rw [List.length_set]; exact h.len⟩, hc.mono (Nat.zero_le _) fun _ h => h⟩
theorem Om.cell (h : Om w0 W g gw gg n f t ws bs) {k : Nat} (hk : k < n) : W.cell? ⟨gg, k, none⟩ = some (.bool (!(bs.getD k false))) ∧ W.frozen? ⟨gg, k, none⟩ = false := by
  have hl := h.len
  refine ⟨?_, h.out.frozenAt k⟩
  rw [h.out.cellAt (by rw [bV_len, List.length_map]; omega), ← not_get (by omega)]
  unfold bV
  rw [List.getElem?_map, List.getD_eq_getElem?_getD, List.getElem?_eq_getElem (by rw [List.length_map]; omega)]
  rfl
end
end Go.Proofs.YtifmfnkpogconaaDoor
