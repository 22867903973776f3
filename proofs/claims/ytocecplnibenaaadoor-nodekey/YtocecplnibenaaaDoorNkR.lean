/- Refs in memory. -/
import Derived.Test.YtocecplnibenaaaDoorNkP
namespace Go.Proofs.YtocecplnibenaaaDoor
open Go.RowKit Go.Maps

/-- A slice of refs: in this world it reads the list. -/
structure IsRf (w : World) (v : Value) (l : List Rf) : Prop where
  ok : ∀ r ∈ l, RfOk r
  val : ∃ a c, v = .slice a l.length c ∧ l.length ≤ c ∧ c ≤ 9223372036854775807 ∧ (0 < l.length → ∃ b o, a = some ⟨b, o, none⟩ ∧ ∀ j, j < l.length → w.rangeAt b (o + j * 34) (rfV (l.getD j default).hash (l.getD j default).fi (l.getD j default).ln))
theorem IsRf.below {w w' : World} {v : Value} {l : List Rf} (h : IsRf w v l) (hb : Below w.heap.size w w') : IsRf w' v l := by
  obtain ⟨h0, a, c, hv, hl, hm, hc⟩ := h
  refine ⟨h0, a, c, hv, hl, hm, fun hp => ?_⟩
  obtain ⟨b, o, ha, hcell⟩ := hc hp
  exact ⟨b, o, ha, fun j hj => range_kept (hcell j hj) hb⟩
theorem rf_get {l : List Rf} {P : Rf → Prop} (h : ∀ e ∈ l, P e) {j : Nat} (hj : j < l.length) : P (l.getD j default) := by
  rw [List.getD_eq_getElem?_getD, List.getElem?_eq_getElem hj]
  exact h _ (List.getElem_mem hj)
theorem rfV_fi {hs : List Int} {f n : Int} (h : hs.length = 32) : (rfV hs f n)[32]? = some (.int .i64 f) ∧ (rfV hs f n)[33]? = some (.int .i64 n) := by
  unfold rfV
  constructor
  · rw [List.getElem?_append_right (by rw [List.length_map, h]; omega), List.length_map, h]; rfl
  · rw [List.getElem?_append_right (by rw [List.length_map, h]; omega), List.length_map, h]; rfl
theorem infoRof {hs : List Int} {f n : Int} (h : hs.length = 32) : (Tryd.prog.info? 50).map (·.size) = some (rfV hs f n).length := by rw [rfV_len h]; exact infoRz
end Go.Proofs.YtocecplnibenaaaDoor
