/- Turns in memory. -/
import Derived.Test.YtpklbchbldipnabDoorNaB
namespace Go.Proofs.YtpklbchbldipnabDoor
open Go.RowKit Go.Maps

def tnV (t : Int × Int × Int) : List Value := [.int .i64 t.1, .int .i64 t.2.1, .int .i64 t.2.2]
/-- A slice of turns: in this world it reads the list. -/
structure IsTn (w : World) (v : Value) (l : List (Int × Int × Int)) : Prop where
  ok : ∀ t ∈ l, -9223372036854775808 ≤ t.2.2 ∧ t.2.2 ≤ 9223372036854775807
  val : ∃ a c, v = .slice a l.length c ∧ l.length ≤ c ∧ c ≤ 9223372036854775807 ∧ (0 < l.length → ∃ b o, a = some ⟨b, o, none⟩ ∧ ∀ j, j < l.length → w.rangeAt b (o + j * 3) (tnV (l.getD j default)))
theorem IsTn.below {w w' : World} {v : Value} {l : List (Int × Int × Int)} (h : IsTn w v l) (hb : Below w.heap.size w w') : IsTn w' v l := by
  obtain ⟨h0, a, c, hv, hl, hm, hc⟩ := h
  refine ⟨h0, a, c, hv, hl, hm, fun hp => ?_⟩
  obtain ⟨b, o, ha, hcell⟩ := hc hp
  exact ⟨b, o, ha, fun j hj => range_kept (hcell j hj) hb⟩
end Go.Proofs.YtpklbchbldipnabDoor
