/- New's refusal; From, To. -/
import Derived.Test.YtifmfnkpogconaaDoorSpNew
namespace Go.Proofs.YtifmfnkpogconaaDoor
open Go.RowKit

set_option maxRecDepth 100000 in
set_option maxHeartbeats 2000000 in
theorem new_no {w : World} (fr to_ : Int) (h : fr < 0 ∨ to_ ≤ fr ∨ 65536 < to_) :
    Calls Tryd.prog 16 #[.int .i64 fr, .int .i64 to_] w fun e w' => e = .returned (.tuple #[.pointer none, .int .i64 40]) ∧ Below w.heap.size w w' := by
  obtain ⟨b1, e1⟩ : ∃ b, decide (fr < 0) = b := ⟨_, rfl⟩
  obtain ⟨b2, e2⟩ : ∃ b, decide (fr ≥ to_) = b := ⟨_, rfl⟩
  obtain ⟨b3, e3⟩ : ∃ b, decide (to_ > 65536) = b := ⟨_, rfl⟩
  have hb : (b1 || (b2 || b3)) = true := by
    rw [← e1, ← e2, ← e3]
    simp only [Bool.or_eq_true, decide_eq_true_eq]
    omega
  clear h
  go_enter Tryd.func16, Tryd.ntmps16
  cases b1 <;> cases b2 <;> cases b3 <;> first | (exact absurd hb (by decide)) | skip
  all_goals (go_wp2; go_ret2; exact ⟨rfl, Below.refl _ _⟩)
set_option maxRecDepth 100000 in
set_option maxHeartbeats 2000000 in
theorem from_calls {w : World} {B g gw fr to_ : Nat} {ws : List Nat} (h : Sp w B g gw fr to_ ws) :
    Calls Tryd.prog 28 #[.pointer (some ⟨g, 0, none⟩)] w fun e w' => e = .returned (.int .i64 (fr : Int)) ∧ Below w.heap.size w w' := by
  obtain ⟨c, c0, c1, c2, hR⟩ := h.view
  clear hR
  go_enter Tryd.func28, Tryd.ntmps28
  go_wp2
  go_ret
  exact ⟨rfl, Below.refl _ _⟩
set_option maxRecDepth 100000 in
set_option maxHeartbeats 2000000 in
theorem to_calls {w : World} {B g gw fr to_ : Nat} {ws : List Nat} (h : Sp w B g gw fr to_ ws) :
    Calls Tryd.prog 29 #[.pointer (some ⟨g, 0, none⟩)] w fun e w' => e = .returned (.int .i64 (to_ : Int)) ∧ Below w.heap.size w w' := by
  obtain ⟨c, c0, c1, c2, hR⟩ := h.view
  clear hR
  go_enter Tryd.func29, Tryd.ntmps29
  go_wp2
  go_ret
  exact ⟨rfl, Below.refl _ _⟩
end Go.Proofs.YtifmfnkpogconaaDoor
