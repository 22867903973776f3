/- The document's Take, Copy. -/
import Derived.Test.YtifmfnkpogconaaDoorRsTake
namespace Go.Proofs.YtifmfnkpogconaaDoor
open Go.RowKit

set_option maxRecDepth 100000 in
set_option maxHeartbeats 4000000 in
theorem rtake_calls {w : World} {B g gb fr to_ : Nat} {bs : List Bool} (h : Rs w B g gb fr to_ bs) :
    Calls Tryd.prog 31 #[.pointer (some ⟨g, 0, none⟩)] w fun e w' => e = .returned (.tuple #[.int .i64 ((allR fr bs).headD 0 : Nat), .bool (decide (0 < (allR fr bs).length))]) ∧ Rs w' B g gb fr to_ (clrR fr bs ((allR fr bs).take 1)) ∧ w.grownBy w' (some gb) := by
  have HN := hide (rtakeAll_no h 1)
  have HC := hide (rtakeAll_calls h 1)
  have H := hide h
  clear h
  cases hl : allR fr bs with
  | nil =>
    have HN' := hide (HN.out (Or.inr (by rw [hl]; decide)))
    clear HN HC hl
    go_enter Tryd.func31, Tryd.ntmps31
    go_wp2_with fail
    refine (unhide HN').mono ?_
    rintro e w1 ⟨rfl, hb1⟩
    go_wp2
    go_ret2
    exact ⟨rfl, (unhide H).below hb1, ⟨hb1.os, hb1.tape, hb1.output, hb1.size, fun k hk _ => hb1.block k hk⟩⟩
  | cons n l =>
    have HC' := hide (HC.out (by rw [hl]; simp))
    rw [hl] at HC'
    have e1 : (n :: l).take 1 = [n] := by simp
    rw [e1] at HC' ⊢
    have e2 : decide (0 < (n :: l).length) = true := by simp
    rw [e2]
    show Calls _ _ _ _ fun e w' => e = .returned (.tuple #[.int .i64 (n : Int), .bool true]) ∧ _
    clear HN HC hl e1 e2 H
    go_enter Tryd.func31, Tryd.ntmps31
    go_wp2_with fail
    refine (unhide HC').mono ?_
    rintro e w1 ⟨v, rfl, hrow, hrs, hgr⟩
    obtain ⟨gl, cl, hv, hc1, hc2, _, _⟩ := hrow.head (by simp [iV])
    have hl1 : (iV [n]).length = 1 := by simp [iV]
    rw [hl1] at hv hc1
    subst hv
    have hcj : w1.cell? ⟨gl, 0, none⟩ = some (.int .i64 (n : Int)) := by
      rw [hrow.cellAt (by simp [iV])]
      rfl
    go_wp2
    go_ret2
    exact ⟨rfl, hrs, hgr⟩
end Go.Proofs.YtifmfnkpogconaaDoor
