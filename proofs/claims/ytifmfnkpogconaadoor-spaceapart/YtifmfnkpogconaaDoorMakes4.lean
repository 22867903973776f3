/- SpaceMakes' walk. -/
import Derived.Test.YtifmfnkpogconaaDoorAny4
namespace Go.Proofs.YtifmfnkpogconaaDoor
open Go.RowKit

/-- made, of any two numbers: it is said that all is well. -/
theorem made_ok {w : World} (hT : Tz w) (x y : Int) : Calls Tryd.prog 9 #[.int .i64 x, .int .i64 y] w fun e w' => ∃ v, e = .returned (.tuple #[v, .bool true]) ∧ Below w.heap.size w w' := by
  by_cases h : x < 0 ∨ y ≤ x ∨ 65536 < y
  · exact (made_no x y h).mono fun e w' ⟨e1, e2⟩ => ⟨_, e1, e2⟩
  · obtain ⟨a, rfl⟩ : ∃ a : Nat, x = (a : Int) := ⟨x.toNat, by omega⟩
    obtain ⟨b, rfl⟩ : ∃ b : Nat, y = (b : Int) := ⟨y.toNat, by omega⟩
    exact (made_calls a b (by omega) (by omega) hT).mono fun e w' ⟨g, e1, _, e3⟩ => ⟨_, e1, e3⟩
set_option maxRecDepth 100000 in
set_option maxHeartbeats 4000000 in
theorem makes_walk {w : World} (x y : Int) (hT : Tz w) : Calls Tryd.prog 3 #[.int .i64 x, .int .i64 y] w fun e w' => e = .returned (.bool true) ∧ Below w.heap.size w w' := by
  have H1 := hide (made_ok hT x y)
  have HS : Hid (∀ W, Below w.heap.size w W → Calls Tryd.prog 10 #[] W fun e w' => e = .returned (.bool true) ∧ Below w.heap.size w w') := fun W hW => (started_calls (hT.below hW)).mono fun e w' ⟨e1, e2⟩ => ⟨e1, hW.trans (e2.mono hW.size)⟩
  clear hT
  go_enter Tryd.func3, Tryd.ntmps3
  go_wp2_with fail
  refine (unhide H1).mono ?_
  rintro e w1 ⟨v, rfl, hb1⟩
  have HS1 := hide (unhide HS w1 hb1)
  clear hb1
  go_wp2_with fail
  refine (unhide HS1).mono ?_
  rintro e w2 ⟨rfl, hb2⟩
  go_wp2
  go_ret
  exact ⟨rfl, hb2⟩
end Go.Proofs.YtifmfnkpogconaaDoor
