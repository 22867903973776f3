/- Replay and Open of no disk; Replay at arguments that are out of the ranges. -/
import Derived.Test.YthhjlopgpmaokabDoorJrV
namespace Go.Proofs.YthhjlopgpmaokabDoor
open Go.RowKit Go.Maps

/-- The ranges that the document asks of Replay's arguments. -/
def okA (L : Nat) (x0 x1 x2 : Int) : Prop := 0 ≤ x0 ∧ 1 ≤ x1 ∧ x1 ≤ 1024 ∧ x0 ≤ (L : Int) - x1 ∧ 0 ≤ x2 ∧ x2 ≤ 1099511627777
theorem replay_nil (w : World) (x0 x1 x2 : Int) : Calls Tryd.prog 16 #[.pointer none, .int .i64 x0, .int .i64 x1, .int .i64 x2] w fun e w' => e = .returned (.tuple #[.slice none 0 0, .int .i64 1]) ∧ w' = w := by
  go_enter Tryd.func16, Tryd.ntmps16
  go_wp2
  go_ret2
  exact ⟨rfl, rfl⟩
theorem open_nil (w : World) (x0 x1 x2 : Int) : Calls Tryd.prog 11 #[.pointer none, .int .i64 x0, .int .i64 x1, .int .i64 x2] w fun e w' => e = .returned (.tuple #[.pointer none, .slice none 0 0, .int .i64 1]) ∧ w' = w := by
  have HR := hide (replay_nil w x0 x1 x2)
  go_enter Tryd.func11, Tryd.ntmps11
  go_wp2_with fail
  refine (unhide HR).mono ?_
  rintro e w1 ⟨rfl, hw1⟩
  obtain rfl := hw1.symm
  clear hw1
  go_wp2
  go_ret3
  exact ⟨rfl, rfl⟩
set_option maxHeartbeats 2000000 in
theorem replay_bad {w0 w : World} {p : Nat} {D : AD} {x0 x1 x2 : Int} (h : Sn w0 w p D) (hbad : ¬ okA D.la.length x0 x1 x2) :
    Calls Tryd.prog 16 #[.pointer (some ⟨p, 0, none⟩), .int .i64 x0, .int .i64 x1, .int .i64 x2] w fun e w' => e = .returned (.tuple #[.slice none 0 0, .int .i64 1]) ∧ w' = w := by
  have hla := h.ok.hi
  have HSEC := hide (sn_sectors h)
  obtain ⟨L, hL⟩ : ∃ L, L = D.la.length := ⟨_, rfl⟩
  rw [← hL] at hla HSEC hbad
  clear h hL
  unfold okA at hbad
  by_cases c0 : x0 < 0
  · have d1 : decide (x0 < 0) = true := decide_eq_true c0
    clear hbad
    go_enter Tryd.func16, Tryd.ntmps16
    go_wp2
    go_ret2
    exact ⟨rfl, rfl⟩
  by_cases c1 : x1 < 1
  · have d1 : decide (x0 < 0) = false := decide_eq_false c0
    have d2 : decide (x1 < 1) = true := decide_eq_true c1
    clear hbad
    go_enter Tryd.func16, Tryd.ntmps16
    go_wp2
    go_ret2
    exact ⟨rfl, rfl⟩
  by_cases c2 : 1024 < x1
  · have d1 : decide (x0 < 0) = false := decide_eq_false c0
    have d2 : decide (x1 < 1) = false := decide_eq_false c1
    have d3 : decide (1024 < x1) = true := decide_eq_true c2
    clear hbad
    go_enter Tryd.func16, Tryd.ntmps16
    go_wp2
    go_ret2
    exact ⟨rfl, rfl⟩
  by_cases c3 : (L : Int) - x1 < x0
  · have hsub : IntKind.i64.wrap ((L : Int) - x1) = (L : Int) - x1 := IntWalk.i64_in _ (by omega)
    have d1 : decide (x0 < 0) = false := decide_eq_false c0
    have d2 : decide (x1 < 1) = false := decide_eq_false c1
    have d3 : decide (1024 < x1) = false := decide_eq_false c2
    have d4 : decide ((L : Int) - x1 < x0) = true := decide_eq_true c3
    clear hbad
    go_enter Tryd.func16, Tryd.ntmps16
    go_wp2_with fail
    refine (unhide HSEC).mono ?_
    rintro e wn ⟨rfl, hwn⟩
    obtain rfl := hwn.symm
    clear hwn HSEC
    go_wp2
    go_ret2
    exact ⟨rfl, rfl⟩
  by_cases c4 : x2 < 0
  · have hsub : IntKind.i64.wrap ((L : Int) - x1) = (L : Int) - x1 := IntWalk.i64_in _ (by omega)
    have d1 : decide (x0 < 0) = false := decide_eq_false c0
    have d2 : decide (x1 < 1) = false := decide_eq_false c1
    have d3 : decide (1024 < x1) = false := decide_eq_false c2
    have d4 : decide ((L : Int) - x1 < x0) = false := decide_eq_false c3
    have d5 : decide (x2 < 0) = true := decide_eq_true c4
    clear hbad
    go_enter Tryd.func16, Tryd.ntmps16
    go_wp2_with fail
    refine (unhide HSEC).mono ?_
    rintro e wn ⟨rfl, hwn⟩
    obtain rfl := hwn.symm
    clear hwn HSEC
    go_wp2
    go_ret2
    exact ⟨rfl, rfl⟩
  have c5 : 1099511627777 < x2 := by omega
  have hsub : IntKind.i64.wrap ((L : Int) - x1) = (L : Int) - x1 := IntWalk.i64_in _ (by omega)
  have d1 : decide (x0 < 0) = false := decide_eq_false c0
  have d2 : decide (x1 < 1) = false := decide_eq_false c1
  have d3 : decide (1024 < x1) = false := decide_eq_false c2
  have d4 : decide ((L : Int) - x1 < x0) = false := decide_eq_false c3
  have d5 : decide (x2 < 0) = false := decide_eq_false c4
  have d6 : decide (1099511627777 < x2) = true := decide_eq_true c5
  clear hbad
  go_enter Tryd.func16, Tryd.ntmps16
  go_wp2_with fail
  refine (unhide HSEC).mono ?_
  rintro e wn ⟨rfl, hwn⟩
  obtain rfl := hwn.symm
  clear hwn HSEC
  go_wp2
  go_ret2
  exact ⟨rfl, rfl⟩
end Go.Proofs.YthhjlopgpmaokabDoor
