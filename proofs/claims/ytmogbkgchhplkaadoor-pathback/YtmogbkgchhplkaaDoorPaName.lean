/- inName, dots. -/
import Derived.Test.YtmogbkgchhplkaaDoorPaUnd
namespace Go.Proofs.YtmogbkgchhplkaaDoor
open Go.RowKit

/-- May this byte stand in a name? -/
def inN (c : Int) : Bool := decide ((97 ≤ c ∧ c ≤ 122) ∨ (65 ≤ c ∧ c ≤ 90) ∨ (48 ≤ c ∧ c ≤ 57) ∨ c = 46 ∨ c = 95 ∨ c = 45)
set_option maxRecDepth 100000 in
set_option maxHeartbeats 2000000 in
theorem inName_calls (c : Int) (w : World) : Calls Tryd.prog 39 #[.int .u8 c] w fun e w' => e = .returned (.bool (inN c)) ∧ w' = w := by
  obtain ⟨q, hq⟩ : ∃ q, q = inN c := ⟨_, rfl⟩
  have HQ := hide hq
  rw [← hq]
  clear hq
  by_cases a1 : 97 ≤ c
  all_goals by_cases a2 : c ≤ 122
  all_goals by_cases a3 : 65 ≤ c
  all_goals by_cases a4 : c ≤ 90
  all_goals by_cases a5 : 48 ≤ c
  all_goals by_cases a6 : c ≤ 57
  all_goals by_cases a7 : c = 46
  all_goals by_cases a8 : c = 95
  all_goals by_cases a9 : c = 45
  all_goals try (exfalso; omega)
  all_goals (
    have HV : Hid (q = decide ((97 ≤ c ∧ c ≤ 122) ∨ (65 ≤ c ∧ c ≤ 90) ∨ (48 ≤ c ∧ c ≤ 57) ∨ c = 46 ∨ c = 95 ∨ c = 45)) := HQ.out
    have b7 : (c == 46) = decide (c = 46) := rfl
    have b8 : (c == 95) = decide (c = 95) := rfl
    have b9 : (c == 45) = decide (c = 45) := rfl
    go_enter Tryd.func39, Tryd.ntmps39
    go_wp2
    go_ret
    refine ⟨?_, rfl⟩
    rw [HV.out]
    first
    | (rw [decide_eq_true (by omega)]; rfl)
    | (rw [decide_eq_false (by omega)]; rfl))
def dot1 : ByteArray := ⟨#[46]⟩
def dot2 : ByteArray := ⟨#[46, 46]⟩
def dotS : ByteArray := ⟨#[46, 47]⟩
def dotT : ByteArray := ⟨#[46, 46, 47]⟩
/-- Is the first part of dots alone? -/
def dotsB (s : ByteArray) : Bool := decide (s = dot1) || decide (s = dot2) || preB s dotS || preB s dotT
set_option maxRecDepth 100000 in
set_option maxHeartbeats 2000000 in
theorem dots_calls (s : ByteArray) (w : World) : Calls Tryd.prog 40 #[.string s] w fun e w' => e = .returned (.bool (dotsB s)) ∧ w' = w := by
  have H3 : Hid (Calls Tryd.prog 34 #[.string s, .string ⟨#[46, 47]⟩] w fun e w' => e = .returned (.bool (preB s dotS)) ∧ w' = w) := hasPre_calls s dotS w
  have H4 : Hid (Calls Tryd.prog 34 #[.string s, .string ⟨#[46, 46, 47]⟩] w fun e w' => e = .returned (.bool (preB s dotT)) ∧ w' = w) := hasPre_calls s dotT w
  have e1 : (s.toList == [46]) = decide (s = dot1) := by rw [← str_eq, ByteArray.toList_eq dot1]; rfl
  have e2 : (s.toList == [46, 46]) = decide (s = dot2) := by rw [← str_eq, ByteArray.toList_eq dot2]; rfl
  obtain ⟨q, hq⟩ : ∃ q, q = dotsB s := ⟨_, rfl⟩
  have HQ : Hid (q = (decide (s = dot1) || decide (s = dot2) || preB s dotS || preB s dotT)) := hq
  rw [← hq]
  clear hq
  generalize decide (s = dot1) = b1 at *
  generalize decide (s = dot2) = b2 at *
  generalize preB s dotS = b3 at *
  generalize preB s dotT = b4 at *
  cases b1 with
  | true =>
    go_enter Tryd.func40, Tryd.ntmps40
    go_wp2
    go_ret
    exact ⟨by rw [HQ.out]; rfl, rfl⟩
  | false =>
    cases b2 with
    | true =>
      go_enter Tryd.func40, Tryd.ntmps40
      go_wp2
      go_ret
      exact ⟨by rw [HQ.out]; rfl, rfl⟩
    | false =>
      cases b3 with
      | true =>
        go_enter Tryd.func40, Tryd.ntmps40
        go_wp2_with fail
        refine (unhide H3).mono ?_
        rintro e w1 ⟨rfl, hw1⟩
        obtain rfl := hw1.symm
        clear hw1
        go_wp2
        go_ret
        exact ⟨by rw [HQ.out]; rfl, rfl⟩
      | false =>
        go_enter Tryd.func40, Tryd.ntmps40
        go_wp2_with fail
        refine (unhide H3).mono ?_
        rintro e w1 ⟨rfl, hw1⟩
        obtain rfl := hw1.symm
        clear hw1
        go_wp2_with fail
        refine (unhide H4).mono ?_
        rintro e w1 ⟨rfl, hw1⟩
        obtain rfl := hw1.symm
        clear hw1
        go_wp2
        go_ret
        exact ⟨by rw [HQ.out]; rfl, rfl⟩
end Go.Proofs.YtmogbkgchhplkaaDoor
