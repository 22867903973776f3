/- What same, num, outside answer. -/
import Derived.Test.YtmfpkoegpoboiabDoorBs
namespace Go.Proofs.YtmfpkoegpoboiabDoor
open Go.RowKit

set_option maxHeartbeats 400000 in
theorem same_calls {w : World} {va vb : Value} {xs ys : List Int} (ha : IsB w va xs) (hb : IsB w vb ys) :
    Calls Tryd.prog 23 #[va, vb] w fun e w' => e = .returned (.bool (decide (xs = ys))) ∧ w' = w := by
  have c1 := conv_isB ha
  have c2 := conv_isB hb
  have he : ((mkS xs).toList == (mkS ys).toList) = decide (xs = ys) := by
    rw [Bool.eq_iff_iff, beq_iff_eq, decide_eq_true_iff, ByteArray.toList_eq, ByteArray.toList_eq]
    exact ⟨fun h => mkS_inj ha.mem hb.mem (congrArg ByteArray.mk (Array.toList_inj.1 h)), fun h => by rw [h]⟩
  clear ha hb
  go_enter Tryd.func23, Tryd.ntmps23
  go_wp2
  go_ret
  exact ⟨by rfl, rfl⟩

theorem num_calls (n : Int) (w : World) : Calls Tryd.prog 11 #[.int .i64 n] w fun e w' => e = .returned (.int .i64 n) ∧ w' = w := by
  go_enter Tryd.func11, Tryd.ntmps11
  go_wp2
  go_ret
  exact ⟨rfl, rfl⟩

theorem outside_calls (a : Option Addr) (n cap : Nat) (at_ : Int) (w : World) :
    Calls Tryd.prog 34 #[.slice a n cap, .int .i64 at_] w fun e w' => e = .returned (.bool (decide (at_ < 0 ∨ (n : Int) < at_))) ∧ w' = w := by
  by_cases h1 : at_ < 0
  · go_enter Tryd.func34, Tryd.ntmps34
    go_wp2
    go_ret
    exact ⟨by simp [h1], rfl⟩
  · by_cases h2 : (n : Int) < at_
    all_goals
      go_enter Tryd.func34, Tryd.ntmps34
      go_wp2
      go_ret
      exact ⟨by simp [h1, h2], rfl⟩
theorem outside_yes {a : Option Addr} {n cap : Nat} {at_ : Int} (w : World) (h : at_ < 0 ∨ (n : Int) < at_) :
    Calls Tryd.prog 34 #[.slice a n cap, .int .i64 at_] w fun e w' => e = .returned (.bool true) ∧ w' = w := by
  have := outside_calls a n cap at_ w
  rwa [decide_eq_true h] at this
theorem outside_no {a : Option Addr} {n cap : Nat} {at_ : Int} (w : World) (h : ¬ (at_ < 0 ∨ (n : Int) < at_)) :
    Calls Tryd.prog 34 #[.slice a n cap, .int .i64 at_] w fun e w' => e = .returned (.bool false) ∧ w' = w := by
  have := outside_calls a n cap at_ w
  rwa [decide_eq_false h] at this
end Go.Proofs.YtmfpkoegpoboiabDoor
