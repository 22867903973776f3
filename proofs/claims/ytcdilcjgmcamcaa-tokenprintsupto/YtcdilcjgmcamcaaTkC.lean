/- The functions of one byte, and of one kind. -/
import Derived.Test.YtcdilcjgmcamcaaProg
import Derived.Test.YtcdilcjgmcamcaaTkQ
import Derived.Test.YtcdilcjgmcamcaaSub
import Derived.Test.YtcdilcjgmcamcaaFam
import Derived.WalkKit
import Derived.Below
import Derived.Laws.Strings
import Derived.Deep.RegionHeld3
import Derived.Deep.QuietTactic
import Derived.BigQuiet
namespace Go.Proofs.Ytcdilcjgmcamcaa
open Go.RowKit

theorem drewn_below (w : World) (n : Nat) : Below w.heap.size w (w.drewN n) := by
  refine ⟨rfl, by simp, rfl, Nat.le_refl _, fun _ _ => rfl⟩
def inWI (x : Int) : Bool := decide ((97 ≤ x ∧ x ≤ 122) ∨ (65 ≤ x ∧ x ≤ 90) ∨ (48 ≤ x ∧ x ≤ 57) ∨ x = 46 ∨ x = 95 ∨ x = 45 ∨ x = 47)
def kdI (x : Int) : Int := if (97 ≤ x ∧ x ≤ 122) ∨ (65 ≤ x ∧ x ≤ 90) ∨ (48 ≤ x ∧ x ≤ 57) ∨ x = 46 ∨ x = 95 ∨ x = 45 ∨ x = 47 then 1 else if x = 34 then 2 else if x = 61 then 3 else if x = 40 then 4 else if x = 41 then 5 else if x = 44 then 6 else if x = 10 then 7 else 0
def stI (x : Int) : Bool := decide (32 ≤ x ∧ x ≤ 126 ∧ x ≠ 34 ∧ x ≠ 92)
def dgI (x : Int) : Int := if 48 ≤ x ∧ x ≤ 57 then x - 48 else if 97 ≤ x ∧ x ≤ 102 then x - 87 else -1
def sgI (x : Int) : Int := if x = 61 then 3 else if x = 40 then 4 else if x = 41 then 5 else if x = 44 then 6 else 0
theorem inWI_eq (c : UInt8) : inWI (c.toNat : Int) = inW c := by
  unfold inWI inW
  exact decide_eq_decide.2 (by omega)
theorem kdI_eq (c : UInt8) : kdI (c.toNat : Int) = (kd c : Int) := by
  unfold kdI kd
  by_cases h : inW c = true
  · have := of_decide_eq_true h
    rw [if_pos h, if_pos (by omega)]; rfl
  · have hn := of_decide_eq_false (Bool.eq_false_iff.2 h)
    rw [if_neg h, if_neg (by omega)]
    repeat' split
    all_goals first | rfl | (exfalso; omega)
theorem dgI_eq (c : UInt8) : dgI (c.toNat : Int) = (match dg c with | some h => (h : Int) | none => -1) := by
  unfold dgI dg
  by_cases h1 : 48 ≤ c.toNat ∧ c.toNat ≤ 57
  · rw [if_pos (by omega), if_pos h1]; show _ = ((c.toNat - 48 : Nat) : Int); omega
  · rw [if_neg (by omega), if_neg h1]
    by_cases h2 : 97 ≤ c.toNat ∧ c.toNat ≤ 102
    · rw [if_pos (by omega), if_pos h2]; show _ = ((c.toNat - 87 : Nat) : Int); omega
    · rw [if_neg (by omega), if_neg h2]
set_option maxRecDepth 100000 in
set_option maxHeartbeats 4000000 in
theorem kindOf_calls (x : Int) (h0 : 0 ≤ x) (h1 : x ≤ 255) (w : World) : Calls Try.prog 44 #[.int .u8 x] w fun e w' => e = .returned (.int .i64 (kdI x)) ∧ w' = w := by
  obtain ⟨q, hq⟩ : ∃ q, q = kdI x := ⟨_, rfl⟩
  have HQ := hide hq
  rw [← hq]
  clear hq
  rcases (by omega : (0 ≤ x ∧ x ≤ 9) ∨ x = 10 ∨ (11 ≤ x ∧ x ≤ 33) ∨ x = 34 ∨ (35 ≤ x ∧ x ≤ 39) ∨ x = 40 ∨ x = 41 ∨ (42 ≤ x ∧ x ≤ 43) ∨ x = 44 ∨ x = 45 ∨ x = 46 ∨ x = 47 ∨ (48 ≤ x ∧ x ≤ 57) ∨ (58 ≤ x ∧ x ≤ 60) ∨ x = 61 ∨ (62 ≤ x ∧ x ≤ 64) ∨ (65 ≤ x ∧ x ≤ 90) ∨ (91 ≤ x ∧ x ≤ 94) ∨ x = 95 ∨ x = 96 ∨ (97 ≤ x ∧ x ≤ 122) ∨ (123 ≤ x ∧ x ≤ 255)) with ⟨i0, i1⟩ | rfl | ⟨i0, i1⟩ | rfl | ⟨i0, i1⟩ | rfl | rfl | ⟨i0, i1⟩ | rfl | rfl | rfl | rfl | ⟨i0, i1⟩ | ⟨i0, i1⟩ | rfl | ⟨i0, i1⟩ | ⟨i0, i1⟩ | ⟨i0, i1⟩ | rfl | rfl | ⟨i0, i1⟩ | ⟨i0, i1⟩
  · have HV : Hid (q = 0) := by
      show _ = _
      rw [HQ.out]
      unfold kdI
      first | (exact decide_eq_true (by omega)) | (exact decide_eq_false (by omega)) | (repeat' split; all_goals first | rfl | omega)
    have a0 : ¬ (97 : Int) ≤ x := by omega
    have a1 : x ≤ (122 : Int) := by omega
    have a2 : ¬ (65 : Int) ≤ x := by omega
    have a3 : x ≤ (90 : Int) := by omega
    have a4 : ¬ (48 : Int) ≤ x := by omega
    have a5 : x ≤ (57 : Int) := by omega
    have a6 : (x == 46) = false := by simp; omega
    have a7 : (x == 95) = false := by simp; omega
    have a8 : (x == 45) = false := by simp; omega
    have a9 : (x == 47) = false := by simp; omega
    have a10 : (x == 34) = false := by simp; omega
    have a11 : (x == 61) = false := by simp; omega
    have a12 : (x == 40) = false := by simp; omega
    have a13 : (x == 41) = false := by simp; omega
    have a14 : (x == 44) = false := by simp; omega
    have a15 : (x == 10) = false := by simp; omega
    clear HQ
    go_enter Try.func44, Try.ntmps44
    go_wp2
    go_ret
    exact ⟨by rw [HV.out]; first | rfl | (show Ending.returned (Value.int .i64 (x - 97 + 10)) = _; rw [show x - 97 + 10 = x - 87 by omega]), rfl⟩
  · have HV : Hid (q = 7) := by show _ = _; rw [HQ.out]; first | rfl | decide
    clear h0 h1 HQ
    go_enter Try.func44, Try.ntmps44
    go_wp2
    go_ret
    exact ⟨by rw [HV.out]; first | rfl | (show Ending.returned (Value.int .i64 (x - 97 + 10)) = _; rw [show x - 97 + 10 = x - 87 by omega]), rfl⟩
  · have HV : Hid (q = 0) := by
      show _ = _
      rw [HQ.out]
      unfold kdI
      first | (exact decide_eq_true (by omega)) | (exact decide_eq_false (by omega)) | (repeat' split; all_goals first | rfl | omega)
    have a0 : ¬ (97 : Int) ≤ x := by omega
    have a1 : x ≤ (122 : Int) := by omega
    have a2 : ¬ (65 : Int) ≤ x := by omega
    have a3 : x ≤ (90 : Int) := by omega
    have a4 : ¬ (48 : Int) ≤ x := by omega
    have a5 : x ≤ (57 : Int) := by omega
    have a6 : (x == 46) = false := by simp; omega
    have a7 : (x == 95) = false := by simp; omega
    have a8 : (x == 45) = false := by simp; omega
    have a9 : (x == 47) = false := by simp; omega
    have a10 : (x == 34) = false := by simp; omega
    have a11 : (x == 61) = false := by simp; omega
    have a12 : (x == 40) = false := by simp; omega
    have a13 : (x == 41) = false := by simp; omega
    have a14 : (x == 44) = false := by simp; omega
    have a15 : (x == 10) = false := by simp; omega
    clear HQ
    go_enter Try.func44, Try.ntmps44
    go_wp2
    go_ret
    exact ⟨by rw [HV.out]; first | rfl | (show Ending.returned (Value.int .i64 (x - 97 + 10)) = _; rw [show x - 97 + 10 = x - 87 by omega]), rfl⟩
  · have HV : Hid (q = 2) := by show _ = _; rw [HQ.out]; first | rfl | decide
    clear h0 h1 HQ
    go_enter Try.func44, Try.ntmps44
    go_wp2
    go_ret
    exact ⟨by rw [HV.out]; first | rfl | (show Ending.returned (Value.int .i64 (x - 97 + 10)) = _; rw [show x - 97 + 10 = x - 87 by omega]), rfl⟩
  · have HV : Hid (q = 0) := by
      show _ = _
      rw [HQ.out]
      unfold kdI
      first | (exact decide_eq_true (by omega)) | (exact decide_eq_false (by omega)) | (repeat' split; all_goals first | rfl | omega)
    have a0 : ¬ (97 : Int) ≤ x := by omega
    have a1 : x ≤ (122 : Int) := by omega
    have a2 : ¬ (65 : Int) ≤ x := by omega
    have a3 : x ≤ (90 : Int) := by omega
    have a4 : ¬ (48 : Int) ≤ x := by omega
    have a5 : x ≤ (57 : Int) := by omega
    have a6 : (x == 46) = false := by simp; omega
    have a7 : (x == 95) = false := by simp; omega
    have a8 : (x == 45) = false := by simp; omega
    have a9 : (x == 47) = false := by simp; omega
    have a10 : (x == 34) = false := by simp; omega
    have a11 : (x == 61) = false := by simp; omega
    have a12 : (x == 40) = false := by simp; omega
    have a13 : (x == 41) = false := by simp; omega
    have a14 : (x == 44) = false := by simp; omega
    have a15 : (x == 10) = false := by simp; omega
    clear HQ
    go_enter Try.func44, Try.ntmps44
    go_wp2
    go_ret
    exact ⟨by rw [HV.out]; first | rfl | (show Ending.returned (Value.int .i64 (x - 97 + 10)) = _; rw [show x - 97 + 10 = x - 87 by omega]), rfl⟩
  · have HV : Hid (q = 4) := by show _ = _; rw [HQ.out]; first | rfl | decide
    clear h0 h1 HQ
    go_enter Try.func44, Try.ntmps44
    go_wp2
    go_ret
    exact ⟨by rw [HV.out]; first | rfl | (show Ending.returned (Value.int .i64 (x - 97 + 10)) = _; rw [show x - 97 + 10 = x - 87 by omega]), rfl⟩
  · have HV : Hid (q = 5) := by show _ = _; rw [HQ.out]; first | rfl | decide
    clear h0 h1 HQ
    go_enter Try.func44, Try.ntmps44
    go_wp2
    go_ret
    exact ⟨by rw [HV.out]; first | rfl | (show Ending.returned (Value.int .i64 (x - 97 + 10)) = _; rw [show x - 97 + 10 = x - 87 by omega]), rfl⟩
  · have HV : Hid (q = 0) := by
      show _ = _
      rw [HQ.out]
      unfold kdI
      first | (exact decide_eq_true (by omega)) | (exact decide_eq_false (by omega)) | (repeat' split; all_goals first | rfl | omega)
    have a0 : ¬ (97 : Int) ≤ x := by omega
    have a1 : x ≤ (122 : Int) := by omega
    have a2 : ¬ (65 : Int) ≤ x := by omega
    have a3 : x ≤ (90 : Int) := by omega
    have a4 : ¬ (48 : Int) ≤ x := by omega
    have a5 : x ≤ (57 : Int) := by omega
    have a6 : (x == 46) = false := by simp; omega
    have a7 : (x == 95) = false := by simp; omega
    have a8 : (x == 45) = false := by simp; omega
    have a9 : (x == 47) = false := by simp; omega
    have a10 : (x == 34) = false := by simp; omega
    have a11 : (x == 61) = false := by simp; omega
    have a12 : (x == 40) = false := by simp; omega
    have a13 : (x == 41) = false := by simp; omega
    have a14 : (x == 44) = false := by simp; omega
    have a15 : (x == 10) = false := by simp; omega
    clear HQ
    go_enter Try.func44, Try.ntmps44
    go_wp2
    go_ret
    exact ⟨by rw [HV.out]; first | rfl | (show Ending.returned (Value.int .i64 (x - 97 + 10)) = _; rw [show x - 97 + 10 = x - 87 by omega]), rfl⟩
  · have HV : Hid (q = 6) := by show _ = _; rw [HQ.out]; first | rfl | decide
    clear h0 h1 HQ
    go_enter Try.func44, Try.ntmps44
    go_wp2
    go_ret
    exact ⟨by rw [HV.out]; first | rfl | (show Ending.returned (Value.int .i64 (x - 97 + 10)) = _; rw [show x - 97 + 10 = x - 87 by omega]), rfl⟩
  · have HV : Hid (q = 1) := by show _ = _; rw [HQ.out]; first | rfl | decide
    clear h0 h1 HQ
    go_enter Try.func44, Try.ntmps44
    go_wp2
    go_ret
    exact ⟨by rw [HV.out]; first | rfl | (show Ending.returned (Value.int .i64 (x - 97 + 10)) = _; rw [show x - 97 + 10 = x - 87 by omega]), rfl⟩
  · have HV : Hid (q = 1) := by show _ = _; rw [HQ.out]; first | rfl | decide
    clear h0 h1 HQ
    go_enter Try.func44, Try.ntmps44
    go_wp2
    go_ret
    exact ⟨by rw [HV.out]; first | rfl | (show Ending.returned (Value.int .i64 (x - 97 + 10)) = _; rw [show x - 97 + 10 = x - 87 by omega]), rfl⟩
  · have HV : Hid (q = 1) := by show _ = _; rw [HQ.out]; first | rfl | decide
    clear h0 h1 HQ
    go_enter Try.func44, Try.ntmps44
    go_wp2
    go_ret
    exact ⟨by rw [HV.out]; first | rfl | (show Ending.returned (Value.int .i64 (x - 97 + 10)) = _; rw [show x - 97 + 10 = x - 87 by omega]), rfl⟩
  · have HV : Hid (q = 1) := by
      show _ = _
      rw [HQ.out]
      unfold kdI
      first | (exact decide_eq_true (by omega)) | (exact decide_eq_false (by omega)) | (repeat' split; all_goals first | rfl | omega)
    have a0 : ¬ (97 : Int) ≤ x := by omega
    have a1 : x ≤ (122 : Int) := by omega
    have a2 : ¬ (65 : Int) ≤ x := by omega
    have a3 : x ≤ (90 : Int) := by omega
    have a4 : (48 : Int) ≤ x := by omega
    have a5 : x ≤ (57 : Int) := by omega
    have a6 : (x == 46) = false := by simp; omega
    have a7 : (x == 95) = false := by simp; omega
    have a8 : (x == 45) = false := by simp; omega
    have a9 : (x == 47) = false := by simp; omega
    have a10 : (x == 34) = false := by simp; omega
    have a11 : (x == 61) = false := by simp; omega
    have a12 : (x == 40) = false := by simp; omega
    have a13 : (x == 41) = false := by simp; omega
    have a14 : (x == 44) = false := by simp; omega
    have a15 : (x == 10) = false := by simp; omega
    clear HQ
    go_enter Try.func44, Try.ntmps44
    go_wp2
    go_ret
    exact ⟨by rw [HV.out]; first | rfl | (show Ending.returned (Value.int .i64 (x - 97 + 10)) = _; rw [show x - 97 + 10 = x - 87 by omega]), rfl⟩
  · have HV : Hid (q = 0) := by
      show _ = _
      rw [HQ.out]
      unfold kdI
      first | (exact decide_eq_true (by omega)) | (exact decide_eq_false (by omega)) | (repeat' split; all_goals first | rfl | omega)
    have a0 : ¬ (97 : Int) ≤ x := by omega
    have a1 : x ≤ (122 : Int) := by omega
    have a2 : ¬ (65 : Int) ≤ x := by omega
    have a3 : x ≤ (90 : Int) := by omega
    have a4 : (48 : Int) ≤ x := by omega
    have a5 : ¬ x ≤ (57 : Int) := by omega
    have a6 : (x == 46) = false := by simp; omega
    have a7 : (x == 95) = false := by simp; omega
    have a8 : (x == 45) = false := by simp; omega
    have a9 : (x == 47) = false := by simp; omega
    have a10 : (x == 34) = false := by simp; omega
    have a11 : (x == 61) = false := by simp; omega
    have a12 : (x == 40) = false := by simp; omega
    have a13 : (x == 41) = false := by simp; omega
    have a14 : (x == 44) = false := by simp; omega
    have a15 : (x == 10) = false := by simp; omega
    clear HQ
    go_enter Try.func44, Try.ntmps44
    go_wp2
    go_ret
    exact ⟨by rw [HV.out]; first | rfl | (show Ending.returned (Value.int .i64 (x - 97 + 10)) = _; rw [show x - 97 + 10 = x - 87 by omega]), rfl⟩
  · have HV : Hid (q = 3) := by show _ = _; rw [HQ.out]; first | rfl | decide
    clear h0 h1 HQ
    go_enter Try.func44, Try.ntmps44
    go_wp2
    go_ret
    exact ⟨by rw [HV.out]; first | rfl | (show Ending.returned (Value.int .i64 (x - 97 + 10)) = _; rw [show x - 97 + 10 = x - 87 by omega]), rfl⟩
  · have HV : Hid (q = 0) := by
      show _ = _
      rw [HQ.out]
      unfold kdI
      first | (exact decide_eq_true (by omega)) | (exact decide_eq_false (by omega)) | (repeat' split; all_goals first | rfl | omega)
    have a0 : ¬ (97 : Int) ≤ x := by omega
    have a1 : x ≤ (122 : Int) := by omega
    have a2 : ¬ (65 : Int) ≤ x := by omega
    have a3 : x ≤ (90 : Int) := by omega
    have a4 : (48 : Int) ≤ x := by omega
    have a5 : ¬ x ≤ (57 : Int) := by omega
    have a6 : (x == 46) = false := by simp; omega
    have a7 : (x == 95) = false := by simp; omega
    have a8 : (x == 45) = false := by simp; omega
    have a9 : (x == 47) = false := by simp; omega
    have a10 : (x == 34) = false := by simp; omega
    have a11 : (x == 61) = false := by simp; omega
    have a12 : (x == 40) = false := by simp; omega
    have a13 : (x == 41) = false := by simp; omega
    have a14 : (x == 44) = false := by simp; omega
    have a15 : (x == 10) = false := by simp; omega
    clear HQ
    go_enter Try.func44, Try.ntmps44
    go_wp2
    go_ret
    exact ⟨by rw [HV.out]; first | rfl | (show Ending.returned (Value.int .i64 (x - 97 + 10)) = _; rw [show x - 97 + 10 = x - 87 by omega]), rfl⟩
  · have HV : Hid (q = 1) := by
      show _ = _
      rw [HQ.out]
      unfold kdI
      first | (exact decide_eq_true (by omega)) | (exact decide_eq_false (by omega)) | (repeat' split; all_goals first | rfl | omega)
    have a0 : ¬ (97 : Int) ≤ x := by omega
    have a1 : x ≤ (122 : Int) := by omega
    have a2 : (65 : Int) ≤ x := by omega
    have a3 : x ≤ (90 : Int) := by omega
    have a4 : (48 : Int) ≤ x := by omega
    have a5 : ¬ x ≤ (57 : Int) := by omega
    have a6 : (x == 46) = false := by simp; omega
    have a7 : (x == 95) = false := by simp; omega
    have a8 : (x == 45) = false := by simp; omega
    have a9 : (x == 47) = false := by simp; omega
    have a10 : (x == 34) = false := by simp; omega
    have a11 : (x == 61) = false := by simp; omega
    have a12 : (x == 40) = false := by simp; omega
    have a13 : (x == 41) = false := by simp; omega
    have a14 : (x == 44) = false := by simp; omega
    have a15 : (x == 10) = false := by simp; omega
    clear HQ
    go_enter Try.func44, Try.ntmps44
    go_wp2
    go_ret
    exact ⟨by rw [HV.out]; first | rfl | (show Ending.returned (Value.int .i64 (x - 97 + 10)) = _; rw [show x - 97 + 10 = x - 87 by omega]), rfl⟩
  · have HV : Hid (q = 0) := by
      show _ = _
      rw [HQ.out]
      unfold kdI
      first | (exact decide_eq_true (by omega)) | (exact decide_eq_false (by omega)) | (repeat' split; all_goals first | rfl | omega)
    have a0 : ¬ (97 : Int) ≤ x := by omega
    have a1 : x ≤ (122 : Int) := by omega
    have a2 : (65 : Int) ≤ x := by omega
    have a3 : ¬ x ≤ (90 : Int) := by omega
    have a4 : (48 : Int) ≤ x := by omega
    have a5 : ¬ x ≤ (57 : Int) := by omega
    have a6 : (x == 46) = false := by simp; omega
    have a7 : (x == 95) = false := by simp; omega
    have a8 : (x == 45) = false := by simp; omega
    have a9 : (x == 47) = false := by simp; omega
    have a10 : (x == 34) = false := by simp; omega
    have a11 : (x == 61) = false := by simp; omega
    have a12 : (x == 40) = false := by simp; omega
    have a13 : (x == 41) = false := by simp; omega
    have a14 : (x == 44) = false := by simp; omega
    have a15 : (x == 10) = false := by simp; omega
    clear HQ
    go_enter Try.func44, Try.ntmps44
    go_wp2
    go_ret
    exact ⟨by rw [HV.out]; first | rfl | (show Ending.returned (Value.int .i64 (x - 97 + 10)) = _; rw [show x - 97 + 10 = x - 87 by omega]), rfl⟩
  · have HV : Hid (q = 1) := by show _ = _; rw [HQ.out]; first | rfl | decide
    clear h0 h1 HQ
    go_enter Try.func44, Try.ntmps44
    go_wp2
    go_ret
    exact ⟨by rw [HV.out]; first | rfl | (show Ending.returned (Value.int .i64 (x - 97 + 10)) = _; rw [show x - 97 + 10 = x - 87 by omega]), rfl⟩
  · have HV : Hid (q = 0) := by show _ = _; rw [HQ.out]; first | rfl | decide
    clear h0 h1 HQ
    go_enter Try.func44, Try.ntmps44
    go_wp2
    go_ret
    exact ⟨by rw [HV.out]; first | rfl | (show Ending.returned (Value.int .i64 (x - 97 + 10)) = _; rw [show x - 97 + 10 = x - 87 by omega]), rfl⟩
  · have HV : Hid (q = 1) := by
      show _ = _
      rw [HQ.out]
      unfold kdI
      first | (exact decide_eq_true (by omega)) | (exact decide_eq_false (by omega)) | (repeat' split; all_goals first | rfl | omega)
    have a0 : (97 : Int) ≤ x := by omega
    have a1 : x ≤ (122 : Int) := by omega
    have a2 : (65 : Int) ≤ x := by omega
    have a3 : ¬ x ≤ (90 : Int) := by omega
    have a4 : (48 : Int) ≤ x := by omega
    have a5 : ¬ x ≤ (57 : Int) := by omega
    have a6 : (x == 46) = false := by simp; omega
    have a7 : (x == 95) = false := by simp; omega
    have a8 : (x == 45) = false := by simp; omega
    have a9 : (x == 47) = false := by simp; omega
    have a10 : (x == 34) = false := by simp; omega
    have a11 : (x == 61) = false := by simp; omega
    have a12 : (x == 40) = false := by simp; omega
    have a13 : (x == 41) = false := by simp; omega
    have a14 : (x == 44) = false := by simp; omega
    have a15 : (x == 10) = false := by simp; omega
    clear HQ
    go_enter Try.func44, Try.ntmps44
    go_wp2
    go_ret
    exact ⟨by rw [HV.out]; first | rfl | (show Ending.returned (Value.int .i64 (x - 97 + 10)) = _; rw [show x - 97 + 10 = x - 87 by omega]), rfl⟩
  · have HV : Hid (q = 0) := by
      show _ = _
      rw [HQ.out]
      unfold kdI
      first | (exact decide_eq_true (by omega)) | (exact decide_eq_false (by omega)) | (repeat' split; all_goals first | rfl | omega)
    have a0 : (97 : Int) ≤ x := by omega
    have a1 : ¬ x ≤ (122 : Int) := by omega
    have a2 : (65 : Int) ≤ x := by omega
    have a3 : ¬ x ≤ (90 : Int) := by omega
    have a4 : (48 : Int) ≤ x := by omega
    have a5 : ¬ x ≤ (57 : Int) := by omega
    have a6 : (x == 46) = false := by simp; omega
    have a7 : (x == 95) = false := by simp; omega
    have a8 : (x == 45) = false := by simp; omega
    have a9 : (x == 47) = false := by simp; omega
    have a10 : (x == 34) = false := by simp; omega
    have a11 : (x == 61) = false := by simp; omega
    have a12 : (x == 40) = false := by simp; omega
    have a13 : (x == 41) = false := by simp; omega
    have a14 : (x == 44) = false := by simp; omega
    have a15 : (x == 10) = false := by simp; omega
    clear HQ
    go_enter Try.func44, Try.ntmps44
    go_wp2
    go_ret
    exact ⟨by rw [HV.out]; first | rfl | (show Ending.returned (Value.int .i64 (x - 97 + 10)) = _; rw [show x - 97 + 10 = x - 87 by omega]), rfl⟩
set_option maxRecDepth 100000 in
set_option maxHeartbeats 4000000 in
theorem stands_calls (x : Int) (h0 : 0 ≤ x) (h1 : x ≤ 255) (w : World) : Calls Try.prog 25 #[.int .u8 x] w fun e w' => e = .returned (.bool (stI x)) ∧ w' = w := by
  obtain ⟨q, hq⟩ : ∃ q, q = stI x := ⟨_, rfl⟩
  have HQ := hide hq
  rw [← hq]
  clear hq
  rcases (by omega : (0 ≤ x ∧ x ≤ 31) ∨ (32 ≤ x ∧ x ≤ 33) ∨ x = 34 ∨ (35 ≤ x ∧ x ≤ 91) ∨ x = 92 ∨ (93 ≤ x ∧ x ≤ 126) ∨ (127 ≤ x ∧ x ≤ 255)) with ⟨i0, i1⟩ | ⟨i0, i1⟩ | rfl | ⟨i0, i1⟩ | rfl | ⟨i0, i1⟩ | ⟨i0, i1⟩
  · have HV : Hid (q = false) := by
      show _ = _
      rw [HQ.out]
      unfold stI
      first | (exact decide_eq_true (by omega)) | (exact decide_eq_false (by omega)) | (repeat' split; all_goals first | rfl | omega)
    have a0 : (x == 34) = false := by simp; omega
    have a1 : (x == 92) = false := by simp; omega
    have a2 : ¬ (32 : Int) ≤ x := by omega
    have a3 : x ≤ (126 : Int) := by omega
    clear HQ
    go_enter Try.func25, Try.ntmps25
    go_wp2
    go_ret
    exact ⟨by rw [HV.out]; first | rfl | (show Ending.returned (Value.int .i64 (x - 97 + 10)) = _; rw [show x - 97 + 10 = x - 87 by omega]), rfl⟩
  · have HV : Hid (q = true) := by
      show _ = _
      rw [HQ.out]
      unfold stI
      first | (exact decide_eq_true (by omega)) | (exact decide_eq_false (by omega)) | (repeat' split; all_goals first | rfl | omega)
    have a0 : (x == 34) = false := by simp; omega
    have a1 : (x == 92) = false := by simp; omega
    have a2 : (32 : Int) ≤ x := by omega
    have a3 : x ≤ (126 : Int) := by omega
    clear HQ
    go_enter Try.func25, Try.ntmps25
    go_wp2
    go_ret
    exact ⟨by rw [HV.out]; first | rfl | (show Ending.returned (Value.int .i64 (x - 97 + 10)) = _; rw [show x - 97 + 10 = x - 87 by omega]), rfl⟩
  · have HV : Hid (q = false) := by show _ = _; rw [HQ.out]; first | rfl | decide
    clear h0 h1 HQ
    go_enter Try.func25, Try.ntmps25
    go_wp2
    go_ret
    exact ⟨by rw [HV.out]; first | rfl | (show Ending.returned (Value.int .i64 (x - 97 + 10)) = _; rw [show x - 97 + 10 = x - 87 by omega]), rfl⟩
  · have HV : Hid (q = true) := by
      show _ = _
      rw [HQ.out]
      unfold stI
      first | (exact decide_eq_true (by omega)) | (exact decide_eq_false (by omega)) | (repeat' split; all_goals first | rfl | omega)
    have a0 : (x == 34) = false := by simp; omega
    have a1 : (x == 92) = false := by simp; omega
    have a2 : (32 : Int) ≤ x := by omega
    have a3 : x ≤ (126 : Int) := by omega
    clear HQ
    go_enter Try.func25, Try.ntmps25
    go_wp2
    go_ret
    exact ⟨by rw [HV.out]; first | rfl | (show Ending.returned (Value.int .i64 (x - 97 + 10)) = _; rw [show x - 97 + 10 = x - 87 by omega]), rfl⟩
  · have HV : Hid (q = false) := by show _ = _; rw [HQ.out]; first | rfl | decide
    clear h0 h1 HQ
    go_enter Try.func25, Try.ntmps25
    go_wp2
    go_ret
    exact ⟨by rw [HV.out]; first | rfl | (show Ending.returned (Value.int .i64 (x - 97 + 10)) = _; rw [show x - 97 + 10 = x - 87 by omega]), rfl⟩
  · have HV : Hid (q = true) := by
      show _ = _
      rw [HQ.out]
      unfold stI
      first | (exact decide_eq_true (by omega)) | (exact decide_eq_false (by omega)) | (repeat' split; all_goals first | rfl | omega)
    have a0 : (x == 34) = false := by simp; omega
    have a1 : (x == 92) = false := by simp; omega
    have a2 : (32 : Int) ≤ x := by omega
    have a3 : x ≤ (126 : Int) := by omega
    clear HQ
    go_enter Try.func25, Try.ntmps25
    go_wp2
    go_ret
    exact ⟨by rw [HV.out]; first | rfl | (show Ending.returned (Value.int .i64 (x - 97 + 10)) = _; rw [show x - 97 + 10 = x - 87 by omega]), rfl⟩
  · have HV : Hid (q = false) := by
      show _ = _
      rw [HQ.out]
      unfold stI
      first | (exact decide_eq_true (by omega)) | (exact decide_eq_false (by omega)) | (repeat' split; all_goals first | rfl | omega)
    have a0 : (x == 34) = false := by simp; omega
    have a1 : (x == 92) = false := by simp; omega
    have a2 : (32 : Int) ≤ x := by omega
    have a3 : ¬ x ≤ (126 : Int) := by omega
    clear HQ
    go_enter Try.func25, Try.ntmps25
    go_wp2
    go_ret
    exact ⟨by rw [HV.out]; first | rfl | (show Ending.returned (Value.int .i64 (x - 97 + 10)) = _; rw [show x - 97 + 10 = x - 87 by omega]), rfl⟩
set_option maxRecDepth 100000 in
set_option maxHeartbeats 4000000 in
theorem digit_calls (x : Int) (h0 : 0 ≤ x) (h1 : x ≤ 255) (w : World) : Calls Try.prog 60 #[.int .u8 x] w fun e w' => e = .returned (.int .i64 (dgI x)) ∧ w' = w := by
  obtain ⟨q, hq⟩ : ∃ q, q = dgI x := ⟨_, rfl⟩
  have HQ := hide hq
  rw [← hq]
  clear hq
  rcases (by omega : (0 ≤ x ∧ x ≤ 47) ∨ (48 ≤ x ∧ x ≤ 57) ∨ (58 ≤ x ∧ x ≤ 96) ∨ (97 ≤ x ∧ x ≤ 102) ∨ (103 ≤ x ∧ x ≤ 255)) with ⟨i0, i1⟩ | ⟨i0, i1⟩ | ⟨i0, i1⟩ | ⟨i0, i1⟩ | ⟨i0, i1⟩
  · have HV : Hid (q = (-1)) := by
      show _ = _
      rw [HQ.out]
      unfold dgI
      first | (exact decide_eq_true (by omega)) | (exact decide_eq_false (by omega)) | (repeat' split; all_goals first | rfl | omega)
    have a0 : ¬ (48 : Int) ≤ x := by omega
    have a1 : x ≤ (57 : Int) := by omega
    have a2 : ¬ (97 : Int) ≤ x := by omega
    have a3 : x ≤ (102 : Int) := by omega
    clear HQ
    go_enter Try.func60, Try.ntmps60
    go_wp2
    go_ret
    exact ⟨by rw [HV.out]; first | rfl | (show Ending.returned (Value.int .i64 (x - 97 + 10)) = _; rw [show x - 97 + 10 = x - 87 by omega]), rfl⟩
  · have HV : Hid (q = (x - 48)) := by
      show _ = _
      rw [HQ.out]
      unfold dgI
      first | (exact decide_eq_true (by omega)) | (exact decide_eq_false (by omega)) | (repeat' split; all_goals first | rfl | omega)
    have a0 : (48 : Int) ≤ x := by omega
    have a1 : x ≤ (57 : Int) := by omega
    have a2 : ¬ (97 : Int) ≤ x := by omega
    have a3 : x ≤ (102 : Int) := by omega
    clear HQ
    go_enter Try.func60, Try.ntmps60
    go_wp2
    go_ret
    exact ⟨by rw [HV.out]; first | rfl | (show Ending.returned (Value.int .i64 (x - 97 + 10)) = _; rw [show x - 97 + 10 = x - 87 by omega]), rfl⟩
  · have HV : Hid (q = (-1)) := by
      show _ = _
      rw [HQ.out]
      unfold dgI
      first | (exact decide_eq_true (by omega)) | (exact decide_eq_false (by omega)) | (repeat' split; all_goals first | rfl | omega)
    have a0 : (48 : Int) ≤ x := by omega
    have a1 : ¬ x ≤ (57 : Int) := by omega
    have a2 : ¬ (97 : Int) ≤ x := by omega
    have a3 : x ≤ (102 : Int) := by omega
    clear HQ
    go_enter Try.func60, Try.ntmps60
    go_wp2
    go_ret
    exact ⟨by rw [HV.out]; first | rfl | (show Ending.returned (Value.int .i64 (x - 97 + 10)) = _; rw [show x - 97 + 10 = x - 87 by omega]), rfl⟩
  · have HV : Hid (q = (x - 87)) := by
      show _ = _
      rw [HQ.out]
      unfold dgI
      first | (exact decide_eq_true (by omega)) | (exact decide_eq_false (by omega)) | (repeat' split; all_goals first | rfl | omega)
    have a0 : (48 : Int) ≤ x := by omega
    have a1 : ¬ x ≤ (57 : Int) := by omega
    have a2 : (97 : Int) ≤ x := by omega
    have a3 : x ≤ (102 : Int) := by omega
    clear HQ
    go_enter Try.func60, Try.ntmps60
    go_wp2
    go_ret
    exact ⟨by rw [HV.out]; first | rfl | (show Ending.returned (Value.int .i64 (x - 97 + 10)) = _; rw [show x - 97 + 10 = x - 87 by omega]), rfl⟩
  · have HV : Hid (q = (-1)) := by
      show _ = _
      rw [HQ.out]
      unfold dgI
      first | (exact decide_eq_true (by omega)) | (exact decide_eq_false (by omega)) | (repeat' split; all_goals first | rfl | omega)
    have a0 : (48 : Int) ≤ x := by omega
    have a1 : ¬ x ≤ (57 : Int) := by omega
    have a2 : (97 : Int) ≤ x := by omega
    have a3 : ¬ x ≤ (102 : Int) := by omega
    clear HQ
    go_enter Try.func60, Try.ntmps60
    go_wp2
    go_ret
    exact ⟨by rw [HV.out]; first | rfl | (show Ending.returned (Value.int .i64 (x - 97 + 10)) = _; rw [show x - 97 + 10 = x - 87 by omega]), rfl⟩
set_option maxRecDepth 100000 in
set_option maxHeartbeats 4000000 in
theorem rinWord_calls (x : Int) (h0 : 0 ≤ x) (h1 : x ≤ 255) (w : World) : Calls Try.prog 50 #[.int .u8 x] w fun e w' => e = .returned (.bool (inWI x)) ∧ w' = w := by
  obtain ⟨q, hq⟩ : ∃ q, q = inWI x := ⟨_, rfl⟩
  have HQ := hide hq
  rw [← hq]
  clear hq
  rcases (by omega : (0 ≤ x ∧ x ≤ 44) ∨ x = 45 ∨ x = 46 ∨ x = 47 ∨ (48 ≤ x ∧ x ≤ 57) ∨ (58 ≤ x ∧ x ≤ 64) ∨ (65 ≤ x ∧ x ≤ 90) ∨ (91 ≤ x ∧ x ≤ 94) ∨ x = 95 ∨ x = 96 ∨ (97 ≤ x ∧ x ≤ 122) ∨ (123 ≤ x ∧ x ≤ 255)) with ⟨i0, i1⟩ | rfl | rfl | rfl | ⟨i0, i1⟩ | ⟨i0, i1⟩ | ⟨i0, i1⟩ | ⟨i0, i1⟩ | rfl | rfl | ⟨i0, i1⟩ | ⟨i0, i1⟩
  · have HV : Hid (q = false) := by
      show _ = _
      rw [HQ.out]
      unfold inWI
      first | (exact decide_eq_true (by omega)) | (exact decide_eq_false (by omega)) | (repeat' split; all_goals first | rfl | omega)
    have a0 : ¬ (97 : Int) ≤ x := by omega
    have a1 : x ≤ (122 : Int) := by omega
    have a2 : ¬ (65 : Int) ≤ x := by omega
    have a3 : x ≤ (90 : Int) := by omega
    have a4 : ¬ (48 : Int) ≤ x := by omega
    have a5 : x ≤ (57 : Int) := by omega
    have a6 : (x == 46) = false := by simp; omega
    have a7 : (x == 95) = false := by simp; omega
    have a8 : (x == 45) = false := by simp; omega
    have a9 : (x == 47) = false := by simp; omega
    clear HQ
    go_enter Try.func50, Try.ntmps50
    go_wp2
    go_ret
    exact ⟨by rw [HV.out]; first | rfl | (show Ending.returned (Value.int .i64 (x - 97 + 10)) = _; rw [show x - 97 + 10 = x - 87 by omega]), rfl⟩
  · have HV : Hid (q = true) := by show _ = _; rw [HQ.out]; first | rfl | decide
    clear h0 h1 HQ
    go_enter Try.func50, Try.ntmps50
    go_wp2
    go_ret
    exact ⟨by rw [HV.out]; first | rfl | (show Ending.returned (Value.int .i64 (x - 97 + 10)) = _; rw [show x - 97 + 10 = x - 87 by omega]), rfl⟩
  · have HV : Hid (q = true) := by show _ = _; rw [HQ.out]; first | rfl | decide
    clear h0 h1 HQ
    go_enter Try.func50, Try.ntmps50
    go_wp2
    go_ret
    exact ⟨by rw [HV.out]; first | rfl | (show Ending.returned (Value.int .i64 (x - 97 + 10)) = _; rw [show x - 97 + 10 = x - 87 by omega]), rfl⟩
  · have HV : Hid (q = true) := by show _ = _; rw [HQ.out]; first | rfl | decide
    clear h0 h1 HQ
    go_enter Try.func50, Try.ntmps50
    go_wp2
    go_ret
    exact ⟨by rw [HV.out]; first | rfl | (show Ending.returned (Value.int .i64 (x - 97 + 10)) = _; rw [show x - 97 + 10 = x - 87 by omega]), rfl⟩
  · have HV : Hid (q = true) := by
      show _ = _
      rw [HQ.out]
      unfold inWI
      first | (exact decide_eq_true (by omega)) | (exact decide_eq_false (by omega)) | (repeat' split; all_goals first | rfl | omega)
    have a0 : ¬ (97 : Int) ≤ x := by omega
    have a1 : x ≤ (122 : Int) := by omega
    have a2 : ¬ (65 : Int) ≤ x := by omega
    have a3 : x ≤ (90 : Int) := by omega
    have a4 : (48 : Int) ≤ x := by omega
    have a5 : x ≤ (57 : Int) := by omega
    have a6 : (x == 46) = false := by simp; omega
    have a7 : (x == 95) = false := by simp; omega
    have a8 : (x == 45) = false := by simp; omega
    have a9 : (x == 47) = false := by simp; omega
    clear HQ
    go_enter Try.func50, Try.ntmps50
    go_wp2
    go_ret
    exact ⟨by rw [HV.out]; first | rfl | (show Ending.returned (Value.int .i64 (x - 97 + 10)) = _; rw [show x - 97 + 10 = x - 87 by omega]), rfl⟩
  · have HV : Hid (q = false) := by
      show _ = _
      rw [HQ.out]
      unfold inWI
      first | (exact decide_eq_true (by omega)) | (exact decide_eq_false (by omega)) | (repeat' split; all_goals first | rfl | omega)
    have a0 : ¬ (97 : Int) ≤ x := by omega
    have a1 : x ≤ (122 : Int) := by omega
    have a2 : ¬ (65 : Int) ≤ x := by omega
    have a3 : x ≤ (90 : Int) := by omega
    have a4 : (48 : Int) ≤ x := by omega
    have a5 : ¬ x ≤ (57 : Int) := by omega
    have a6 : (x == 46) = false := by simp; omega
    have a7 : (x == 95) = false := by simp; omega
    have a8 : (x == 45) = false := by simp; omega
    have a9 : (x == 47) = false := by simp; omega
    clear HQ
    go_enter Try.func50, Try.ntmps50
    go_wp2
    go_ret
    exact ⟨by rw [HV.out]; first | rfl | (show Ending.returned (Value.int .i64 (x - 97 + 10)) = _; rw [show x - 97 + 10 = x - 87 by omega]), rfl⟩
  · have HV : Hid (q = true) := by
      show _ = _
      rw [HQ.out]
      unfold inWI
      first | (exact decide_eq_true (by omega)) | (exact decide_eq_false (by omega)) | (repeat' split; all_goals first | rfl | omega)
    have a0 : ¬ (97 : Int) ≤ x := by omega
    have a1 : x ≤ (122 : Int) := by omega
    have a2 : (65 : Int) ≤ x := by omega
    have a3 : x ≤ (90 : Int) := by omega
    have a4 : (48 : Int) ≤ x := by omega
    have a5 : ¬ x ≤ (57 : Int) := by omega
    have a6 : (x == 46) = false := by simp; omega
    have a7 : (x == 95) = false := by simp; omega
    have a8 : (x == 45) = false := by simp; omega
    have a9 : (x == 47) = false := by simp; omega
    clear HQ
    go_enter Try.func50, Try.ntmps50
    go_wp2
    go_ret
    exact ⟨by rw [HV.out]; first | rfl | (show Ending.returned (Value.int .i64 (x - 97 + 10)) = _; rw [show x - 97 + 10 = x - 87 by omega]), rfl⟩
  · have HV : Hid (q = false) := by
      show _ = _
      rw [HQ.out]
      unfold inWI
      first | (exact decide_eq_true (by omega)) | (exact decide_eq_false (by omega)) | (repeat' split; all_goals first | rfl | omega)
    have a0 : ¬ (97 : Int) ≤ x := by omega
    have a1 : x ≤ (122 : Int) := by omega
    have a2 : (65 : Int) ≤ x := by omega
    have a3 : ¬ x ≤ (90 : Int) := by omega
    have a4 : (48 : Int) ≤ x := by omega
    have a5 : ¬ x ≤ (57 : Int) := by omega
    have a6 : (x == 46) = false := by simp; omega
    have a7 : (x == 95) = false := by simp; omega
    have a8 : (x == 45) = false := by simp; omega
    have a9 : (x == 47) = false := by simp; omega
    clear HQ
    go_enter Try.func50, Try.ntmps50
    go_wp2
    go_ret
    exact ⟨by rw [HV.out]; first | rfl | (show Ending.returned (Value.int .i64 (x - 97 + 10)) = _; rw [show x - 97 + 10 = x - 87 by omega]), rfl⟩
  · have HV : Hid (q = true) := by show _ = _; rw [HQ.out]; first | rfl | decide
    clear h0 h1 HQ
    go_enter Try.func50, Try.ntmps50
    go_wp2
    go_ret
    exact ⟨by rw [HV.out]; first | rfl | (show Ending.returned (Value.int .i64 (x - 97 + 10)) = _; rw [show x - 97 + 10 = x - 87 by omega]), rfl⟩
  · have HV : Hid (q = false) := by show _ = _; rw [HQ.out]; first | rfl | decide
    clear h0 h1 HQ
    go_enter Try.func50, Try.ntmps50
    go_wp2
    go_ret
    exact ⟨by rw [HV.out]; first | rfl | (show Ending.returned (Value.int .i64 (x - 97 + 10)) = _; rw [show x - 97 + 10 = x - 87 by omega]), rfl⟩
  · have HV : Hid (q = true) := by
      show _ = _
      rw [HQ.out]
      unfold inWI
      first | (exact decide_eq_true (by omega)) | (exact decide_eq_false (by omega)) | (repeat' split; all_goals first | rfl | omega)
    have a0 : (97 : Int) ≤ x := by omega
    have a1 : x ≤ (122 : Int) := by omega
    have a2 : (65 : Int) ≤ x := by omega
    have a3 : ¬ x ≤ (90 : Int) := by omega
    have a4 : (48 : Int) ≤ x := by omega
    have a5 : ¬ x ≤ (57 : Int) := by omega
    have a6 : (x == 46) = false := by simp; omega
    have a7 : (x == 95) = false := by simp; omega
    have a8 : (x == 45) = false := by simp; omega
    have a9 : (x == 47) = false := by simp; omega
    clear HQ
    go_enter Try.func50, Try.ntmps50
    go_wp2
    go_ret
    exact ⟨by rw [HV.out]; first | rfl | (show Ending.returned (Value.int .i64 (x - 97 + 10)) = _; rw [show x - 97 + 10 = x - 87 by omega]), rfl⟩
  · have HV : Hid (q = false) := by
      show _ = _
      rw [HQ.out]
      unfold inWI
      first | (exact decide_eq_true (by omega)) | (exact decide_eq_false (by omega)) | (repeat' split; all_goals first | rfl | omega)
    have a0 : (97 : Int) ≤ x := by omega
    have a1 : ¬ x ≤ (122 : Int) := by omega
    have a2 : (65 : Int) ≤ x := by omega
    have a3 : ¬ x ≤ (90 : Int) := by omega
    have a4 : (48 : Int) ≤ x := by omega
    have a5 : ¬ x ≤ (57 : Int) := by omega
    have a6 : (x == 46) = false := by simp; omega
    have a7 : (x == 95) = false := by simp; omega
    have a8 : (x == 45) = false := by simp; omega
    have a9 : (x == 47) = false := by simp; omega
    clear HQ
    go_enter Try.func50, Try.ntmps50
    go_wp2
    go_ret
    exact ⟨by rw [HV.out]; first | rfl | (show Ending.returned (Value.int .i64 (x - 97 + 10)) = _; rw [show x - 97 + 10 = x - 87 by omega]), rfl⟩
set_option maxRecDepth 100000 in
set_option maxHeartbeats 4000000 in
theorem rsign_calls (x : Int) (h0 : 0 ≤ x) (h1 : x ≤ 255) (w : World) : Calls Try.prog 52 #[.int .u8 x] w fun e w' => e = .returned (.int .i64 (sgI x)) ∧ w' = w := by
  obtain ⟨q, hq⟩ : ∃ q, q = sgI x := ⟨_, rfl⟩
  have HQ := hide hq
  rw [← hq]
  clear hq
  rcases (by omega : (0 ≤ x ∧ x ≤ 39) ∨ x = 40 ∨ x = 41 ∨ (42 ≤ x ∧ x ≤ 43) ∨ x = 44 ∨ (45 ≤ x ∧ x ≤ 60) ∨ x = 61 ∨ (62 ≤ x ∧ x ≤ 255)) with ⟨i0, i1⟩ | rfl | rfl | ⟨i0, i1⟩ | rfl | ⟨i0, i1⟩ | rfl | ⟨i0, i1⟩
  · have HV : Hid (q = 0) := by
      show _ = _
      rw [HQ.out]
      unfold sgI
      first | (exact decide_eq_true (by omega)) | (exact decide_eq_false (by omega)) | (repeat' split; all_goals first | rfl | omega)
    have a0 : (x == 61) = false := by simp; omega
    have a1 : (x == 40) = false := by simp; omega
    have a2 : (x == 41) = false := by simp; omega
    have a3 : (x == 44) = false := by simp; omega
    clear HQ
    go_enter Try.func52, Try.ntmps52
    go_wp2
    go_ret
    exact ⟨by rw [HV.out]; first | rfl | (show Ending.returned (Value.int .i64 (x - 97 + 10)) = _; rw [show x - 97 + 10 = x - 87 by omega]), rfl⟩
  · have HV : Hid (q = 4) := by show _ = _; rw [HQ.out]; first | rfl | decide
    clear h0 h1 HQ
    go_enter Try.func52, Try.ntmps52
    go_wp2
    go_ret
    exact ⟨by rw [HV.out]; first | rfl | (show Ending.returned (Value.int .i64 (x - 97 + 10)) = _; rw [show x - 97 + 10 = x - 87 by omega]), rfl⟩
  · have HV : Hid (q = 5) := by show _ = _; rw [HQ.out]; first | rfl | decide
    clear h0 h1 HQ
    go_enter Try.func52, Try.ntmps52
    go_wp2
    go_ret
    exact ⟨by rw [HV.out]; first | rfl | (show Ending.returned (Value.int .i64 (x - 97 + 10)) = _; rw [show x - 97 + 10 = x - 87 by omega]), rfl⟩
  · have HV : Hid (q = 0) := by
      show _ = _
      rw [HQ.out]
      unfold sgI
      first | (exact decide_eq_true (by omega)) | (exact decide_eq_false (by omega)) | (repeat' split; all_goals first | rfl | omega)
    have a0 : (x == 61) = false := by simp; omega
    have a1 : (x == 40) = false := by simp; omega
    have a2 : (x == 41) = false := by simp; omega
    have a3 : (x == 44) = false := by simp; omega
    clear HQ
    go_enter Try.func52, Try.ntmps52
    go_wp2
    go_ret
    exact ⟨by rw [HV.out]; first | rfl | (show Ending.returned (Value.int .i64 (x - 97 + 10)) = _; rw [show x - 97 + 10 = x - 87 by omega]), rfl⟩
  · have HV : Hid (q = 6) := by show _ = _; rw [HQ.out]; first | rfl | decide
    clear h0 h1 HQ
    go_enter Try.func52, Try.ntmps52
    go_wp2
    go_ret
    exact ⟨by rw [HV.out]; first | rfl | (show Ending.returned (Value.int .i64 (x - 97 + 10)) = _; rw [show x - 97 + 10 = x - 87 by omega]), rfl⟩
  · have HV : Hid (q = 0) := by
      show _ = _
      rw [HQ.out]
      unfold sgI
      first | (exact decide_eq_true (by omega)) | (exact decide_eq_false (by omega)) | (repeat' split; all_goals first | rfl | omega)
    have a0 : (x == 61) = false := by simp; omega
    have a1 : (x == 40) = false := by simp; omega
    have a2 : (x == 41) = false := by simp; omega
    have a3 : (x == 44) = false := by simp; omega
    clear HQ
    go_enter Try.func52, Try.ntmps52
    go_wp2
    go_ret
    exact ⟨by rw [HV.out]; first | rfl | (show Ending.returned (Value.int .i64 (x - 97 + 10)) = _; rw [show x - 97 + 10 = x - 87 by omega]), rfl⟩
  · have HV : Hid (q = 3) := by show _ = _; rw [HQ.out]; first | rfl | decide
    clear h0 h1 HQ
    go_enter Try.func52, Try.ntmps52
    go_wp2
    go_ret
    exact ⟨by rw [HV.out]; first | rfl | (show Ending.returned (Value.int .i64 (x - 97 + 10)) = _; rw [show x - 97 + 10 = x - 87 by omega]), rfl⟩
  · have HV : Hid (q = 0) := by
      show _ = _
      rw [HQ.out]
      unfold sgI
      first | (exact decide_eq_true (by omega)) | (exact decide_eq_false (by omega)) | (repeat' split; all_goals first | rfl | omega)
    have a0 : (x == 61) = false := by simp; omega
    have a1 : (x == 40) = false := by simp; omega
    have a2 : (x == 41) = false := by simp; omega
    have a3 : (x == 44) = false := by simp; omega
    clear HQ
    go_enter Try.func52, Try.ntmps52
    go_wp2
    go_ret
    exact ⟨by rw [HV.out]; first | rfl | (show Ending.returned (Value.int .i64 (x - 97 + 10)) = _; rw [show x - 97 + 10 = x - 87 by omega]), rfl⟩
set_option maxRecDepth 100000 in
set_option maxHeartbeats 4000000 in
theorem apart_calls (x : Int) (w : World) : Calls Try.prog 31 #[.int .i64 x] w fun e w' => e = .returned (.bool (ap x)) ∧ w' = w := by
  obtain ⟨q, hq⟩ : ∃ q, q = ap x := ⟨_, rfl⟩
  have HQ := hide hq
  rw [← hq]
  clear hq
  rcases (by omega : x ≤ 3 ∨ x = 4 ∨ x = 5 ∨ x = 6 ∨ x = 7 ∨ 8 ≤ x) with i0 | rfl | rfl | rfl | rfl | i0
  · have HV : Hid (q = true) := by
      show _ = _
      rw [HQ.out]
      unfold ap
      first | (exact decide_eq_true (by omega)) | (exact decide_eq_false (by omega)) | (repeat' split; all_goals first | rfl | omega)
    have a0 : (x == 4) = false := by simp; omega
    have a1 : (x == 5) = false := by simp; omega
    have a2 : (x == 6) = false := by simp; omega
    have a3 : (x == 7) = false := by simp; omega
    clear HQ
    go_enter Try.func31, Try.ntmps31
    go_wp2
    go_ret
    exact ⟨by rw [HV.out]; first | rfl | (show Ending.returned (Value.int .i64 (x - 97 + 10)) = _; rw [show x - 97 + 10 = x - 87 by omega]), rfl⟩
  · have HV : Hid (q = false) := by show _ = _; rw [HQ.out]; first | rfl | decide
    clear HQ
    go_enter Try.func31, Try.ntmps31
    go_wp2
    go_ret
    exact ⟨by rw [HV.out]; first | rfl | (show Ending.returned (Value.int .i64 (x - 97 + 10)) = _; rw [show x - 97 + 10 = x - 87 by omega]), rfl⟩
  · have HV : Hid (q = false) := by show _ = _; rw [HQ.out]; first | rfl | decide
    clear HQ
    go_enter Try.func31, Try.ntmps31
    go_wp2
    go_ret
    exact ⟨by rw [HV.out]; first | rfl | (show Ending.returned (Value.int .i64 (x - 97 + 10)) = _; rw [show x - 97 + 10 = x - 87 by omega]), rfl⟩
  · have HV : Hid (q = false) := by show _ = _; rw [HQ.out]; first | rfl | decide
    clear HQ
    go_enter Try.func31, Try.ntmps31
    go_wp2
    go_ret
    exact ⟨by rw [HV.out]; first | rfl | (show Ending.returned (Value.int .i64 (x - 97 + 10)) = _; rw [show x - 97 + 10 = x - 87 by omega]), rfl⟩
  · have HV : Hid (q = false) := by show _ = _; rw [HQ.out]; first | rfl | decide
    clear HQ
    go_enter Try.func31, Try.ntmps31
    go_wp2
    go_ret
    exact ⟨by rw [HV.out]; first | rfl | (show Ending.returned (Value.int .i64 (x - 97 + 10)) = _; rw [show x - 97 + 10 = x - 87 by omega]), rfl⟩
  · have HV : Hid (q = true) := by
      show _ = _
      rw [HQ.out]
      unfold ap
      first | (exact decide_eq_true (by omega)) | (exact decide_eq_false (by omega)) | (repeat' split; all_goals first | rfl | omega)
    have a0 : (x == 4) = false := by simp; omega
    have a1 : (x == 5) = false := by simp; omega
    have a2 : (x == 6) = false := by simp; omega
    have a3 : (x == 7) = false := by simp; omega
    clear HQ
    go_enter Try.func31, Try.ntmps31
    go_wp2
    go_ret
    exact ⟨by rw [HV.out]; first | rfl | (show Ending.returned (Value.int .i64 (x - 97 + 10)) = _; rw [show x - 97 + 10 = x - 87 by omega]), rfl⟩
/-- Nothing stands beside it. -/
def clI (x : Int) : Bool := decide (x = 4 ∨ x = 5 ∨ x = 6)
set_option maxRecDepth 100000 in
set_option maxHeartbeats 4000000 in
theorem rclose_calls (x : Int) (w : World) : Calls Try.prog 39 #[.int .i64 x] w fun e w' => e = .returned (.bool (clI x)) ∧ w' = w := by
  obtain ⟨q, hq⟩ : ∃ q, q = clI x := ⟨_, rfl⟩
  have HQ := hide hq
  rw [← hq]
  clear hq
  rcases (by omega : x ≤ 3 ∨ x = 4 ∨ x = 5 ∨ x = 6 ∨ 7 ≤ x) with i0 | rfl | rfl | rfl | i0
  · have HV : Hid (q = false) := by
      show _ = _
      rw [HQ.out]
      unfold clI
      first | (exact decide_eq_true (by omega)) | (exact decide_eq_false (by omega)) | (repeat' split; all_goals first | rfl | omega)
    have a0 : (x == 4) = false := by simp; omega
    have a1 : (x == 5) = false := by simp; omega
    have a2 : (x == 6) = false := by simp; omega
    clear HQ
    go_enter Try.func39, Try.ntmps39
    go_wp2
    go_ret
    exact ⟨by rw [HV.out]; first | rfl | (show Ending.returned (Value.int .i64 (x - 97 + 10)) = _; rw [show x - 97 + 10 = x - 87 by omega]), rfl⟩
  · have HV : Hid (q = true) := by show _ = _; rw [HQ.out]; first | rfl | decide
    clear HQ
    go_enter Try.func39, Try.ntmps39
    go_wp2
    go_ret
    exact ⟨by rw [HV.out]; first | rfl | (show Ending.returned (Value.int .i64 (x - 97 + 10)) = _; rw [show x - 97 + 10 = x - 87 by omega]), rfl⟩
  · have HV : Hid (q = true) := by show _ = _; rw [HQ.out]; first | rfl | decide
    clear HQ
    go_enter Try.func39, Try.ntmps39
    go_wp2
    go_ret
    exact ⟨by rw [HV.out]; first | rfl | (show Ending.returned (Value.int .i64 (x - 97 + 10)) = _; rw [show x - 97 + 10 = x - 87 by omega]), rfl⟩
  · have HV : Hid (q = true) := by show _ = _; rw [HQ.out]; first | rfl | decide
    clear HQ
    go_enter Try.func39, Try.ntmps39
    go_wp2
    go_ret
    exact ⟨by rw [HV.out]; first | rfl | (show Ending.returned (Value.int .i64 (x - 97 + 10)) = _; rw [show x - 97 + 10 = x - 87 by omega]), rfl⟩
  · have HV : Hid (q = false) := by
      show _ = _
      rw [HQ.out]
      unfold clI
      first | (exact decide_eq_true (by omega)) | (exact decide_eq_false (by omega)) | (repeat' split; all_goals first | rfl | omega)
    have a0 : (x == 4) = false := by simp; omega
    have a1 : (x == 5) = false := by simp; omega
    have a2 : (x == 6) = false := by simp; omega
    clear HQ
    go_enter Try.func39, Try.ntmps39
    go_wp2
    go_ret
    exact ⟨by rw [HV.out]; first | rfl | (show Ending.returned (Value.int .i64 (x - 97 + 10)) = _; rw [show x - 97 + 10 = x - 87 by omega]), rfl⟩
end Go.Proofs.Ytcdilcjgmcamcaa
