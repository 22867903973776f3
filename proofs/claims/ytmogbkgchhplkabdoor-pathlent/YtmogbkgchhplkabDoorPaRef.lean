/- The document's may and Name. -/
import Derived.Test.YtmogbkgchhplkabDoorPaCont
namespace Go.Proofs.YtmogbkgchhplkabDoor
open Go.RowKit

theorem infoStr : (Tryd.prog.info? 9).map (fun i => (i.zero, i.size, i.bytes)) = some (some (.string ByteArray.empty), 1, 16) := by kernel_rfl
set_option maxRecDepth 100000 in
set_option maxHeartbeats 2000000 in
theorem may_calls (c : Int) (w : World) : Calls Tryd.prog 42 #[.int .u8 c] w fun e w' => e = .returned (.bool (inN c)) ∧ w' = w := by
  obtain ⟨q, hq⟩ : ∃ q, q = inN c := ⟨_, rfl⟩
  have HQ := hide hq
  rw [← hq]
  clear hq
  by_cases a1 : 97 ≤ c
  all_goals by_cases a2 : c ≤ 122
  all_goals by_cases a3 : 65 ≤ c
  all_goals by_cases a4 : c ≤ 90
  all_goals by_cases a5 : 48 ≤ c
  all_goals by_cases a6 : c ≤ 57
  all_goals by_cases a7 : c = 46
  all_goals by_cases a8 : c = 95
  all_goals by_cases a9 : c = 45
  all_goals try (exfalso; omega)
  all_goals (
    have HV : Hid (q = decide ((97 ≤ c ∧ c ≤ 122) ∨ (65 ≤ c ∧ c ≤ 90) ∨ (48 ≤ c ∧ c ≤ 57) ∨ c = 46 ∨ c = 95 ∨ c = 45)) := HQ.out
    have b7 : (c == 46) = decide (c = 46) := rfl
    have b8 : (c == 95) = decide (c = 95) := rfl
    have b9 : (c == 45) = decide (c = 45) := rfl
    go_enter Tryd.func42, Tryd.ntmps42
    go_wp2
    go_ret
    refine ⟨?_, rfl⟩
    rw [HV.out]
    first
    | (rw [decide_eq_true (by omega)]; rfl)
    | (rw [decide_eq_false (by omega)]; rfl))
/-- The document's name: the first i bytes may stand in one. -/
def mayTo (s : ByteArray) (i : Nat) : Prop := ∀ j, j < i → inN (byt s j) = true
def rnameB (s : ByteArray) : Prop := 1 ≤ s.size ∧ s.size ≤ 64 ∧ s ≠ dot1 ∧ s ≠ dot2 ∧ mayTo s s.size
set_option maxRecDepth 100000 in
set_option maxHeartbeats 2000000 in
theorem rname_calls (s : ByteArray) (hs : s.size ≤ 140737488360000) (q : Bool) (hq : q = true ↔ rnameB s) (w : World) : Calls Tryd.prog 29 #[.string s] w fun e w' => e = .returned (.bool q) ∧ w' = w := by
  have HT : Hid (rnameB s → q = true) := hq.2
  have HF : Hid (¬ rnameB s → q = false) := fun h => by
    cases q with
    | false => rfl
    | true => exact absurd (hq.1 rfl) h
  clear hq
  have e1 : (s.toList == [46]) = decide (s = dot1) := by rw [← str_eq, ByteArray.toList_eq dot1]; rfl
  have e2 : (s.toList == [46, 46]) = decide (s = dot2) := by rw [← str_eq, ByteArray.toList_eq dot2]; rfl
  by_cases h : 1 ≤ s.size ∧ s.size ≤ 64 ∧ s ≠ dot1 ∧ s ≠ dot2
  · obtain ⟨h1, h2, h3, h4⟩ := h
    rw [decide_eq_false h3] at e1
    rw [decide_eq_false h4] at e2
    have H3 := hide h3
    have H4 := hide h4
    clear h3 h4
    have i1 : (1 : Int) ≤ (s.size : Int) := by omega
    have i2 : (s.size : Int) ≤ 64 := by omega
    go_enter Tryd.func29, Tryd.ntmps29
    go_wp2_with fail
    go_loop [3] (fun jv => ∃ (j : Nat), j ≤ s.size ∧ jv = .int .i64 (j : Int) ∧ Hid (mayTo s j)) (fun j => s.size - (intOf j).toNat)
    case atStart => exact ⟨0, by omega, rfl, fun j hj => by omega⟩
    case round =>
      obtain ⟨j, hj, rfl, HJ⟩ := hrel
      by_cases hlt : j < s.size
      · have hidx := index_str s j hlt
        have HM := hide (may_calls (byt s j) w)
        have hjI : (j : Int) < (s.size : Int) := by omega
        cases hin : inN (byt s j) with
        | true =>
          have HN : Hid (mayTo s (j + 1)) := fun k hk => by
            by_cases e : k = j
            · subst e; exact hin
            · exact unhide HJ k (by omega)
          rw [hin] at HM
          generalize byt s j = x at *
          clear hin
          go_wp2_with fail
          refine (unhide HM).mono ?_
          rintro e w1 ⟨rfl, hw1⟩
          obtain rfl := hw1.symm
          clear hw1
          go_wp2
          go_roundw
          case rel => exact ⟨j + 1, by omega, by go_num, HN⟩
          case measure => simp [intOf]; omega
        | false =>
          have HN : Hid (¬ rnameB s) := fun hr => by
            have := hr.2.2.2.2 j hlt
            rw [hin] at this
            cases this
          rw [hin] at HM
          generalize byt s j = x at *
          clear hin
          go_wp2_with fail
          refine (unhide HM).mono ?_
          rintro e w1 ⟨rfl, hw1⟩
          obtain rfl := hw1.symm
          clear hw1
          go_wp2
          go_ret
          exact ⟨by rw [unhide HF HN.out]; rfl, rfl⟩
      · have HN : Hid (rnameB s) := ⟨h1, h2, H3.out, H4.out, fun k hk => unhide HJ k (by omega)⟩
        go_wp2
        go_ret
        exact ⟨by rw [unhide HT HN.out]; rfl, rfl⟩
  · have HN : Hid (¬ rnameB s) := fun hr => h ⟨hr.1, hr.2.1, hr.2.2.1, hr.2.2.2.1⟩
    have hcond : s.size < 1 ∨ (1 ≤ s.size ∧ 64 < s.size) ∨ (1 ≤ s.size ∧ s.size ≤ 64 ∧ s = dot1) ∨ (1 ≤ s.size ∧ s.size ≤ 64 ∧ s ≠ dot1 ∧ s = dot2) := by
      by_cases a1 : 1 ≤ s.size
      · by_cases a2 : s.size ≤ 64
        · by_cases a3 : s = dot1
          · exact Or.inr (Or.inr (Or.inl ⟨a1, a2, a3⟩))
          · by_cases a4 : s = dot2
            · exact Or.inr (Or.inr (Or.inr ⟨a1, a2, a3, a4⟩))
            · exact absurd ⟨a1, a2, a3, a4⟩ h
        · exact Or.inr (Or.inl ⟨a1, by omega⟩)
      · exact Or.inl (by omega)
    clear h
    rcases hcond with c1 | ⟨c1, c2⟩ | ⟨c1, c2, c3⟩ | ⟨c1, c2, c3, c4⟩
    · have i1 : (s.size : Int) < 1 := by omega
      go_enter Tryd.func29, Tryd.ntmps29
      go_wp2
      go_ret
      exact ⟨by rw [unhide HF HN.out]; rfl, rfl⟩
    · have i1 : (1 : Int) ≤ (s.size : Int) := by omega
      have i2 : (64 : Int) < (s.size : Int) := by omega
      go_enter Tryd.func29, Tryd.ntmps29
      go_wp2
      go_ret
      exact ⟨by rw [unhide HF HN.out]; rfl, rfl⟩
    · have i1 : (1 : Int) ≤ (s.size : Int) := by omega
      have i2 : (s.size : Int) ≤ 64 := by omega
      rw [decide_eq_true c3] at e1
      clear c3
      go_enter Tryd.func29, Tryd.ntmps29
      go_wp2
      go_ret
      exact ⟨by rw [unhide HF HN.out]; rfl, rfl⟩
    · have i1 : (1 : Int) ≤ (s.size : Int) := by omega
      have i2 : (s.size : Int) ≤ 64 := by omega
      rw [decide_eq_false c3] at e1
      rw [decide_eq_true c4] at e2
      clear c3 c4
      go_enter Tryd.func29, Tryd.ntmps29
      go_wp2
      go_ret
      exact ⟨by rw [unhide HF HN.out]; rfl, rfl⟩
end Go.Proofs.YtmogbkgchhplkabDoor
