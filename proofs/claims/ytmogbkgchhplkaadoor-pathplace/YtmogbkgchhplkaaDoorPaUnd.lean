/- cut, HasPrefix, Under. -/
import Derived.Test.YtmogbkgchhplkaaDoorPaOrd
import Derived.Laws.Strings
namespace Go.Proofs.YtmogbkgchhplkaaDoor
open Go.RowKit

theorem str_eq (a b : ByteArray) : (a.toList == b.toList) = decide (a = b) := by
  rw [ByteArray.toList_eq, ByteArray.toList_eq]
  by_cases h : a = b
  · subst h; simp
  · rw [decide_eq_false h]
    simp only [beq_eq_false_iff_ne, ne_eq]
    exact fun e => h (Go.WideShapes.bytes_inj e)
/-- The first n bytes. -/
def fst (s : ByteArray) (n : Nat) : ByteArray := s.extract 0 n
def cutS (s : ByteArray) : ByteArray := if 2000 < s.size then fst s 2000 else s
theorem cutS_le (s : ByteArray) : (cutS s).size ≤ 2000 := by
  unfold cutS
  split
  · unfold fst
    rw [ByteArray.size_extract]
    omega
  · omega
set_option maxHeartbeats 1000000 in
theorem cut_calls (s : ByteArray) (w : World) : Calls Tryd.prog 9 #[.string s] w fun e w' => e = .returned (.string (cutS s)) ∧ w' = w := by
  by_cases h : 2000 < s.size
  · have HS : Hid (cutS s = fst s 2000) := by show _ = _; unfold cutS; rw [if_pos h]
    go_enter Tryd.func9, Tryd.ntmps9
    go_wp2
    go_ret
    exact ⟨by rw [HS.out]; rfl, rfl⟩
  · have HS : Hid (cutS s = s) := by show _ = _; unfold cutS; rw [if_neg h]
    go_enter Tryd.func9, Tryd.ntmps9
    go_wp2
    go_ret
    exact ⟨by rw [HS.out]; rfl, rfl⟩
set_option maxHeartbeats 1000000 in
theorem hasPre1_calls (s p : ByteArray) (w : World) : Calls Tryd.prog 43 #[.string s, .string p] w fun e w' => e = .returned (.bool (decide (p.size ≤ s.size ∧ fst s p.size = p))) ∧ w' = w := by
  by_cases h : p.size ≤ s.size
  · go_enter Tryd.func43, Tryd.ntmps43
    go_wp2
    rw [str_eq]
    go_ret
    refine ⟨?_, rfl⟩
    have e : decide (p.size ≤ s.size ∧ fst s p.size = p) = decide (s.extract 0 p.size = p) := decide_eq_decide.2 ⟨fun e => e.2, fun e => ⟨h, e⟩⟩
    rw [e]
    rfl
  · go_enter Tryd.func43, Tryd.ntmps43
    go_wp2
    go_ret
    exact ⟨by rw [decide_eq_false (fun e => h e.1)]; rfl, rfl⟩
/-- Does s begin with p? -/
def preB (s p : ByteArray) : Bool := decide (p.size ≤ s.size ∧ fst s p.size = p)
set_option maxHeartbeats 1000000 in
theorem hasPre_calls (s p : ByteArray) (w : World) : Calls Tryd.prog 34 #[.string s, .string p] w fun e w' => e = .returned (.bool (preB s p)) ∧ w' = w := by
  have H := hide (hasPre1_calls s p w)
  rw [show decide (p.size ≤ s.size ∧ fst s p.size = p) = preB s p from rfl] at H
  generalize preB s p = q at *
  go_enter Tryd.func34, Tryd.ntmps34
  go_wp2_with fail
  refine (unhide H).mono ?_
  rintro e w1 ⟨rfl, hw1⟩
  obtain rfl := hw1.symm
  clear hw1
  go_wp2
  go_ret
  exact ⟨rfl, rfl⟩
/-- Does b lie under a, or is it a? -/
def undB (a b : ByteArray) : Bool := decide (a.size = 0 ∨ a = b) || (preB b a && decide (byt b a.size = 47))
set_option maxRecDepth 100000 in
set_option maxHeartbeats 2000000 in
theorem under_calls (a b : ByteArray) (w : World) : Calls Tryd.prog 18 #[.string a, .string b] w fun e w' => e = .returned (.bool (undB a b)) ∧ w' = w := by
  have H := hide (hasPre_calls b a w)
  by_cases h0 : a = ⟨#[]⟩
  · subst h0
    go_enter Tryd.func18, Tryd.ntmps18
    go_wp2
    go_ret
    exact ⟨rfl, rfl⟩
  · have e0 : a.toList.isEmpty = false := by
      rw [ByteArray.toList_eq]
      cases hd : a.data.toList with
      | nil => exact absurd (Go.WideShapes.bytes_inj (a := a) (b := ⟨#[]⟩) (by rw [hd])) h0
      | cons _ _ => rfl
    have hs0 : ¬ a.size = 0 := fun e => h0 (Go.WideShapes.bytes_inj (by
      have h1 : a.data.toList.length = 0 := by simpa using e
      rw [List.eq_nil_of_length_eq_zero h1]))
    by_cases h1 : a = b
    · subst h1
      have e1 : (a.toList == a.toList) = true := by simp
      go_enter Tryd.func18, Tryd.ntmps18
      go_wp2
      go_ret
      exact ⟨by unfold undB; rw [decide_eq_true (Or.inr rfl)]; rfl, rfl⟩
    · have e1 : (a.toList == b.toList) = false := by rw [str_eq, decide_eq_false h1]
      have HU : Hid (undB a b = (preB b a && decide (byt b a.size = 47))) := by
        show _ = _
        unfold undB
        rw [decide_eq_false (fun e => e.elim hs0 h1), Bool.false_or]
      have hbig : preB b a = true → a.size < b.size := fun hp => by
        unfold preB at hp
        simp only [decide_eq_true_eq] at hp
        refine Nat.lt_of_le_of_ne hp.1 fun e => h1 ?_
        have h2 := hp.2
        unfold fst at h2
        rw [e] at h2
        rw [← h2]
        exact (Go.WideShapes.bytes_inj (by simp)).symm
      by_cases hp : preB b a = true
      · rw [hp] at H HU
        have hlt := hbig hp
        have hidx := index_str b a.size hlt
        have hI : (a.size : Int) < (b.size : Int) := by omega
        rw [Bool.true_and] at HU
        have hb47 : (byt b a.size == 47) = decide (byt b a.size = 47) := rfl
        generalize byt b a.size = x at *
        clear hp hbig
        go_enter Tryd.func18, Tryd.ntmps18
        go_wp2_with fail
        refine (unhide H).mono ?_
        rintro e w1 ⟨rfl, hw1⟩
        obtain rfl := hw1.symm
        clear hw1
        go_wp2
        go_ret
        exact ⟨by rw [HU.out]; rfl, rfl⟩
      · have hp2 : preB b a = false := by simpa using hp
        rw [hp2] at H HU
        clear hp hp2 hbig
        go_enter Tryd.func18, Tryd.ntmps18
        go_wp2_with fail
        refine (unhide H).mono ?_
        rintro e w1 ⟨rfl, hw1⟩
        obtain rfl := hw1.symm
        clear hw1
        go_wp2
        go_ret
        exact ⟨by rw [HU.out]; rfl, rfl⟩
end Go.Proofs.YtmogbkgchhplkaaDoor
