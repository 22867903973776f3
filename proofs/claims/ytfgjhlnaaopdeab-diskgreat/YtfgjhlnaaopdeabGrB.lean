/- Sectors written many times: which writes there are, what a crash leaves of them. -/
import Derived.Test.YtfgjhlnaaopdeabGrA
namespace Go.Proofs.Ytfgjhlnaaopdeab
open Go.RowKit Go.Maps

def marksL (i h : Nat) : List (List Int) := (List.range h).map fun k => markL i (k + 1)
theorem marks_snoc (i h : Nat) : marksL i h ++ [markL i (h + 1)] = marksL i (h + 1) := by simp [marksL, List.range_succ]
theorem marks_len (i h : Nat) : (marksL i h).length = h := by simp [marksL]
theorem marks_at (i : Nat) {h k : Nat} (hk : k < h) : (marksL i h).getD k zsec = markL i (k + 1) := by
  rw [List.getD_eq_getElem?_getD, List.getElem?_eq_getElem (by rw [marks_len]; exact hk)]
  simp [marksL]
/-- A disk of n sectors of zeros, of which each has been written so many times. -/
structure Gr (D : AD) (n : Nat) (h : Nat → Nat) : Prop where
  la : D.la = List.replicate n zsec
  wr : ∀ i, D.wr i = marksL i (h i)
theorem Gr.zero (n : Nat) : Gr (zeroD n) n (fun _ => 0) := ⟨rfl, fun _ => rfl⟩
theorem Gr.write {D : AD} {n : Nat} {h : Nat → Nat} (g : Gr D n h) {i j : Nat} (hj : h i + 1 = j) : Gr (D.write i (markL i j)) n (updF h i j) := by
  refine ⟨g.la, fun k => ?_⟩
  subst hj
  by_cases e : k = i
  · subst e
    simp only [AD.write, updF_same]
    rw [g.wr k, marks_snoc]
  · simp only [AD.write, updF_other _ _ e]
    exact g.wr k
theorem Gr.reads {D : AD} {n : Nat} {h : Nat → Nat} (g : Gr D n h) (k : Nat) : Gr (D.reads k) n h := ⟨g.la, g.wr⟩
theorem Gr.base {D : AD} {n : Nat} {h : Nat → Nat} (g : Gr D n h) (i : Nat) : D.la.getD i zsec = zsec := by
  rw [g.la, List.getD_eq_getElem?_getD]
  by_cases hi : i < n
  · rw [List.getElem?_eq_getElem (by simpa using hi)]; simp
  · rw [List.getElem?_eq_none (by simp; omega)]; rfl
theorem Gr.now0 {D : AD} {n : Nat} {h : Nat → Nat} (g : Gr D n h) {i : Nat} (h0 : h i = 0) : D.now i = zsec := by
  unfold AD.now
  rw [g.wr i, h0, g.base i]
  rfl
theorem Gr.now1 {D : AD} {n : Nat} {h : Nat → Nat} (g : Gr D n h) {i : Nat} (h0 : 0 < h i) : D.now i = markL i (h i) := by
  unfold AD.now
  obtain ⟨m, hm⟩ : ∃ m, h i = m + 1 := ⟨h i - 1, by omega⟩
  rw [g.wr i, hm, ← marks_snoc]
  simp
/-- How many sectors below i have been written. -/
def cntW (h : Nat → Nat) (i : Nat) : Nat := ((List.range i).filter fun k => decide (0 < h k)).length
theorem cntW_yes {h : Nat → Nat} {i : Nat} (h0 : 0 < h i) : cntW h (i + 1) = cntW h i + 1 := by
  unfold cntW
  rw [List.range_succ, List.filter_append]
  simp [h0]
theorem cntW_no {h : Nat → Nat} {i : Nat} (h0 : h i = 0) : cntW h (i + 1) = cntW h i := by
  unfold cntW
  rw [List.range_succ, List.filter_append]
  simp [h0]
theorem Gr.idx {D : AD} {n : Nat} {h : Nat → Nat} (g : Gr D n h) {i : Nat} (hi : i < n) (h0 : 0 < h i) : D.keys.idxOf i = cntW h i := by
  have hk : D.keys = (List.range n).filter fun k => decide (0 < h k) := by
    unfold AD.keys
    rw [g.la, List.length_replicate]
    apply List.filter_congr
    intro k _
    rw [g.wr k, marks_len]
  rw [hk]
  obtain ⟨r, rfl⟩ : ∃ r, n = i + (r + 1) := ⟨n - i - 1, by omega⟩
  rw [List.range_add, List.filter_append, List.range_succ_eq_map, List.map_cons, List.filter_cons]
  have e : decide (0 < h (i + 0)) = true := by simpa using h0
  rw [if_pos e, Nat.add_zero, List.idxOf_append, if_neg (fun hm => by
    have := (List.mem_filter.1 hm).1
    simp at this)]
  simp [cntW]
/-- Behind a crash. -/
theorem Gr.settle {D : AD} {n : Nat} {h : Nat → Nat} (g : Gr D n h) (fate : Nat → Int) {i : Nat} (hi : i < n) :
    (D.settle fate).la.getD i zsec = if 0 < h i ∧ 1 ≤ fate (cntW h i) then markL i (min (fate (cntW h i)) (h i)).toNat else zsec := by
  rw [AD.settle_at D fate (by rw [g.la, List.length_replicate]; exact hi), g.base i, g.wr i, marks_len]
  by_cases h0 : 0 < h i
  · rw [g.idx hi h0]
    by_cases h1 : 1 ≤ fate (cntW h i)
    · rw [if_pos (by omega), if_pos ⟨h0, h1⟩]
      unfold pickW
      rw [marks_len, marks_at i (by omega)]
      congr 1
      omega
    · rw [if_neg (by omega), if_neg (fun h => h1 h.2)]
  · rw [if_neg (by omega), if_neg (fun h => h0 h.1)]
/-- How often each has been written when row j has come to i, of t rows. -/
def hadN (n t j i x : Nat) : Nat := if x % 5 = 4 ∨ n ≤ x then 0 else if x < i ∧ ¬ (x % 3 = 2 ∧ j = t) then j else j - 1
theorem hadN_skip {n t j i : Nat} (h : i % 5 = 4 ∨ i % 3 = 2 ∧ j = t) : hadN n t j (i + 1) = hadN n t j i := by
  funext x
  unfold hadN
  by_cases h1 : x % 5 = 4 ∨ n ≤ x
  · rw [if_pos h1, if_pos h1]
  · rw [if_neg h1, if_neg h1]
    by_cases e : x = i
    · subst e
      have h2 : x % 3 = 2 ∧ j = t := by omega
      rw [if_neg (fun h => h.2 h2), if_neg (fun h => h.2 h2)]
    · by_cases h3 : x < i
      · by_cases h4 : x % 3 = 2 ∧ j = t
        · rw [if_neg (fun h => h.2 h4), if_neg (fun h => h.2 h4)]
        · rw [if_pos ⟨by omega, h4⟩, if_pos ⟨h3, h4⟩]
      · rw [if_neg (fun h => by omega), if_neg (fun h => h3 h.1)]
theorem hadN_write {n t j i : Nat} (hi : i < n) (h : ¬ (i % 5 = 4 ∨ i % 3 = 2 ∧ j = t)) : updF (hadN n t j i) i j = hadN n t j (i + 1) := by
  funext x
  by_cases e : x = i
  · subst e
    rw [updF_same]
    unfold hadN
    rw [if_neg (by omega), if_pos ⟨by omega, fun h9 => h (Or.inr h9)⟩]
  · rw [updF_other _ _ e]
    unfold hadN
    by_cases h1 : x % 5 = 4 ∨ n ≤ x
    · rw [if_pos h1, if_pos h1]
    · rw [if_neg h1, if_neg h1]
      by_cases h3 : x < i
      · by_cases h4 : x % 3 = 2 ∧ j = t
        · rw [if_neg (fun h => h.2 h4), if_neg (fun h => h.2 h4)]
        · rw [if_pos ⟨h3, h4⟩, if_pos ⟨by omega, h4⟩]
      · rw [if_neg (fun h => h3 h.1), if_neg (fun h => by omega)]
theorem hadN_at {n t j i : Nat} (hi : i < n) (hj : 1 ≤ j) (h : ¬ (i % 5 = 4 ∨ i % 3 = 2 ∧ j = t)) : hadN n t j i i + 1 = j := by
  unfold hadN
  rw [if_neg (by omega), if_neg (fun h => by omega)]
  omega
theorem hadN_row {n t j : Nat} (hj : j < t) : hadN n t j n = hadN n t (j + 1) 0 := by
  funext x
  unfold hadN
  by_cases h1 : x % 5 = 4 ∨ n ≤ x
  · rw [if_pos h1, if_pos h1]
  · rw [if_neg h1, if_neg h1, if_pos ⟨by omega, by omega⟩, if_neg (by omega)]
    omega
theorem hadN_first (n t : Nat) : hadN n t 1 0 = fun _ => 0 := by
  funext x
  unfold hadN
  split
  · rfl
  · rw [if_neg (by omega)]
theorem hadN_le (n t j i x : Nat) : hadN n t j i x ≤ j := by
  unfold hadN
  split
  · omega
  · split <;> omega
end Go.Proofs.Ytfgjhlnaaopdeab
