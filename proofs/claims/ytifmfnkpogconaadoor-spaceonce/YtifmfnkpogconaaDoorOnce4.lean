/- SpaceOnce: pure facts. -/
import Derived.Test.YtifmfnkpogconaaDoorWay5
namespace Go.Proofs.YtifmfnkpogconaaDoor
open Go.RowKit

theorem range_split {n j : Nat} (hj : j < n) : List.range n = List.range j ++ j :: (List.range n).drop (j + 1) := by
  have h1 : (List.range n).take j = List.range j := by
    refine List.ext_getElem? fun i => ?_
    by_cases hi : i < j
    · rw [List.getElem?_take_of_lt hi, List.getElem?_eq_getElem (by simp; omega), List.getElem?_eq_getElem (by simpa using hi)]
      simp
    · rw [List.getElem?_eq_none (by simp; omega), List.getElem?_eq_none (by simp; omega)]
  have h2 : (List.range n).drop j = j :: (List.range n).drop (j + 1) := by
    rw [List.drop_eq_getElem_cons (by simpa using hj)]
    simp
  rw [← h2, ← h1, List.take_append_drop]
theorem drop_gt {n j i : Nat} (h : i ∈ (List.range n).drop (j + 1)) : j < i := by
  obtain ⟨k, hk, e⟩ := List.mem_iff_getElem.1 h
  rw [List.getElem_drop, List.getElem_range] at e
  omega
/-- What is free, below and above the number j. -/
def loR (bs : List Bool) (j : Nat) : List Nat := (List.range j).filter fun i => bs.getD i false
def hiR (bs : List Bool) (j : Nat) : List Nat := ((List.range bs.length).drop (j + 1)).filter fun i => bs.getD i false
theorem setR_split {bs : List Bool} {j : Nat} (hj : j < bs.length) : setR bs bs.length = loR bs j ++ ((if bs.getD j false = true then [j] else []) ++ hiR bs j) := by
  unfold setR loR hiR
  conv => lhs; rw [range_split hj]
  rw [List.filter_append, List.filter_cons]
  by_cases hb : bs.getD j false = true
  · rw [if_pos hb, if_pos hb]; rfl
  · rw [if_neg hb, if_neg hb]; rfl
theorem loR_set {bs : List Bool} {j : Nat} (hj : j < bs.length) (b : Bool) : loR (bs.set j b) j = loR bs j := by
  unfold loR
  refine List.filter_congr fun i hi => ?_
  have := List.mem_range.1 hi
  rw [getD_set hj, if_neg (by omega)]
theorem hiR_set {bs : List Bool} {j : Nat} (hj : j < bs.length) (b : Bool) : hiR (bs.set j b) j = hiR bs j := by
  unfold hiR
  rw [List.length_set]
  refine List.filter_congr fun i hi => ?_
  have := drop_gt hi
  rw [getD_set hj, if_neg (by omega)]
theorem setR_set {bs : List Bool} {j : Nat} (hj : j < bs.length) (b : Bool) : setR (bs.set j b) (bs.set j b).length = loR bs j ++ ((if b = true then [j] else []) ++ hiR bs j) := by
  rw [setR_split (by rw [List.length_set]; exact hj), loR_set hj, hiR_set hj, getD_set hj, if_pos rfl]
/-- One number less, one more. -/
theorem allR_less {f : Nat} {bs : List Bool} {j : Nat} (hj : j < bs.length) (hb : bs.getD j false = true) : (allR f bs).length = (allR f (bs.set j false)).length + 1 := by
  unfold allR
  rw [List.length_map, List.length_map, setR_set hj, setR_split hj, if_pos hb]
  simp only [List.length_append, List.length_cons, List.length_nil, Bool.false_eq_true, if_false]
  omega
theorem allR_more {f : Nat} {bs : List Bool} {j : Nat} (hj : j < bs.length) (hb : bs.getD j false = false) : (allR f (bs.set j true)).length = (allR f bs).length + 1 := by
  unfold allR
  rw [List.length_map, List.length_map, setR_set hj, setR_split hj, hb, if_pos rfl, if_neg (by decide)]
  simp only [List.length_append, List.length_cons, List.length_nil]
  omega
theorem loR_nil {bs : List Bool} {j : Nat} (h : ∀ i, i < j → bs.getD i false = false) : loR bs j = [] := by
  unfold loR
  refine List.filter_eq_nil_iff.2 fun i hi => ?_
  rw [h i (List.mem_range.1 hi)]
  decide
/-- The lowest one that is free stands first. -/
theorem allR_first {f : Nat} {bs : List Bool} {j : Nat} (hj : j < bs.length) (hb : bs.getD j false = true) (h : ∀ i, i < j → bs.getD i false = false) : allR f bs = (f + j) :: allR f (bs.set j false) := by
  unfold allR
  rw [setR_set hj, setR_split hj, if_pos hb, loR_nil h]
  simp
theorem allR_none {f : Nat} {bs : List Bool} (h : ∀ i, i < bs.length → bs.getD i false = false) : allR f bs = [] := by
  unfold allR setR
  rw [List.filter_eq_nil_iff.2 fun i hi => by rw [h i (List.mem_range.1 hi)]; decide]
  rfl
end Go.Proofs.YtifmfnkpogconaaDoor
