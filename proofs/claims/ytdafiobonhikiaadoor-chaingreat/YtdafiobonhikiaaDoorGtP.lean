/- ChainGreat: the pure part. -/
import Derived.Test.YtdafiobonhikiaaDoorSG
namespace Go.Proofs.YtdafiobonhikiaaDoor
open Go.RowKit Go.Maps

/-- The numbers: one behind the other, or every second one. -/
def grK (fr : Nat) (ap : Bool) (k : Nat) : List Nat := (List.range k).map fun i => if ap = true then fr + 2 * i else fr + i
/-- What is claimed between them. -/
def grC (fr : Nat) (ap : Bool) (k : Nat) : List Nat := if ap = true then (List.range k).map fun i => fr + 2 * i + 1 else []
theorem grK_len (fr : Nat) (ap : Bool) (k : Nat) : (grK fr ap k).length = k := by simp [grK]
theorem grK_at (fr : Nat) (ap : Bool) {k i : Nat} (h : i < k) : (grK fr ap k).getD i 0 = if ap = true then fr + 2 * i else fr + i := by
  unfold grK
  rw [List.getD_eq_getElem?_getD, List.getElem?_map, List.getElem?_range h]
  rfl
theorem grK_succ (fr : Nat) (ap : Bool) (k : Nat) : grK fr ap (k + 1) = grK fr ap k ++ [if ap = true then fr + 2 * k else fr + k] := by
  unfold grK
  rw [List.range_succ, List.map_append]
  rfl
theorem grC_succ (fr k : Nat) : grC fr true (k + 1) = grC fr true k ++ [fr + 2 * k + 1] := by
  unfold grC
  rw [if_pos rfl, if_pos rfl, List.range_succ, List.map_append]
  rfl
theorem claimAll_snoc (fr to_ : Nat) (ws l : List Nat) (n : Nat) : claimAll fr to_ ws (l ++ [n]) = claimW fr to_ (claimAll fr to_ ws l) (n : Int) := by
  unfold claimAll
  rw [List.foldl_append]
  rfl
theorem filt_even (P : Nat → Bool) : ∀ k, (∀ i, i < k → P (2 * i) = true ∧ P (2 * i + 1) = false) → (List.range (2 * k)).filter P = (List.range k).map (2 * ·)
  | 0, _ => rfl
  | k + 1, h => by
    have ih := filt_even P k (fun i hi => h i (by omega))
    obtain ⟨h1, h2⟩ := h k (by omega)
    rw [show 2 * (k + 1) = 2 * k + 1 + 1 by omega, List.range_succ, List.range_succ, List.filter_append, List.filter_append, ih, List.range_succ (n := k), List.map_append]
    simp [h1, h2]
theorem has_new {fr to_ i : Nat} (hi : i < to_ - fr) : hasB fr to_ (newW (to_ - fr)) ((fr + i : Nat) : Int) = true := by
  rw [← bit_has _ hi, newW_bit (by omega), decide_eq_true hi]
theorem newW_len2 {fr to_ : Nat} (h : fr < to_) : (newW (to_ - fr)).length = (to_ - fr + 63) / 64 := newW_len (by omega)
theorem grC_free {fr to_ k i : Nat} (h : fr < to_) (hi : i < to_ - fr) : hasB fr to_ (claimAll fr to_ (newW (to_ - fr)) (grC fr true k)) ((fr + i : Nat) : Int) = decide (∀ n ∈ grC fr true k, (n : Int) ≠ ((fr + i : Nat) : Int)) := by
  rw [has_claimAll _ (newW_len2 h), has_new hi, Bool.true_and]
/-- The first free numbers. -/
theorem allF_gr {w : World} {B g gw fr to_ k : Nat} {ap : Bool} (h : Sp w B g gw fr to_ (claimAll fr to_ (newW (to_ - fr)) (grC fr ap k))) (hft : fr < to_) (hk : fr + 2 * k ≤ to_) : (allF fr 0 (claimAll fr to_ (newW (to_ - fr)) (grC fr ap k))).take k = grK fr ap k := by
  cases ap with
  | false =>
    have e : claimAll fr to_ (newW (to_ - fr)) (grC fr false k) = newW (to_ - fr) := rfl
    rw [e] at h ⊢
    rw [allF_new h, ← List.map_take, List.take_range, Nat.min_eq_left (by omega)]
    rfl
  | true =>
    have hb : ∀ i, i < to_ - fr → bitAt (claimAll fr to_ (newW (to_ - fr)) (grC fr true k)) i = decide (∀ n ∈ grC fr true k, (n : Int) ≠ ((fr + i : Nat) : Int)) := fun i hi => by rw [bit_has _ hi, grC_free hft hi]
    rw [h.all]
    unfold setB
    have hr : List.range (to_ - fr) = List.range (2 * k) ++ (List.range (to_ - fr - 2 * k)).map (2 * k + ·) := by rw [← List.range_add, show 2 * k + (to_ - fr - 2 * k) = to_ - fr by omega]
    rw [hr, List.filter_append, filt_even _ k (fun i hi => ⟨?_, ?_⟩), List.map_append, List.take_append_of_le_length (by simp), List.take_of_length_le (by simp), List.map_map]
    · unfold grK
      apply List.map_congr_left
      intro a _
      rfl
    · rw [hb _ (by omega)]
      refine decide_eq_true fun n hn => ?_
      unfold grC at hn
      rw [if_pos rfl] at hn
      obtain ⟨j, _, rfl⟩ := List.mem_map.1 hn
      omega
    · rw [hb _ (by omega)]
      refine decide_eq_false fun hc => ?_
      refine hc (fr + 2 * i + 1) ?_ (by omega)
      unfold grC
      rw [if_pos rfl]
      exact List.mem_map.2 ⟨i, List.mem_range.2 hi, rfl⟩
theorem secL_place (hs : List Int) (place next : Int) (ps : List Int) : ((secL hs place next ps).drop 8).take 4 = fB place 4 := by
  have h8 : (hd8 next ps.length).length = 8 := by simp [hd8, fB_len]
  unfold secL hdL hd28 hd12
  simp only [List.append_assoc]
  rw [List.drop_append_of_le_length (by omega), List.drop_of_length_le (by omega), List.nil_append, List.take_append_of_le_length (by rw [fB_len]; omega), List.take_of_length_le (by rw [fB_len]; omega)]
/-- A sector is that of one place and one next alone. -/
theorem sect_only {bs : List Int} {ks : List Nat} {j : Nat} {le place next : Int} (hks : ∀ x ∈ ks, x < 65536) (hj : j < 65536) (h : SoundP (sectK bs ks j) (shaOf bs) le place next) : place = (j : Int) ∧ next = nxK ks j := by
  obtain ⟨_, ⟨p0, p1⟩, hn, he⟩ := h
  have hx : 0 ≤ nxK ks j ∧ nxK ks j < 65536 := by
    unfold nxK
    by_cases hl : j + 1 < ks.length
    · have := hks _ (getD_mem hl); omega
    · rw [List.getD_eq_getElem?_getD, List.getElem?_eq_none (by omega)]; simp
  have hs := secN_hi le
  have h1 := congrArg (fun l => l.take 4) he
  have h2 := congrArg (fun l => (l.drop 8).take 4) he
  unfold sectK at h1 h2
  rw [secL_next, secL_next] at h1
  rw [secL_place, secL_place] at h2
  have hn0 : 0 ≤ next ∧ next < 65536 := by rcases hn with ⟨_, e⟩ | ⟨_, e1, e2⟩ <;> omega
  have e1 := congrArg leN h1
  have e2 := congrArg leN h2
  rw [leN_fB4 (by omega) (by omega), leN_fB4 (by omega) (by omega)] at e1 e2
  exact ⟨e2.symm, e1.symm⟩
end Go.Proofs.YtdafiobonhikiaaDoor
