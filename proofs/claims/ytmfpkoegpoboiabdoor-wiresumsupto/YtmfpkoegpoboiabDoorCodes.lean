/- Numbers and byte strings as lists: what is written is read; neither writing begins the other. -/
import Derived.Test.YtmfpkoegpoboiabDoorPlain
namespace Go.Proofs.YtmfpkoegpoboiabDoor
open Go.RowKit

theorem rU_uB {f i : Nat} {acc x : Int} {rest : List Int} (h0 : 0 ≤ x) (h1 : x < 2 * 128 ^ f) (hf : f + i = 9) (hnz : 0 < i → x ≠ 0) :
    rU i acc (uB f x ++ rest) = (acc + x * 128 ^ i, i + (uB f x).length, 0) := by
  induction f generalizing i acc x with
  | zero =>
    have hx : x < 2 := by simpa using h1
    rw [uB_last (by omega), List.singleton_append, rU, if_neg (by omega), if_neg (by omega), if_pos (by omega)]
    rfl
  | succ g ih =>
    by_cases h : x < 128
    · rw [uB_last h, List.singleton_append, rU, if_neg (by omega), if_neg (by omega), if_pos h]
      rfl
    · rw [uB_more h, List.cons_append, rU, if_neg (by omega), if_neg (by omega), if_neg (by omega), ih (by omega) (top_step h1) (by omega) (by omega)]
      rw [show x % 128 + 128 - 128 = x % 128 by omega, Int.pow_succ, Int.add_assoc]
      have e : x % 128 * 128 ^ i + x / 128 * (128 ^ i * 128) = x * 128 ^ i := by
        generalize (128 : Int) ^ i = p
        have hx : x = x % 128 + 128 * (x / 128) := by omega
        have : x * p = (x % 128 + 128 * (x / 128)) * p := by rw [← hx]
        rw [this, Int.add_mul, Int.mul_comm p 128, ← Int.mul_assoc, Int.mul_comm (x / 128) 128]
      rw [e, List.length_cons]
      congr 2
      omega
theorem rU_uBytes {x : Int} {rest : List Int} (h0 : 0 ≤ x) (h1 : x < 2 * 128 ^ 9) : rU 0 0 (uBytes x ++ rest) = (x, (uBytes x).length, 0) := by
  rw [uBytes, rU_uB h0 h1 rfl (by omega)]
  simp
theorem uBytes_pos (x : Int) : 0 < (uBytes x).length := (uB_len 9 x).1
theorem uBytes_le (x : Int) : (uBytes x).length ≤ 10 := (uB_len 9 x).2
theorem uBytes_bytes {x : Int} (h0 : 0 ≤ x) (h1 : x < 2 * 128 ^ 9) : ∀ y ∈ uBytes x, 0 ≤ y ∧ y ≤ 255 := uB_bytes h0 h1

/-- Of two numbers that are unlike, neither writing begins the other. -/
theorem uBytes_prefix {x y : Int} (hx0 : 0 ≤ x) (hx1 : x < 2 * 128 ^ 9) (hy0 : 0 ≤ y) (hy1 : y < 2 * 128 ^ 9) {s t : List Int} (h : uBytes x ++ s = uBytes y ++ t) : x = y := by
  have a := rU_uBytes (rest := s) hx0 hx1
  have b := rU_uBytes (rest := t) hy0 hy1
  rw [h, b] at a
  exact (congrArg Prod.fst a).symm

theorem len_top (xs : List Int) (h : xs.length ≤ 140737488355328) : (xs.length : Int) < 2 * 128 ^ 9 := top9 (by omega)
theorem bB_prefix {xs ys : List Int} (hx : xs.length ≤ 140737488355328) (hy : ys.length ≤ 140737488355328) {s t : List Int} (h : bB xs ++ s = bB ys ++ t) : xs = ys := by
  unfold bB at h
  rw [List.append_assoc, List.append_assoc] at h
  have e := uBytes_prefix (by omega) (len_top xs hx) (by omega) (len_top ys hy) h
  have el : xs.length = ys.length := by omega
  rw [el, List.append_right_inj] at h
  exact (List.append_inj h el).1
theorem bB_pos (xs : List Int) : 0 < (bB xs).length := by have := uBytes_pos xs.length; simp only [bB, List.length_append]; omega
theorem bB_len (xs : List Int) : (bB xs).length ≤ xs.length + 10 := by have := uBytes_le xs.length; simp only [bB, List.length_append]; omega
theorem bB_bytes {xs : List Int} (hl : xs.length ≤ 140737488355328) (h : ∀ x ∈ xs, 0 ≤ x ∧ x ≤ 255) : ∀ x ∈ bB xs, 0 ≤ x ∧ x ≤ 255 := by
  intro x hx
  rcases List.mem_append.1 hx with hx | hx
  · exact uBytes_bytes (by omega) (len_top xs hl) x hx
  · exact h x hx

/-- What a number's reading tells: it is no less than 0; it took a byte at least, and none that is not there. -/
theorem rU_ok {l : List Int} {i : Nat} {acc : Int} (hl : ∀ x ∈ l, 0 ≤ x ∧ x ≤ 255) (ha : 0 ≤ acc) (h : (rU i acc l).2.2 = 0) : 0 ≤ (rU i acc l).1 ∧ i < (rU i acc l).2.1 ∧ (rU i acc l).2.1 ≤ i + l.length := by
  induction l generalizing i acc with
  | nil => simp [rU] at h
  | cons c t ih =>
    have hc := hl c (by simp)
    have hp : (0 : Int) ≤ 128 ^ i := Int.pow_nonneg (by decide)
    rw [rU] at h ⊢
    by_cases h1 : i = 9 ∧ 1 < c
    · rw [if_pos h1] at h; simp at h
    rw [if_neg h1] at h ⊢
    by_cases h2 : c = 0 ∧ 0 < i
    · rw [if_pos h2] at h; simp at h
    rw [if_neg h2] at h ⊢
    by_cases h3 : c < 128
    · rw [if_pos h3]
      have := Int.mul_nonneg hc.1 hp
      simp only [List.length_cons]
      exact ⟨by omega, by omega, by omega⟩
    · rw [if_neg h3] at h ⊢
      have := Int.mul_nonneg (show 0 ≤ c - 128 by omega) hp
      have := ih (fun x hx => hl x (by simp [hx])) (by omega) h
      simp only [List.length_cons]
      exact ⟨this.1, by omega, by omega⟩
theorem rdU_ok {xs : List Int} {at_ : Int} (hl : ∀ x ∈ xs, 0 ≤ x ∧ x ≤ 255) (h : (rdU xs at_).2.2 = 0) : 0 ≤ (rdU xs at_).1 ∧ 0 ≤ at_ ∧ at_ < (rdU xs at_).2.1 ∧ (rdU xs at_).2.1 ≤ xs.length := by
  by_cases ho : at_ < 0 ∨ (xs.length : Int) < at_
  · rw [rdU, if_pos ho] at h; simp at h
  obtain ⟨i, rfl⟩ := Int.eq_ofNat_of_zero_le (show 0 ≤ at_ by omega)
  have e := rdU_of (show i ≤ xs.length by omega) rfl
  rw [e] at h ⊢
  have h' : (rU 0 0 (xs.drop i)).2.2 = 0 := h
  have := rU_ok (fun x hx => hl x (List.mem_of_mem_drop hx)) (Int.le_refl 0) h'
  rw [List.length_drop] at this
  simp only [h', if_true]
  omega
/-- A byte string's reading. -/
def rdB (xs : List Int) (at_ most : Int) : List Int × Int × Int :=
  if at_ < 0 ∨ (xs.length : Int) < at_ then ([], 0, 1) else if most < 0 then ([], 0, 1) else if (rdU xs at_).2.2 ≠ 0 then ([], 0, (rdU xs at_).2.2)
  else if most < (rdU xs at_).1 then ([], 0, 13) else if (xs.length : Int) - (rdU xs at_).2.1 < (rdU xs at_).1 then ([], 0, 10)
  else ((xs.drop (rdU xs at_).2.1.toNat).take (rdU xs at_).1.toNat, (rdU xs at_).2.1 + (rdU xs at_).1, 0)

/-- A number's writing, cut: bytes end ahead of what was begun. -/
theorem rU_cut {f i k : Nat} {acc x : Int} (h0 : 0 ≤ x) (h1 : x < 2 * 128 ^ f) (hf : f + i = 9) (hk : k < (uB f x).length) : rU i acc ((uB f x).take k) = (0, 0, 10) := by
  induction f generalizing i acc x k with
  | zero =>
    obtain rfl : k = 0 := by simp [uB] at hk; exact hk
    simp [rU]
  | succ g ih =>
    cases k with
    | zero => simp [rU]
    | succ j =>
      by_cases h : x < 128
      · rw [uB_last h] at hk; simp at hk
      · rw [uB_more h, List.length_cons] at hk
        rw [uB_more h, List.take_succ_cons, rU, if_neg (by omega), if_neg (by omega), if_neg (by omega), ih (by omega) (top_step h1) (by omega) (by omega)]
theorem rdU_cut {k : Nat} {x : Int} (h0 : 0 ≤ x) (h1 : x < 2 * 128 ^ 9) (hk : k < (uBytes x).length) : rdU ((uBytes x).take k) 0 = (0, 0, 10) := by
  have := rdU_of (xs := (uBytes x).take k) (at_ := 0) (Nat.zero_le _) (rU_cut h0 h1 rfl hk)
  simpa using this
theorem rdF_cut {xs : List Int} {k n : Nat} (h1 : 1 ≤ n) (h8 : n ≤ 8) (hl : xs.length = n) (hk : k < n) : rdF (xs.take k) 0 n = (0, 0, 10) := by
  have hlen : (xs.take k).length = k := by simp; omega
  unfold rdF
  rw [hlen, if_neg (by omega), if_neg (by omega), if_pos (by omega)]
theorem rdB_cut {xs : List Int} {k : Nat} (hx : xs.length ≤ 140737488355328) (hk : k < (bB xs).length) : rdB ((bB xs).take k) 0 xs.length = ([], 0, 10) := by
  have hkl : (bB xs).length = (uBytes xs.length).length + xs.length := by simp [bB]
  have hlen : ((bB xs).take k).length = k := by simp; omega
  by_cases hc : k < (uBytes xs.length).length
  · have e : (bB xs).take k = (uBytes xs.length).take k := by rw [bB, List.take_append_of_le_length (by omega)]
    have h := rdU_cut (by omega) (len_top xs hx) hc
    unfold rdB
    rw [hlen, e, h, if_neg (by omega), if_neg (by omega), if_pos (by decide)]
  · have e : (bB xs).take k = uBytes xs.length ++ xs.take (k - (uBytes xs.length).length) := by
      rw [bB, List.take_append, List.take_of_length_le (by omega)]
    have hu := rU_uBytes (rest := xs.take (k - (uBytes xs.length).length)) (by omega) (len_top xs hx)
    have h := rdU_of (xs := (bB xs).take k) (at_ := 0) (Nat.zero_le _) (show rU 0 0 (((bB xs).take k).drop 0) = ((xs.length : Int), (uBytes xs.length).length, 0) by rw [List.drop_zero, e]; exact hu)
    have h' : rdU ((bB xs).take k) 0 = ((xs.length : Int), ((uBytes xs.length).length : Int), 0) := by simpa using h
    unfold rdB
    rw [hlen, h', if_neg (by omega), if_neg (by omega), if_neg (by simp), if_neg (by omega), if_pos (by simp only; omega)]
end Go.Proofs.YtmfpkoegpoboiabDoor
