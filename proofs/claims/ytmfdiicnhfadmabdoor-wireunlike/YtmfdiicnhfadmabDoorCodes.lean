/- Numbers and byte strings as lists: what is written is read; neither writing begins the other. -/
import Derived.Test.YtmfdiicnhfadmabDoorPlain
namespace Go.Proofs.YtmfdiicnhfadmabDoor
open Go.RowKit

theorem rU_uB {f i : Nat} {acc x : Int} {rest : List Int} (h0 : 0 ≤ x) (h1 : x < 2 * 128 ^ f) (hf : f + i = 9) (hnz : 0 < i → x ≠ 0) :
    rU i acc (uB f x ++ rest) = (acc + x * 128 ^ i, i + (uB f x).length, 0) := by
  induction f generalizing i acc x with
  | zero =>
    have hx : x < 2 := by simpa using h1
    rw [uB_last (by omega), List.singleton_append, rU, if_neg (by omega), if_neg (by omega), if_pos (by omega)]
    rfl
  | succ g ih =>
    by_cases h : x < 128
    · rw [uB_last h, List.singleton_append, rU, if_neg (by omega), if_neg (by omega), if_pos h]
      rfl
    · rw [uB_more h, List.cons_append, rU, if_neg (by omega), if_neg (by omega), if_neg (by omega), ih (by omega) (top_step h1) (by omega) (by omega)]
      rw [show x % 128 + 128 - 128 = x % 128 by omega, Int.pow_succ, Int.add_assoc]
      have e : x % 128 * 128 ^ i + x / 128 * (128 ^ i * 128) = x * 128 ^ i := by
        generalize (128 : Int) ^ i = p
        have hx : x = x % 128 + 128 * (x / 128) := by omega
        have : x * p = (x % 128 + 128 * (x / 128)) * p := by rw [← hx]
        rw [this, Int.add_mul, Int.mul_comm p 128, ← Int.mul_assoc, Int.mul_comm (x / 128) 128]
      rw [e, List.length_cons]
      congr 2
      omega
theorem rU_uBytes {x : Int} {rest : List Int} (h0 : 0 ≤ x) (h1 : x < 2 * 128 ^ 9) : rU 0 0 (uBytes x ++ rest) = (x, (uBytes x).length, 0) := by
  rw [uBytes, rU_uB h0 h1 rfl (by omega)]
  simp
theorem uBytes_pos (x : Int) : 0 < (uBytes x).length := (uB_len 9 x).1
theorem uBytes_le (x : Int) : (uBytes x).length ≤ 10 := (uB_len 9 x).2
theorem uBytes_bytes {x : Int} (h0 : 0 ≤ x) (h1 : x < 2 * 128 ^ 9) : ∀ y ∈ uBytes x, 0 ≤ y ∧ y ≤ 255 := uB_bytes h0 h1

/-- Of two numbers that are unlike, neither writing begins the other. -/
theorem uBytes_prefix {x y : Int} (hx0 : 0 ≤ x) (hx1 : x < 2 * 128 ^ 9) (hy0 : 0 ≤ y) (hy1 : y < 2 * 128 ^ 9) {s t : List Int} (h : uBytes x ++ s = uBytes y ++ t) : x = y := by
  have a := rU_uBytes (rest := s) hx0 hx1
  have b := rU_uBytes (rest := t) hy0 hy1
  rw [h, b] at a
  exact (congrArg Prod.fst a).symm

theorem len_top (xs : List Int) (h : xs.length ≤ 140737488355328) : (xs.length : Int) < 2 * 128 ^ 9 := top9 (by omega)
theorem bB_prefix {xs ys : List Int} (hx : xs.length ≤ 140737488355328) (hy : ys.length ≤ 140737488355328) {s t : List Int} (h : bB xs ++ s = bB ys ++ t) : xs = ys := by
  unfold bB at h
  rw [List.append_assoc, List.append_assoc] at h
  have e := uBytes_prefix (by omega) (len_top xs hx) (by omega) (len_top ys hy) h
  have el : xs.length = ys.length := by omega
  rw [el, List.append_right_inj] at h
  exact (List.append_inj h el).1
theorem bB_pos (xs : List Int) : 0 < (bB xs).length := by have := uBytes_pos xs.length; simp only [bB, List.length_append]; omega
theorem bB_len (xs : List Int) : (bB xs).length ≤ xs.length + 10 := by have := uBytes_le xs.length; simp only [bB, List.length_append]; omega
theorem bB_bytes {xs : List Int} (hl : xs.length ≤ 140737488355328) (h : ∀ x ∈ xs, 0 ≤ x ∧ x ≤ 255) : ∀ x ∈ bB xs, 0 ≤ x ∧ x ≤ 255 := by
  intro x hx
  rcases List.mem_append.1 hx with hx | hx
  · exact uBytes_bytes (by omega) (len_top xs hl) x hx
  · exact h x hx
end Go.Proofs.YtmfdiicnhfadmabDoor
