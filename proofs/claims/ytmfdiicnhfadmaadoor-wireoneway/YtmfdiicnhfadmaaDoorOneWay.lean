/- Whatever a Read reads, the writer writes just so: in plain lists. -/
import Derived.Test.YtmfdiicnhfadmaaDoorBack
namespace Go.Proofs.YtmfdiicnhfadmaaDoor
open Go.RowKit

theorem top_small {f : Nat} {x : Int} (h : x < 128) (hf : f = 0 → x ≤ 1) : x < 2 * 128 ^ f := by
  cases f with
  | zero => have := hf rfl; simp; omega
  | succ g =>
    have hp : (0 : Int) < 128 ^ g := Int.pow_pos (by decide)
    rw [Int.pow_succ]
    omega
theorem top_up {f : Nat} {x y : Int} (h : y < 2 * 128 ^ f) (hx : x < 128) : x + 128 * y < 2 * 128 ^ (f + 1) := by
  rw [Int.pow_succ]
  generalize (128 : Int) ^ f = p at h ⊢
  omega
theorem rU_one {l : List Int} {i : Nat} {acc : Int} (hl : ∀ x ∈ l, 0 ≤ x ∧ x ≤ 255) (hi : i ≤ 9) (h : (rU i acc l).2.2 = 0) :
    ∃ x, 0 ≤ x ∧ x < 2 * 128 ^ (9 - i) ∧ (0 < i → x ≠ 0) ∧ (rU i acc l).1 = acc + x * 128 ^ i ∧ (rU i acc l).2.1 = i + (uB (9 - i) x).length ∧ ∃ rest, l = uB (9 - i) x ++ rest := by
  induction l generalizing i acc with
  | nil => simp [rU] at h
  | cons c t ih =>
    have hc := hl c (by simp)
    rw [rU] at h ⊢
    by_cases h1 : i = 9 ∧ 1 < c
    · rw [if_pos h1] at h; simp at h
    rw [if_neg h1] at h ⊢
    by_cases h2 : c = 0 ∧ 0 < i
    · rw [if_pos h2] at h; simp at h
    rw [if_neg h2] at h ⊢
    by_cases h3 : c < 128
    · rw [if_pos h3]
      refine ⟨c, hc.1, top_small h3 (by omega), by omega, rfl, ?_, t, ?_⟩
      · rw [uB_last h3]; rfl
      · rw [uB_last h3]; rfl
    · rw [if_neg h3] at h ⊢
      have hi8 : i ≤ 8 := by omega
      obtain ⟨y, hy0, hy1, hyn, e1, e2, rest, e3⟩ := ih (fun x hx => hl x (by simp [hx])) (by omega) h
      have hyn' := hyn (by omega)
      have hfi : 9 - i = (9 - (i + 1)) + 1 := by omega
      have hge : ¬ (c - 128) + 128 * y < 128 := by omega
      have hm : ((c - 128) + 128 * y) % 128 + 128 = c := by omega
      have hd : ((c - 128) + 128 * y) / 128 = y := by omega
      refine ⟨(c - 128) + 128 * y, by omega, ?_, by omega, ?_, ?_, rest, ?_⟩
      · rw [hfi]; exact top_up hy1 (by omega)
      · rw [e1, Int.pow_succ, Int.add_mul, Int.add_assoc]
        congr 2
        rw [Int.mul_comm (128 ^ i) 128, ← Int.mul_assoc, Int.mul_comm y 128]
      · rw [e2, hfi, uB_more hge, List.length_cons, hd]; omega
      · rw [hfi, uB_more hge, hm, hd, List.cons_append, ← e3]
/-- A number that was read stands there as it is written. -/
theorem rdU_one {xs : List Int} {at_ : Nat} (hl : ∀ x ∈ xs, 0 ≤ x ∧ x ≤ 255) (ha : at_ ≤ xs.length) (h : (rdU xs at_).2.2 = 0) :
    ∃ V rest, 0 ≤ V ∧ V < 2 * 128 ^ 9 ∧ rdU xs at_ = (V, ((at_ + (uBytes V).length : Nat) : Int), 0) ∧ xs.drop at_ = uBytes V ++ rest := by
  have e := rdU_of (xs := xs) ha rfl
  have h' : (rU 0 0 (xs.drop at_)).2.2 = 0 := by rw [e] at h; exact h
  obtain ⟨x, hx0, hx1, _, e1, e2, rest, e3⟩ := rU_one (fun x hx => hl x (List.mem_of_mem_drop hx)) (Nat.zero_le _) h'
  refine ⟨x, rest, hx0, hx1, ?_, e3⟩
  rw [e, h', if_pos rfl, e1, e2]
  simp only [Prod.mk.injEq, and_true]
  refine ⟨by simp, ?_⟩
  show (at_ : Int) + ((0 + (uB 9 x).length : Nat) : Int) = ((at_ + (uB 9 x).length : Nat) : Int)
  omega
theorem rdU_err {xs : List Int} {at_ : Nat} (ha : at_ ≤ xs.length) (h : (rdU xs at_).2.2 ≠ 0) : (rdU xs at_).2.1 = 0 := by
  have e := rdU_of (xs := xs) ha rfl
  rw [e] at h ⊢
  simp only [if_neg h]
theorem take_of_append {xs pre rest : List Int} {a : Nat} (h : xs.drop a = pre ++ rest) : (xs.drop a).take pre.length = pre := by rw [h, List.take_left]
/-- A byte string that was read stands there as it is written. -/
theorem rdB_one {xs : List Int} {at_ : Nat} {most : Int} (hl : ∀ x ∈ xs, 0 ≤ x ∧ x ≤ 255) (ha : at_ ≤ xs.length) (h : (rdB xs at_ most).2.2 = 0) :
    ∃ ys rest, rdB xs at_ most = (ys, ((at_ + (bB ys).length : Nat) : Int), 0) ∧ xs.drop at_ = bB ys ++ rest ∧ (∀ x ∈ ys, 0 ≤ x ∧ x ≤ 255) ∧ ys.length ≤ xs.length := by
  unfold rdB at h ⊢
  rw [if_neg (by omega)] at h ⊢
  by_cases h1 : most < 0
  · rw [if_pos h1] at h; simp at h
  rw [if_neg h1] at h ⊢
  by_cases h2 : (rdU xs at_).2.2 ≠ 0
  · rw [if_pos h2] at h; exact absurd h h2
  rw [if_neg h2] at h ⊢
  obtain ⟨V, rest, hV0, hV1, e, ed⟩ := rdU_one hl ha (by simpa using h2)
  rw [e] at h ⊢
  by_cases h3 : most < V
  · rw [if_pos h3] at h; simp at h
  rw [if_neg h3] at h ⊢
  by_cases h4 : (xs.length : Int) - ((at_ + (uBytes V).length : Nat) : Int) < V
  · rw [if_pos h4] at h; simp at h
  rw [if_neg h4]
  obtain ⟨n, rfl⟩ := Int.eq_ofNat_of_zero_le hV0
  simp only [Int.toNat_natCast]
  have hr : xs.drop (at_ + (uBytes (n : Int)).length) = rest := by
    rw [← List.drop_drop, ed, List.drop_left]
  have hrl : n ≤ rest.length := by
    rw [← hr, List.length_drop]; omega
  rw [hr]
  have hlen : (rest.take n).length = n := by simp; omega
  refine ⟨rest.take n, rest.drop n, ?_, ?_, ?_, ?_⟩
  · rw [bB, hlen, List.length_append, hlen]
    simp only [Prod.mk.injEq, true_and, and_true]
    omega
  · rw [ed, bB, hlen, List.append_assoc, List.take_append_drop]
  · intro x hx
    have h5 : x ∈ xs.drop at_ := by rw [ed]; exact List.mem_append_right _ (List.mem_of_mem_take hx)
    exact hl x (List.mem_of_mem_drop h5)
  · rw [hlen]; omega
theorem fB_leN {l : List Int} (hl : ∀ x ∈ l, 0 ≤ x ∧ x ≤ 255) : fB (leN l) l.length = l ∧ 0 ≤ leN l ∧ leN l < 2 ^ (8 * l.length) := by
  induction l with
  | nil => simp [fB, leN]
  | cons c t ih =>
    have hc := hl c (by simp)
    obtain ⟨i1, i2, i3⟩ := ih (fun x hx => hl x (by simp [hx]))
    rw [List.length_cons, fB_succ, leN, pow8_succ]
    have e1 : (c + 256 * leN t) % 256 = c := by omega
    have e2 : (c + 256 * leN t) / 256 = leN t := by omega
    rw [e1, e2, i1]
    refine ⟨rfl, by omega, ?_⟩
    generalize (2 : Int) ^ (8 * t.length) = p at i3 ⊢
    omega
end Go.Proofs.YtmfdiicnhfadmaaDoor
