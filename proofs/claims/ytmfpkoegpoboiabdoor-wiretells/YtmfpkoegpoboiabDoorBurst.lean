/- 1.9: bits within 32 that follow one another. -/
import Derived.Test.YtmfpkoegpoboiabDoorTold
namespace Go.Proofs.YtmfpkoegpoboiabDoor
open Go.RowKit

/-- The bits of a pattern, from a place on. -/
def burst (A : Int) (P : Nat) : Nat → List Int
  | 0 => []
  | N + 1 => if P / 2 ^ N % 2 = 1 then burst A P N ++ [A + N] else burst A P N
theorem burst_len (A : Int) (P N : Nat) : (burst A P N).length ≤ N := by
  induction N with
  | zero => simp [burst]
  | succ N ih =>
    unfold burst
    split
    · simp; omega
    · omega
theorem laidX_snoc (n : Nat) (bs : List Int) (b : Int) : laidX n (bs ++ [b]) = laidX n bs ^^^ one n b := by
  induction bs with
  | nil => show one n b ^^^ 0 = 0 ^^^ one n b; rw [Nat.xor_zero, Nat.zero_xor]
  | cons c t ih => show _ ^^^ laidX n (t ++ [b]) = (_ ^^^ laidX n t) ^^^ one n b; rw [ih, Nat.xor_assoc]
theorem burst_laid {xs : List Int} {A P : Nat} (hA : A < 8 * xs.length) : ∀ N : Nat, ∃ Q, Q < 2 ^ N ∧ laidX xs.length (burst A P N) = tN (8 * xs.length - A) Q ∧ (Q = 0 → turnAll xs (burst A P N) = xs)
  | 0 => ⟨0, by decide, by
      show 0 = _
      induction 8 * xs.length - A with
      | zero => rfl
      | succ m ih => show 0 = t1 (tN m 0); rw [← ih]; rfl, fun _ => rfl⟩
  | N + 1 => by
    obtain ⟨Q, h1, h2, h3⟩ := burst_laid hA N
    unfold burst
    by_cases hP : P / 2 ^ N % 2 = 1
    · rw [if_pos hP]
      by_cases hin : inside xs.length ((A : Int) + N)
      · obtain ⟨i0, i1⟩ := hin
        refine ⟨Q ^^^ 2 ^ N, Nat.xor_lt_two_pow (by rw [Nat.pow_succ]; omega) (Nat.pow_lt_pow_right (by decide) (by omega)), ?_, fun h => ?_⟩
        · rw [laidX_snoc, h2, one_in ⟨i0, i1⟩, tN_xor, tN_one (by omega)]
          congr 2
          omega
        · have := xor_none h
          omega
      · refine ⟨Q, by rw [Nat.pow_succ]; omega, by rw [laidX_snoc, h2, one_out hin, Nat.xor_zero], fun h => ?_⟩
        rw [turnAll_snoc, if_neg (show ¬ (0 ≤ (A : Int) + N ∧ (A : Int) + N < 8 * (xs.length : Int)) from hin)]
        exact h3 h
    · rw [if_neg hP]
      exact ⟨Q, by rw [Nat.pow_succ]; omega, h2, h3⟩
/-- If the sum stays, all stays. -/
theorem burst_stay {xs : List Int} {A P : Nat} (hA : A < 8 * xs.length) (h : laidX xs.length (burst A P 32) = 0) : turnAll xs (burst A P 32) = xs := by
  obtain ⟨Q, h1, h2, h3⟩ := burst_laid (P := P) hA 32
  exact h3 (tN_zero h1 _ (by rw [← h2]; exact h))
end Go.Proofs.YtmfpkoegpoboiabDoor
