/- What is written is read, wherever it stands and whatever stands behind. -/
import Derived.Test.YtmfdiicnhfadmaaDoorCodes
namespace Go.Proofs.YtmfdiicnhfadmaaDoor
open Go.RowKit

theorem rdU_back {pre rest : List Int} {v : Int} (h0 : 0 ≤ v) (h1 : v < 2 * 128 ^ 9) : rdU (pre ++ (uBytes v ++ rest)) pre.length = (v, (pre.length : Int) + (uBytes v).length, 0) := by
  have hu := rU_uBytes (rest := rest) h0 h1
  have h := rdU_of (xs := pre ++ (uBytes v ++ rest)) (at_ := pre.length) (by simp) (show rU 0 0 ((pre ++ (uBytes v ++ rest)).drop pre.length) = (v, (uBytes v).length, 0) by rw [List.drop_left]; exact hu)
  simpa using h
theorem fB_succ (v : Int) (n : Nat) : fB v (n + 1) = v % 256 :: fB (v / 256) n := by
  unfold fB
  rw [List.range_succ_eq_map, List.map_cons, List.map_map]
  congr 1
  · simp
  · refine List.map_congr_left fun i _ => ?_
    simp only [Function.comp, Nat.succ_eq_add_one, pow8_succ]
    rw [Int.ediv_ediv_of_nonneg (by decide)]
theorem leN_fB (v : Int) (n : Nat) : leN (fB v n) = v % 2 ^ (8 * n) := by
  induction n generalizing v with
  | zero => simp [fB, leN, Int.emod_one]
  | succ m ih =>
    rw [fB_succ, leN, ih, pow8_succ]
    have hp : (0 : Int) < 2 ^ (8 * m) := Int.pow_pos (by decide)
    generalize (2 : Int) ^ (8 * m) = p at hp
    have h1 := Int.emod_add_mul_ediv (v / 256) p
    have h2 := Int.emod_nonneg (v / 256) (Int.ne_of_gt hp)
    have h3 := Int.emod_lt_of_pos (v / 256) hp
    have h5 : v = (v % 256 + 256 * ((v / 256) % p)) + 256 * p * (v / 256 / p) := by
      have : 256 * p * (v / 256 / p) = 256 * (p * (v / 256 / p)) := Int.mul_assoc _ _ _
      omega
    have h6 : (v % 256 + 256 * ((v / 256) % p)) % (256 * p) = v % 256 + 256 * ((v / 256) % p) := Int.emod_eq_of_lt (by omega) (by omega)
    conv => rhs; rw [h5]
    rw [Int.add_mul_emod_self_left, h6]
theorem rdF_back {pre rest : List Int} {v : Int} {n : Nat} (h0 : 0 ≤ v) (h1 : 1 ≤ n) (h8 : n ≤ 8) (hv : v < 2 ^ (8 * n)) : rdF (pre ++ (fB v n ++ rest)) pre.length n = (v, (pre.length : Int) + n, 0) := by
  unfold rdF
  have hl : (pre ++ (fB v n ++ rest)).length = pre.length + (n + rest.length) := by simp [fB_len]
  rw [hl, if_neg (by omega), if_neg (by omega), if_neg (by omega), Int.toNat_natCast, Int.toNat_natCast, List.drop_left, List.take_append_of_le_length (by rw [fB_len]; exact Nat.le_refl _), List.take_of_length_le (by rw [fB_len]; exact Nat.le_refl _), leN_fB, Int.emod_eq_of_lt h0 hv]
theorem rdB_back {pre rest ys : List Int} {most : Int} (hy : ys.length ≤ 140737488355328) (hm : (ys.length : Int) ≤ most) : rdB (pre ++ (bB ys ++ rest)) pre.length most = (ys, (pre.length : Int) + (bB ys).length, 0) := by
  have hb : bB ys ++ rest = uBytes ys.length ++ (ys ++ rest) := by rw [bB, List.append_assoc]
  have hu := rdU_back (pre := pre) (rest := ys ++ rest) (by omega) (len_top ys hy)
  rw [hb]
  unfold rdB
  rw [hu]
  have hl : (pre ++ (uBytes ys.length ++ (ys ++ rest))).length = pre.length + ((uBytes ys.length).length + (ys.length + rest.length)) := by simp
  rw [hl, if_neg (by omega), if_neg (by omega), if_neg (by simp), if_neg (by simp only; omega), if_neg (by simp only; omega)]
  have e : ((pre.length : Int) + (uBytes ys.length).length).toNat = (pre ++ uBytes ys.length).length := by rw [List.length_append]; omega
  simp only [e, Int.toNat_natCast]
  rw [← List.append_assoc pre, List.drop_left, List.take_left]
  simp only [Prod.mk.injEq, true_and, and_true]
  rw [bB, List.length_append]
  omega
end Go.Proofs.YtmfdiicnhfadmaaDoor
