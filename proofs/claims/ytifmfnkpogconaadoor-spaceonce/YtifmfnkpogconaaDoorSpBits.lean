/- The set bits of a word, rising: what 'w &= w - 1' leaves. Of no program. -/
import Derived.Test.YtifmfnkpogconaaDoorPop
import Derived.Lib.TrailingZeros
namespace Go.Proofs.YtifmfnkpogconaaDoor

/-- The set bits among the lowest n, rising. -/
def lst (x : Nat) : Nat → List Nat
  | 0 => []
  | n + 1 => lst x n ++ (if x.testBit n then [n] else [])
theorem lst_zero : ∀ n, lst 0 n = []
  | 0 => rfl
  | n + 1 => by simp [lst, lst_zero n]
theorem lst_none {x : Nat} : ∀ {n : Nat}, (∀ j, j < n → x.testBit j = false) → lst x n = []
  | 0, _ => rfl
  | n + 1, h => by
    simp only [lst]
    rw [lst_none (fun j hj => h j (by omega)), h n (by omega)]
    rfl
theorem lst_cons {x y k : Nat} (hlow : ∀ j, j < k → x.testBit j = false) (hk : x.testBit k = true) (hy : ∀ j, j ≤ k → y.testBit j = false) (hup : ∀ j, k < j → y.testBit j = x.testBit j) : ∀ {n : Nat}, k < n → lst x n = k :: lst y n
  | 0, h => by omega
  | n + 1, h => by
    simp only [lst]
    by_cases e : k = n
    · subst e
      rw [lst_none hlow, lst_none (fun j hj => hy j (by omega)), hk, hy k (Nat.le_refl _)]
      rfl
    · rw [lst_cons hlow hk hy hup (n := n) (by omega), hup n (by omega)]
      rfl
theorem lst_len (x : Nat) : ∀ n, (lst x n).length = pc n x
  | 0 => rfl
  | n + 1 => by
    simp only [lst, List.length_append]
    rw [lst_len x n, show n + 1 = n + 1 from rfl, pc_add n 1 x]
    congr 1
    rw [Nat.testBit_eq_decide_div_mod_eq]
    simp only [pc]
    by_cases h : x / 2 ^ n % 2 = 1
    · simp [h]
    · simp [h]; omega
/-- The lowest set bit. -/
theorem ctz_spec {x : Nat} (h0 : x ≠ 0) (hx : x < 18446744073709551616) : ∃ m, x = 2 ^ Lib.ctz 64 x * (2 * m + 1) ∧ Lib.ctz 64 x < 64 := by
  unfold Lib.ctz
  rw [if_neg h0]
  exact Lib.ctzFrom_spec 64 x (by omega) hx
theorem testBit_mul {k m j : Nat} : (2 ^ k * m).testBit j = (decide (k ≤ j) && m.testBit (j - k)) := by
  rw [Nat.testBit_two_pow_mul]
theorem low_bits {x : Nat} (h0 : x ≠ 0) (hx : x < 18446744073709551616) : lst x 64 = Lib.ctz 64 x :: lst (x &&& (x - 1)) 64 ∧ (x &&& (x - 1)) < x := by
  obtain ⟨m, hm, hk⟩ := ctz_spec h0 hx
  generalize Lib.ctz 64 x = k at *
  have hp := Nat.two_pow_pos k
  have hxb : ∀ j, x.testBit j = (decide (k ≤ j) && (2 * m + 1).testBit (j - k)) := fun j => by rw [hm]; exact testBit_mul
  have hand : x &&& (x - 1) = 2 ^ (k + 1) * m := by
    have e1 : x - 1 = 2 ^ k * (2 * m) + (2 ^ k - 1) := by
      rw [hm, Nat.mul_add, Nat.mul_one]; omega
    apply Nat.eq_of_testBit_eq
    intro j
    rw [Nat.testBit_and, hxb j, e1, testBit_mul, Nat.testBit_two_pow_mul_add _ (by omega)]
    by_cases hj : j < k
    · have : ¬ k ≤ j := by omega
      have h2 : ¬ k + 1 ≤ j := by omega
      simp [this, h2]
    · rw [if_neg hj]
      by_cases e : j = k
      · subst e
        simp
        omega
      · have h1 : k ≤ j := by omega
        have h2 : k + 1 ≤ j := by omega
        obtain ⟨d, rfl⟩ : ∃ d, j = k + 1 + d := ⟨j - k - 1, by omega⟩
        have e3 : k + 1 + d - k = d + 1 := by omega
        have e4 : k + 1 + d - (k + 1) = d := by omega
        rw [e3, e4, Nat.testBit_succ, Nat.testBit_succ]
        have e5 : (2 * m + 1) / 2 = m := by omega
        have e6 : 2 * m / 2 = m := by omega
        rw [e5, e6]
        simp
        omega
  refine ⟨lst_cons (k := k) ?_ ?_ ?_ ?_ hk, ?_⟩
  · intro j hj
    rw [hxb]
    have : ¬ k ≤ j := by omega
    simp [this]
  · rw [hxb]; simp
  · intro j hj
    rw [hand, testBit_mul]
    have : ¬ k + 1 ≤ j := by omega
    simp [this]
  · intro j hj
    rw [hand, testBit_mul, hxb]
    obtain ⟨d, rfl⟩ : ∃ d, j = k + 1 + d := ⟨j - k - 1, by omega⟩
    have e3 : k + 1 + d - k = d + 1 := by omega
    have e4 : k + 1 + d - (k + 1) = d := by omega
    rw [e3, e4, Nat.testBit_succ]
    have e5 : (2 * m + 1) / 2 = m := by omega
    rw [e5]
    have h1 : k ≤ k + 1 + d := by omega
    have h2 : k + 1 ≤ k + 1 + d := by omega
    simp [h1, h2]
  · rw [hand]
    have e : 2 ^ (k + 1) * m = 2 ^ k * (2 * m) := by rw [Nat.pow_succ, Nat.mul_assoc]
    rw [e]
    have : 2 ^ k * (2 * m) < 2 ^ k * (2 * m + 1) := Nat.mul_lt_mul_of_pos_left (by omega) hp
    omega
/-- The free numbers of a word that stands as the i-th one. -/
def wordF (fr i x : Nat) : List Nat := (lst x 64).map fun b => fr + i * 64 + b
/-- All free numbers, from the i-th word on. -/
def allF (fr : Nat) : Nat → List Nat → List Nat
  | _, [] => []
  | i, x :: t => wordF fr i x ++ allF fr (i + 1) t
theorem allF_len (fr : Nat) : ∀ (ws : List Nat) (i : Nat), (allF fr i ws).length = (ws.map (pc 64)).sum
  | [], _ => rfl
  | x :: t, i => by simp [allF, wordF, lst_len, allF_len fr t (i + 1)]
theorem allF_append (fr : Nat) : ∀ (a b : List Nat) (i : Nat), allF fr i (a ++ b) = allF fr i a ++ allF fr (i + a.length) b
  | [], b, i => by simp [allF]
  | x :: t, b, i => by
    simp only [List.cons_append, allF]
    rw [allF_append fr t b (i + 1), List.append_assoc]
    congr 3
    simp; omega
theorem allF_take (fr : Nat) {ws : List Nat} {k : Nat} (h : k < ws.length) : allF fr 0 (ws.take (k + 1)) = allF fr 0 (ws.take k) ++ wordF fr k (ws.getD k 0) := by
  have e : (ws.take k).length = k := by simp; omega
  have hg : ws.getD k 0 = ws[k] := by rw [List.getD_eq_getElem?_getD, List.getElem?_eq_getElem h]; rfl
  rw [List.take_add_one, allF_append, List.getElem?_eq_getElem h, e, Nat.zero_add, hg]
  simp only [Option.toList_some, allF, List.append_nil]
end Go.Proofs.YtifmfnkpogconaaDoor
