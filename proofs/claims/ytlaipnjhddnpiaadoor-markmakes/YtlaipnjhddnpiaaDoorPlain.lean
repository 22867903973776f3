/- Plain mathematics of package wire: numbers in groups of seven bits, as lists of integers; nothing of the program. -/
import Derived.WalkKit
namespace Go.Proofs.YtlaipnjhddnpiaaDoor
open Go.RowKit

theorem hide {p : Prop} (h : p) : Hid p := h
theorem unhide {p : Prop} (h : Hid p) : p := h

/-- A number in groups of seven bits, the lowest first, in at most f + 1 bytes. -/
def uB : Nat → Int → List Int
  | 0, x => [x]
  | f + 1, x => if x < 128 then [x] else (x % 128 + 128) :: uB f (x / 128)
def uBytes (x : Int) : List Int := uB 9 x

theorem uB_last {f : Nat} {x : Int} (h : x < 128) : uB f x = [x] := by cases f <;> simp [uB, h]
theorem uB_more {f : Nat} {x : Int} (h : ¬ x < 128) : uB (f + 1) x = (x % 128 + 128) :: uB f (x / 128) := by simp [uB, h]

theorem or128_nat : ∀ n, n < 256 → n ||| 128 = n % 128 + 128 := by decide +kernel
theorem or128 {x : Int} (h0 : 0 ≤ x) (h1 : x ≤ 255) : bits .or .u8 x 128 = x % 128 + 128 := by
  rw [u8_or x 128 h0 (by omega) (by decide) (by decide)]
  have h := or128_nat x.toNat (by omega)
  rw [show (128 : Int).toNat = 128 from rfl, h]
  omega

/-- The bound goes with the groups that are left. -/
theorem top_step {f : Nat} {x : Int} (h : x < 2 * 128 ^ (f + 1)) : x / 128 < 2 * 128 ^ f := by
  rw [Int.pow_succ] at h
  generalize (128 : Int) ^ f = p at h ⊢
  omega
theorem top_pos {f : Nat} {x : Int} (h : x < 2 * 128 ^ f) (hx : 128 ≤ x) : ∃ g, f = g + 1 := by
  cases f with
  | zero => simp at h; omega
  | succ g => exact ⟨g, rfl⟩

/-- The first number of a list of bytes: what it is, how many bytes it took, the error. -/
def rU : Nat → Int → List Int → Int × Nat × Int
  | _, _, [] => (0, 0, 10)
  | i, acc, c :: t =>
    if i = 9 ∧ 1 < c then (0, 0, 12) else if c = 0 ∧ 0 < i then (0, 0, 11)
    else if c < 128 then (acc + c * 128 ^ i, i + 1, 0) else rU (i + 1) (acc + (c - 128) * 128 ^ i) t
def rdU (xs : List Int) (at_ : Int) : Int × Int × Int :=
  if at_ < 0 ∨ (xs.length : Int) < at_ then (0, 0, 1)
  else ((rU 0 0 (xs.drop at_.toNat)).1, if (rU 0 0 (xs.drop at_.toNat)).2.2 = 0 then at_ + (rU 0 0 (xs.drop at_.toNat)).2.1 else 0, (rU 0 0 (xs.drop at_.toNat)).2.2)

theorem not128_nat : ∀ n, n < 256 → n &&& (255 - 128) = n % 128 := by decide +kernel
theorem not128 {x : Int} (h0 : 0 ≤ x) (h1 : x ≤ 255) : bits .andNot .u8 x 128 = x % 128 := by
  rw [u8_andNot x 128 h0 (by omega) (by decide) (by decide)]
  have h := not128_nat x.toNat (by omega)
  rw [show (128 : Int).toNat = 128 from rfl, h]
  omega

theorem pow7 (k : Nat) : (2 : Int) ^ (7 * k) = 128 ^ k := by
  induction k with
  | zero => rfl
  | succ n ih => rw [Nat.mul_add, Int.pow_add, ih, Int.pow_succ]; rfl
theorem or_join_nat (x m i : Nat) (h : x < 2 ^ i) : x ||| (m * 2 ^ i) = x + m * 2 ^ i := by
  have := Nat.two_pow_add_eq_or_of_lt h m
  rw [Nat.mul_comm m, Nat.or_comm, ← this, Nat.add_comm]
theorem or_shl {X m : Int} {i : Nat} (h0 : 0 ≤ X) (h1 : X < 2 ^ i) (hm : 0 ≤ m) (hf : (m + 1) * 2 ^ i ≤ 18446744073709551616) :
    bits .or .u64 X (IntKind.u64.wrap (m * 2 ^ i)) = X + m * 2 ^ i := by
  obtain ⟨x, rfl⟩ := Int.eq_ofNat_of_zero_le h0
  obtain ⟨q, rfl⟩ := Int.eq_ofNat_of_zero_le hm
  have hp : ((2 : Int) ^ i) = ((2 ^ i : Nat) : Int) := by simp
  have hx : x < 2 ^ i := by rw [hp] at h1; exact_mod_cast h1
  rw [hp] at hf ⊢
  have hn : ((q : Int) * ((2 ^ i : Nat) : Int)) = ((q * 2 ^ i : Nat) : Int) := by simp
  have hq : (((q + 1) * 2 ^ i : Nat) : Int) = ((q : Int) + 1) * ((2 ^ i : Nat) : Int) := by rw [Int.natCast_mul, Int.natCast_add]; rfl
  have hf' : (q + 1) * 2 ^ i ≤ 18446744073709551616 := by rw [← hq] at hf; omega
  rw [Nat.add_mul] at hf'
  have hj := or_join_nat x q i hx
  rw [hn, IntWalk.u64_in _ ⟨by omega, by omega⟩, u64_or_nat x (q * 2 ^ i) (by omega) (by omega), hj]
  simp
theorem or_group {X c : Int} {k : Nat} (h0 : 0 ≤ X) (h1 : X < 128 ^ k) (hc : 0 ≤ c) (hk : k ≤ 8 ∨ (k = 9 ∧ c ≤ 1)) :
    bits .or .u64 X (IntKind.u64.wrap (c % 128 * 2 ^ (7 * k))) = X + c % 128 * 128 ^ k := by
  have h : (c % 128 + 1) * 2 ^ (7 * k) ≤ 18446744073709551616 := by
    rcases hk with h | ⟨rfl, h⟩
    · have hp : (2 : Int) ^ (7 * k) ≤ 2 ^ 56 := by exact_mod_cast Nat.pow_le_pow_right (by decide : 0 < 2) (show 7 * k ≤ 56 by omega)
      have := Int.mul_le_mul (show c % 128 + 1 ≤ 128 by omega) hp (by exact_mod_cast Nat.zero_le (2 ^ (7 * k))) (by decide)
      have e : (128 : Int) * 2 ^ 56 = 9223372036854775808 := by decide
      omega
    · have e : (2 : Int) ^ (7 * 9) = 9223372036854775808 := by decide
      rw [e]; omega
  rw [or_shl h0 (by rw [pow7]; exact h1) (by omega) h, pow7]

theorem drop_at {xs : List Int} {i : Nat} (h : i < xs.length) : xs.drop i = xs[i]?.getD 0 :: xs.drop (i + 1) := by
  rw [List.drop_eq_getElem_cons h]; simp [h]
theorem rU_at {xs : List Int} {at_ k : Nat} {X c : Int} (h : at_ + k < xs.length) (hE : rU 0 0 (xs.drop at_) = rU k X (xs.drop (at_ + k))) (hc : c = xs[at_ + k]?.getD 0) :
    rU 0 0 (xs.drop at_) = (if k = 9 ∧ 1 < c then (0, 0, 12) else if c = 0 ∧ 0 < k then (0, 0, 11)
      else if c < 128 then (X + c * 128 ^ k, k + 1, 0) else rU (k + 1) (X + (c - 128) * 128 ^ k) (xs.drop (at_ + (k + 1)))) := by
  rw [hE, drop_at h, ← hc, rU]
  rfl
theorem rdU_of {xs : List Int} {at_ : Nat} {r : Int × Nat × Int} (h : at_ ≤ xs.length) (hr : rU 0 0 (xs.drop at_) = r) :
    rdU xs at_ = (r.1, if r.2.2 = 0 then (at_ : Int) + r.2.1 else 0, r.2.2) := by
  have h' : ¬ ((at_ : Int) < 0 ∨ (xs.length : Int) < at_) := by omega
  rw [rdU, if_neg h', Int.toNat_natCast, hr]
theorem pow_step {X c : Int} {k : Nat} (h0 : 0 ≤ X) (h : X < 128 ^ k) (hc : 128 ≤ c) (hc1 : c ≤ 255) : 0 ≤ X + (c - 128) * 128 ^ k ∧ X + (c - 128) * 128 ^ k < 128 ^ (k + 1) := by
  rw [Int.pow_succ]
  have hp : (0 : Int) < 128 ^ k := by omega
  generalize (128 : Int) ^ k = p at h hp ⊢
  have h1 : 0 ≤ (c - 128) * p := Int.mul_nonneg (by omega) (by omega)
  have h2 : (c - 128) * p ≤ 127 * p := Int.mul_le_mul_of_nonneg_right (by omega) (by omega)
  constructor <;> omega
theorem or_last {X c : Int} (h0 : 0 ≤ X) (h1 : X < 128 ^ 9) (hc : 0 ≤ c) (hc1 : c ≤ 1) : bits .or .u64 X (c % 128 * 9223372036854775808) = X + c * 128 ^ 9 := by
  have h := or_group (k := 9) h0 h1 hc (Or.inr ⟨rfl, hc1⟩)
  have e : (2 : Int) ^ (7 * 9) = 9223372036854775808 := by decide
  rw [e, IntWalk.u64_in _ ⟨by omega, by omega⟩, show c % 128 = c by omega] at h
  rw [show c % 128 = c by omega, h]
theorem or_first {X c : Int} {k : Nat} (hX : 0 ≤ X) (h : X < 128 ^ k) (hk : k = 0) (hc : c = 0) : bits .or .u64 X (IntKind.u64.wrap (IntKind.u64.wrap (bits .andNot .u8 0 128) * 2 ^ (7 * k))) = X + c * 128 ^ k := by
  subst hk hc
  obtain rfl : X = 0 := by simp at h; omega
  decide
theorem ret3 {a a' b b' c c' : Int} (h1 : a = a') (h2 : b = b') (h3 : c = c') :
    Ending.returned (.tuple #[.int .u64 a, .int .i64 b, .int .i64 c]) = .returned (.tuple #[.int .u64 a', .int .i64 b', .int .i64 c']) := by subst h1 h2 h3; rfl

/-- The first k of n bytes of a number, the lowest first; the others 0. -/
def fK (V : Int) (n k : Nat) : List Int := (List.range n).map fun i => if i < k then V / 2 ^ (8 * i) % 256 else 0
def fB (V : Int) (n : Nat) : List Int := (List.range n).map fun i => V / 2 ^ (8 * i) % 256
theorem fK_zero (V : Int) (n : Nat) : fK V n 0 = List.replicate n 0 := by simp [fK, List.map_const']
theorem fK_all (V : Int) (n : Nat) : fK V n n = fB V n := by
  unfold fK fB
  refine List.map_congr_left fun i hi => ?_
  rw [if_pos (List.mem_range.1 hi)]
theorem fK_step (V : Int) (n k : Nat) : fK V n (k + 1) = (fK V n k).set k (V / 2 ^ (8 * k) % 256) := by
  refine List.ext_getElem (by simp [fK]) fun i h1 h2 => ?_
  simp only [fK, List.length_map, List.length_range] at h1
  simp only [fK, List.getElem_set, List.getElem_map, List.getElem_range]
  by_cases e : k = i
  · subst e; simp
  · rw [if_neg e]
    by_cases e2 : i < k
    · rw [if_pos (by omega), if_pos e2]
    · rw [if_neg (by omega), if_neg e2]
theorem fB_len (V : Int) (n : Nat) : (fB V n).length = n := by simp [fB]
theorem fB_bytes (V : Int) (n : Nat) : ∀ x ∈ fB V n, 0 ≤ x ∧ x ≤ 255 := by
  intro x hx
  obtain ⟨i, _, rfl⟩ := List.mem_map.1 hx
  omega

/-- The number that bytes are, the lowest first. -/
def leN : List Int → Int
  | [] => 0
  | c :: t => c + 256 * leN t
def rdF (xs : List Int) (at_ n : Int) : Int × Int × Int :=
  if at_ < 0 ∨ (xs.length : Int) < at_ then (0, 0, 1) else if n < 1 ∨ 8 < n then (0, 0, 1) else if (xs.length : Int) - at_ < n then (0, 0, 10)
  else (leN ((xs.drop at_.toNat).take n.toNat), at_ + n, 0)
theorem pow8_succ (k : Nat) : (2 : Int) ^ (8 * (k + 1)) = 256 * 2 ^ (8 * k) := by
  rw [Nat.mul_add, Int.pow_add, Int.mul_comm]; rfl
theorem or_byte {X c : Int} {k : Nat} (h0 : 0 ≤ X) (h1 : X < 2 ^ (8 * k)) (hc : 0 ≤ c) (hc1 : c ≤ 255) (hk : k ≤ 7) :
    bits .or .u64 X (IntKind.u64.wrap (c * 2 ^ (8 * k))) = X + c * 2 ^ (8 * k) := by
  refine or_shl h0 h1 hc ?_
  have hp : (2 : Int) ^ (8 * k) ≤ 2 ^ 56 := by exact_mod_cast Nat.pow_le_pow_right (by decide : 0 < 2) (show 8 * k ≤ 56 by omega)
  have := Int.mul_le_mul (show c + 1 ≤ 256 by omega) hp (by exact_mod_cast Nat.zero_le (2 ^ (8 * k))) (by decide)
  have e : (256 : Int) * 2 ^ 56 = 18446744073709551616 := by decide
  omega
theorem byte_step {X c : Int} {k : Nat} (h0 : 0 ≤ X) (h : X < 2 ^ (8 * k)) (hc : 0 ≤ c) (hc1 : c ≤ 255) : 0 ≤ X + c * 2 ^ (8 * k) ∧ X + c * 2 ^ (8 * k) < 2 ^ (8 * (k + 1)) := by
  rw [pow8_succ]
  have hp : (0 : Int) < 2 ^ (8 * k) := by omega
  generalize (2 : Int) ^ (8 * k) = p at h hp ⊢
  have h1 : 0 ≤ c * p := Int.mul_nonneg (by omega) (by omega)
  have h2 : c * p ≤ 255 * p := Int.mul_le_mul_of_nonneg_right (by omega) (by omega)
  constructor <;> omega
/-- Behind k bytes: what has been read, and what is left. -/
theorem leN_at {xs : List Int} {at_ k n : Nat} {X c : Int} (hn : at_ + n ≤ xs.length) (hk : k < n) (hE : leN ((xs.drop at_).take n) = X + 2 ^ (8 * k) * leN ((xs.drop (at_ + k)).take (n - k))) (hc : c = xs[at_ + k]?.getD 0) :
    leN ((xs.drop at_).take n) = X + c * 2 ^ (8 * k) + 2 ^ (8 * (k + 1)) * leN ((xs.drop (at_ + (k + 1))).take (n - (k + 1))) := by
  rw [hE, drop_at (show at_ + k < xs.length by omega), ← hc, show n - k = (n - (k + 1)) + 1 by omega, List.take_succ_cons, leN, pow8_succ, Nat.add_assoc]
  generalize leN ((xs.drop (at_ + (k + 1))).take (n - (k + 1))) = L
  rw [Int.mul_add, Int.mul_comm c, Int.add_assoc, ← Int.mul_assoc, Int.mul_comm 256]

theorem uB_len (f : Nat) (x : Int) : 1 ≤ (uB f x).length ∧ (uB f x).length ≤ f + 1 := by
  induction f generalizing x with
  | zero => simp [uB]
  | succ n ih =>
    by_cases h : x < 128
    · rw [uB_last h]; simp
    · rw [uB_more h]; have := ih (x / 128); simp; omega
theorem uB_bytes {f : Nat} {x : Int} (h0 : 0 ≤ x) (h1 : x < 2 * 128 ^ f) : ∀ y ∈ uB f x, 0 ≤ y ∧ y ≤ 255 := by
  induction f generalizing x with
  | zero => intro y hy; simp [uB] at hy; simp at h1; omega
  | succ n ih =>
    by_cases h : x < 128
    · rw [uB_last h]; intro y hy; simp at hy; omega
    · rw [uB_more h]
      intro y hy
      rcases List.mem_cons.1 hy with rfl | hy
      · omega
      · exact ih (by omega) (top_step h1) y hy
/-- A byte string, its length ahead of it. -/
def bB (xs : List Int) : List Int := uBytes xs.length ++ xs
theorem top9 {x : Int} (h : x ≤ 18446744073709551615) : x < 2 * 128 ^ 9 := by
  have e : (2 : Int) * 128 ^ 9 = 18446744073709551616 := by decide +kernel
  omega
end Go.Proofs.YtlaipnjhddnpiaaDoor
