/- Plain mathematics of package wire: numbers in groups of seven bits, as lists of integers; nothing of the program. What it means that a value is a slice of bytes that reads a list; what is handed on; a slice's bytes as a string. Slices of bytes of the call's own: what holds of them in any seat. Slices of slices of bytes. A block of memory that holds just these cells. Bytes and slices appended, wherever the source lies: one law for slices of bytes. The sum, in plain numbers: a register of 32 bits, four bits a step by the table. -/
import Derived.WalkKit
import Derived.Test.YthhjlopgpmaokabDoorProg
import Derived.WalkSpells
import Derived.Deep.WholeRow
import Derived.Laws.OwnMore
import Derived.Laws.CopyOwn
import Derived.Laws.AppendOwnNone
namespace Go.Proofs.YthhjlopgpmaokabDoor
open Go.RowKit

theorem hide {p : Prop} (h : p) : Hid p := h
theorem unhide {p : Prop} (h : Hid p) : p := h

/-- A number in groups of seven bits, the lowest first, in at most f + 1 bytes. -/
def uB : Nat → Int → List Int
  | 0, x => [x]
  | f + 1, x => if x < 128 then [x] else (x % 128 + 128) :: uB f (x / 128)
def uBytes (x : Int) : List Int := uB 9 x

theorem uB_last {f : Nat} {x : Int} (h : x < 128) : uB f x = [x] := by cases f <;> simp [uB, h]
theorem uB_more {f : Nat} {x : Int} (h : ¬ x < 128) : uB (f + 1) x = (x % 128 + 128) :: uB f (x / 128) := by simp [uB, h]

theorem or128_nat : ∀ n, n < 256 → n ||| 128 = n % 128 + 128 := by decide +kernel
theorem or128 {x : Int} (h0 : 0 ≤ x) (h1 : x ≤ 255) : bits .or .u8 x 128 = x % 128 + 128 := by
  rw [u8_or x 128 h0 (by omega) (by decide) (by decide)]
  have h := or128_nat x.toNat (by omega)
  rw [show (128 : Int).toNat = 128 from rfl, h]
  omega

/-- The bound goes with the groups that are left. -/
theorem top_step {f : Nat} {x : Int} (h : x < 2 * 128 ^ (f + 1)) : x / 128 < 2 * 128 ^ f := by
  rw [Int.pow_succ] at h
  generalize (128 : Int) ^ f = p at h ⊢
  omega
theorem top_pos {f : Nat} {x : Int} (h : x < 2 * 128 ^ f) (hx : 128 ≤ x) : ∃ g, f = g + 1 := by
  cases f with
  | zero => simp at h; omega
  | succ g => exact ⟨g, rfl⟩

/-- The first number of a list of bytes: what it is, how many bytes it took, the error. -/
def rU : Nat → Int → List Int → Int × Nat × Int
  | _, _, [] => (0, 0, 10)
  | i, acc, c :: t =>
    if i = 9 ∧ 1 < c then (0, 0, 12) else if c = 0 ∧ 0 < i then (0, 0, 11)
    else if c < 128 then (acc + c * 128 ^ i, i + 1, 0) else rU (i + 1) (acc + (c - 128) * 128 ^ i) t
def rdU (xs : List Int) (at_ : Int) : Int × Int × Int :=
  if at_ < 0 ∨ (xs.length : Int) < at_ then (0, 0, 1)
  else ((rU 0 0 (xs.drop at_.toNat)).1, if (rU 0 0 (xs.drop at_.toNat)).2.2 = 0 then at_ + (rU 0 0 (xs.drop at_.toNat)).2.1 else 0, (rU 0 0 (xs.drop at_.toNat)).2.2)

theorem not128_nat : ∀ n, n < 256 → n &&& (255 - 128) = n % 128 := by decide +kernel
theorem not128 {x : Int} (h0 : 0 ≤ x) (h1 : x ≤ 255) : bits .andNot .u8 x 128 = x % 128 := by
  rw [u8_andNot x 128 h0 (by omega) (by decide) (by decide)]
  have h := not128_nat x.toNat (by omega)
  rw [show (128 : Int).toNat = 128 from rfl, h]
  omega

theorem pow7 (k : Nat) : (2 : Int) ^ (7 * k) = 128 ^ k := by
  induction k with
  | zero => rfl
  | succ n ih => rw [Nat.mul_add, Int.pow_add, ih, Int.pow_succ]; rfl
theorem or_join_nat (x m i : Nat) (h : x < 2 ^ i) : x ||| (m * 2 ^ i) = x + m * 2 ^ i := by
  have := Nat.two_pow_add_eq_or_of_lt h m
  rw [Nat.mul_comm m, Nat.or_comm, ← this, Nat.add_comm]
theorem or_shl {X m : Int} {i : Nat} (h0 : 0 ≤ X) (h1 : X < 2 ^ i) (hm : 0 ≤ m) (hf : (m + 1) * 2 ^ i ≤ 18446744073709551616) :
    bits .or .u64 X (IntKind.u64.wrap (m * 2 ^ i)) = X + m * 2 ^ i := by
  obtain ⟨x, rfl⟩ := Int.eq_ofNat_of_zero_le h0
  obtain ⟨q, rfl⟩ := Int.eq_ofNat_of_zero_le hm
  have hp : ((2 : Int) ^ i) = ((2 ^ i : Nat) : Int) := by simp
  have hx : x < 2 ^ i := by rw [hp] at h1; exact_mod_cast h1
  rw [hp] at hf ⊢
  have hn : ((q : Int) * ((2 ^ i : Nat) : Int)) = ((q * 2 ^ i : Nat) : Int) := by simp
  have hq : (((q + 1) * 2 ^ i : Nat) : Int) = ((q : Int) + 1) * ((2 ^ i : Nat) : Int) := by rw [Int.natCast_mul, Int.natCast_add]; rfl
  have hf' : (q + 1) * 2 ^ i ≤ 18446744073709551616 := by rw [← hq] at hf; omega
  rw [Nat.add_mul] at hf'
  have hj := or_join_nat x q i hx
  rw [hn, IntWalk.u64_in _ ⟨by omega, by omega⟩, u64_or_nat x (q * 2 ^ i) (by omega) (by omega), hj]
  simp
theorem or_group {X c : Int} {k : Nat} (h0 : 0 ≤ X) (h1 : X < 128 ^ k) (hc : 0 ≤ c) (hk : k ≤ 8 ∨ (k = 9 ∧ c ≤ 1)) :
    bits .or .u64 X (IntKind.u64.wrap (c % 128 * 2 ^ (7 * k))) = X + c % 128 * 128 ^ k := by
  have h : (c % 128 + 1) * 2 ^ (7 * k) ≤ 18446744073709551616 := by
    rcases hk with h | ⟨rfl, h⟩
    · have hp : (2 : Int) ^ (7 * k) ≤ 2 ^ 56 := by exact_mod_cast Nat.pow_le_pow_right (by decide : 0 < 2) (show 7 * k ≤ 56 by omega)
      have := Int.mul_le_mul (show c % 128 + 1 ≤ 128 by omega) hp (by exact_mod_cast Nat.zero_le (2 ^ (7 * k))) (by decide)
      have e : (128 : Int) * 2 ^ 56 = 9223372036854775808 := by decide
      omega
    · have e : (2 : Int) ^ (7 * 9) = 9223372036854775808 := by decide
      rw [e]; omega
  rw [or_shl h0 (by rw [pow7]; exact h1) (by omega) h, pow7]

theorem drop_at {xs : List Int} {i : Nat} (h : i < xs.length) : xs.drop i = xs[i]?.getD 0 :: xs.drop (i + 1) := by
  rw [List.drop_eq_getElem_cons h]; simp [h]
theorem rU_at {xs : List Int} {at_ k : Nat} {X c : Int} (h : at_ + k < xs.length) (hE : rU 0 0 (xs.drop at_) = rU k X (xs.drop (at_ + k))) (hc : c = xs[at_ + k]?.getD 0) :
    rU 0 0 (xs.drop at_) = (if k = 9 ∧ 1 < c then (0, 0, 12) else if c = 0 ∧ 0 < k then (0, 0, 11)
      else if c < 128 then (X + c * 128 ^ k, k + 1, 0) else rU (k + 1) (X + (c - 128) * 128 ^ k) (xs.drop (at_ + (k + 1)))) := by
  rw [hE, drop_at h, ← hc, rU]
  rfl
theorem rdU_of {xs : List Int} {at_ : Nat} {r : Int × Nat × Int} (h : at_ ≤ xs.length) (hr : rU 0 0 (xs.drop at_) = r) :
    rdU xs at_ = (r.1, if r.2.2 = 0 then (at_ : Int) + r.2.1 else 0, r.2.2) := by
  have h' : ¬ ((at_ : Int) < 0 ∨ (xs.length : Int) < at_) := by omega
  rw [rdU, if_neg h', Int.toNat_natCast, hr]
theorem pow_step {X c : Int} {k : Nat} (h0 : 0 ≤ X) (h : X < 128 ^ k) (hc : 128 ≤ c) (hc1 : c ≤ 255) : 0 ≤ X + (c - 128) * 128 ^ k ∧ X + (c - 128) * 128 ^ k < 128 ^ (k + 1) := by
  rw [Int.pow_succ]
  have hp : (0 : Int) < 128 ^ k := by omega
  generalize (128 : Int) ^ k = p at h hp ⊢
  have h1 : 0 ≤ (c - 128) * p := Int.mul_nonneg (by omega) (by omega)
  have h2 : (c - 128) * p ≤ 127 * p := Int.mul_le_mul_of_nonneg_right (by omega) (by omega)
  constructor <;> omega
theorem or_last {X c : Int} (h0 : 0 ≤ X) (h1 : X < 128 ^ 9) (hc : 0 ≤ c) (hc1 : c ≤ 1) : bits .or .u64 X (c % 128 * 9223372036854775808) = X + c * 128 ^ 9 := by
  have h := or_group (k := 9) h0 h1 hc (Or.inr ⟨rfl, hc1⟩)
  have e : (2 : Int) ^ (7 * 9) = 9223372036854775808 := by decide
  rw [e, IntWalk.u64_in _ ⟨by omega, by omega⟩, show c % 128 = c by omega] at h
  rw [show c % 128 = c by omega, h]
theorem or_first {X c : Int} {k : Nat} (hX : 0 ≤ X) (h : X < 128 ^ k) (hk : k = 0) (hc : c = 0) : bits .or .u64 X (IntKind.u64.wrap (IntKind.u64.wrap (bits .andNot .u8 0 128) * 2 ^ (7 * k))) = X + c * 128 ^ k := by
  subst hk hc
  obtain rfl : X = 0 := by simp at h; omega
  decide
theorem ret3 {a a' b b' c c' : Int} (h1 : a = a') (h2 : b = b') (h3 : c = c') :
    Ending.returned (.tuple #[.int .u64 a, .int .i64 b, .int .i64 c]) = .returned (.tuple #[.int .u64 a', .int .i64 b', .int .i64 c']) := by subst h1 h2 h3; rfl

/-- The first k of n bytes of a number, the lowest first; the others 0. -/
def fK (V : Int) (n k : Nat) : List Int := (List.range n).map fun i => if i < k then V / 2 ^ (8 * i) % 256 else 0
def fB (V : Int) (n : Nat) : List Int := (List.range n).map fun i => V / 2 ^ (8 * i) % 256
theorem fK_zero (V : Int) (n : Nat) : fK V n 0 = List.replicate n 0 := by simp [fK, List.map_const']
theorem fK_all (V : Int) (n : Nat) : fK V n n = fB V n := by
  unfold fK fB
  refine List.map_congr_left fun i hi => ?_
  rw [if_pos (List.mem_range.1 hi)]
theorem fK_step (V : Int) (n k : Nat) : fK V n (k + 1) = (fK V n k).set k (V / 2 ^ (8 * k) % 256) := by
  refine List.ext_getElem (by simp [fK]) fun i h1 h2 => ?_
  simp only [fK, List.length_map, List.length_range] at h1
  simp only [fK, List.getElem_set, List.getElem_map, List.getElem_range]
  by_cases e : k = i
  · subst e; simp
  · rw [if_neg e]
    by_cases e2 : i < k
    · rw [if_pos (by omega), if_pos e2]
    · rw [if_neg (by omega), if_neg e2]
theorem fB_len (V : Int) (n : Nat) : (fB V n).length = n := by simp [fB]
theorem fB_bytes (V : Int) (n : Nat) : ∀ x ∈ fB V n, 0 ≤ x ∧ x ≤ 255 := by
  intro x hx
  obtain ⟨i, _, rfl⟩ := List.mem_map.1 hx
  omega

/-- The number that bytes are, the lowest first. -/
def leN : List Int → Int
  | [] => 0
  | c :: t => c + 256 * leN t
def rdF (xs : List Int) (at_ n : Int) : Int × Int × Int :=
  if at_ < 0 ∨ (xs.length : Int) < at_ then (0, 0, 1) else if n < 1 ∨ 8 < n then (0, 0, 1) else if (xs.length : Int) - at_ < n then (0, 0, 10)
  else (leN ((xs.drop at_.toNat).take n.toNat), at_ + n, 0)
theorem pow8_succ (k : Nat) : (2 : Int) ^ (8 * (k + 1)) = 256 * 2 ^ (8 * k) := by
  rw [Nat.mul_add, Int.pow_add, Int.mul_comm]; rfl
theorem or_byte {X c : Int} {k : Nat} (h0 : 0 ≤ X) (h1 : X < 2 ^ (8 * k)) (hc : 0 ≤ c) (hc1 : c ≤ 255) (hk : k ≤ 7) :
    bits .or .u64 X (IntKind.u64.wrap (c * 2 ^ (8 * k))) = X + c * 2 ^ (8 * k) := by
  refine or_shl h0 h1 hc ?_
  have hp : (2 : Int) ^ (8 * k) ≤ 2 ^ 56 := by exact_mod_cast Nat.pow_le_pow_right (by decide : 0 < 2) (show 8 * k ≤ 56 by omega)
  have := Int.mul_le_mul (show c + 1 ≤ 256 by omega) hp (by exact_mod_cast Nat.zero_le (2 ^ (8 * k))) (by decide)
  have e : (256 : Int) * 2 ^ 56 = 18446744073709551616 := by decide
  omega
theorem byte_step {X c : Int} {k : Nat} (h0 : 0 ≤ X) (h : X < 2 ^ (8 * k)) (hc : 0 ≤ c) (hc1 : c ≤ 255) : 0 ≤ X + c * 2 ^ (8 * k) ∧ X + c * 2 ^ (8 * k) < 2 ^ (8 * (k + 1)) := by
  rw [pow8_succ]
  have hp : (0 : Int) < 2 ^ (8 * k) := by omega
  generalize (2 : Int) ^ (8 * k) = p at h hp ⊢
  have h1 : 0 ≤ c * p := Int.mul_nonneg (by omega) (by omega)
  have h2 : c * p ≤ 255 * p := Int.mul_le_mul_of_nonneg_right (by omega) (by omega)
  constructor <;> omega
/-- Behind k bytes: what has been read, and what is left. -/
theorem leN_at {xs : List Int} {at_ k n : Nat} {X c : Int} (hn : at_ + n ≤ xs.length) (hk : k < n) (hE : leN ((xs.drop at_).take n) = X + 2 ^ (8 * k) * leN ((xs.drop (at_ + k)).take (n - k))) (hc : c = xs[at_ + k]?.getD 0) :
    leN ((xs.drop at_).take n) = X + c * 2 ^ (8 * k) + 2 ^ (8 * (k + 1)) * leN ((xs.drop (at_ + (k + 1))).take (n - (k + 1))) := by
  rw [hE, drop_at (show at_ + k < xs.length by omega), ← hc, show n - k = (n - (k + 1)) + 1 by omega, List.take_succ_cons, leN, pow8_succ, Nat.add_assoc]
  generalize leN ((xs.drop (at_ + (k + 1))).take (n - (k + 1))) = L
  rw [Int.mul_add, Int.mul_comm c, Int.add_assoc, ← Int.mul_assoc, Int.mul_comm 256]

theorem uB_len (f : Nat) (x : Int) : 1 ≤ (uB f x).length ∧ (uB f x).length ≤ f + 1 := by
  induction f generalizing x with
  | zero => simp [uB]
  | succ n ih =>
    by_cases h : x < 128
    · rw [uB_last h]; simp
    · rw [uB_more h]; have := ih (x / 128); simp; omega
theorem uB_bytes {f : Nat} {x : Int} (h0 : 0 ≤ x) (h1 : x < 2 * 128 ^ f) : ∀ y ∈ uB f x, 0 ≤ y ∧ y ≤ 255 := by
  induction f generalizing x with
  | zero => intro y hy; simp [uB] at hy; simp at h1; omega
  | succ n ih =>
    by_cases h : x < 128
    · rw [uB_last h]; intro y hy; simp at hy; omega
    · rw [uB_more h]
      intro y hy
      rcases List.mem_cons.1 hy with rfl | hy
      · omega
      · exact ih (by omega) (top_step h1) y hy
/-- A byte string, its length ahead of it. -/
def bB (xs : List Int) : List Int := uBytes xs.length ++ xs
theorem top9 {x : Int} (h : x ≤ 18446744073709551615) : x < 2 * 128 ^ 9 := by
  have e : (2 : Int) * 128 ^ 9 = 18446744073709551616 := by decide +kernel
  omega
end Go.Proofs.YthhjlopgpmaokabDoor

namespace Go.Proofs.YthhjlopgpmaokabDoor
open Go.RowKit

/-- The value is a slice of bytes; in this world it reads the list. -/
structure IsB (w : World) (v : Value) (xs : List Int) : Prop where
  bytes : ∀ j : Nat, 0 ≤ xs[j]?.getD 0 ∧ xs[j]?.getD 0 ≤ 255
  val : ∃ a cap, v = .slice a xs.length cap ∧ xs.length ≤ cap ∧ cap ≤ 9223372036854775807 ∧ (a = none → cap = 0) ∧
    (0 < xs.length → ∃ b off, a = some ⟨b, off, none⟩ ∧ ∀ j, j < xs.length → w.cell? ⟨b, off + j, none⟩ = some (.int .u8 (xs.getD j 0)))

theorem IsB.below {w w' : World} {v : Value} {xs : List Int} (h : IsB w v xs) (hb : Below w.heap.size w w') : IsB w' v xs := by
  obtain ⟨h1, a, cap, hv, hl, hm, hz, hc⟩ := h
  refine ⟨h1, a, cap, hv, hl, hm, hz, fun hp => ?_⟩
  obtain ⟨b, off, ha, hcell⟩ := hc hp
  exact ⟨b, off, ha, fun j hj => (hb.cell (p := ⟨b, off + j, none⟩) (World.block_lt_of_cell? w _ (hcell j hj))).trans (hcell j hj)⟩

theorem bytes_mem {xs : List Int} (h : ∀ x ∈ xs, 0 ≤ x ∧ x ≤ 255) : ∀ j : Nat, 0 ≤ xs[j]?.getD 0 ∧ xs[j]?.getD 0 ≤ 255 := by
  intro j
  by_cases hj : j < xs.length
  · simp only [List.getElem?_eq_getElem hj, Option.getD_some]
    exact h _ (List.getElem_mem hj)
  · rw [List.getElem?_eq_none (by omega)]
    simp
theorem IsB.mem {w : World} {v : Value} {xs : List Int} (h : IsB w v xs) : ∀ x ∈ xs, 0 ≤ x ∧ x ≤ 255 := by
  intro x hx
  obtain ⟨j, hj, rfl⟩ := List.getElem_of_mem hx
  have := h.bytes j
  simpa [List.getElem?_eq_getElem hj] using this
theorem IsB.len {w : World} {v : Value} {xs : List Int} (h : IsB w v xs) : xs.length ≤ 9223372036854775807 := by
  obtain ⟨_, a, cap, hv, hl, hm, _, hc⟩ := h
  omega

theorem isB_owns {w : World} {base : Nat} {v : Value} {n : Nat} {xs : List Int} (h : w.ownsRow base 5 1 v n (xs.map (Value.int .u8))) (hb : ∀ x ∈ xs, 0 ≤ x ∧ x ≤ 255) : IsB w v xs := by
  obtain ⟨hn, h⟩ := h
  have hn' : n = xs.length := by simp at hn; exact hn.symm
  subst hn'
  refine ⟨bytes_mem hb, ?_⟩
  rcases h with ⟨rfl, h0⟩ | ⟨g, cap, cur, rfl, _, hg, hle, hm, hs, ht⟩
  · exact ⟨none, 0, by rw [h0], by omega, by omega, fun _ => rfl, fun hp => by omega⟩
  · refine ⟨_, cap, rfl, hle, by simpa [maxLen] using hm, (fun h => by cases h), fun _ => ⟨g, 0, rfl, fun j hj => ?_⟩⟩
    rw [cell_of_row w g (0 + j) cur 5 (0, 0) hg]
    have h2 : (cur.toList.take (xs.length * 1))[j]? = (xs.map (Value.int .u8))[j]? := by rw [ht]
    rw [List.getElem?_take_of_lt (by omega)] at h2
    simp only [Nat.zero_add]
    rw [Array.getElem?_toList] at h2
    rw [h2]
    simp [hj]

/-- A list of bytes as a string's. -/
def mkS (xs : List Int) : ByteArray := xs.foldl (fun r n => r.push (UInt8.ofNat n.toNat)) ByteArray.empty
theorem mkS_list (xs : List Int) (r : ByteArray) : (xs.foldl (fun r n => r.push (UInt8.ofNat n.toNat)) r).data.toList = r.data.toList ++ xs.map (fun n => UInt8.ofNat n.toNat) := by
  induction xs generalizing r with
  | nil => simp
  | cons x t ih => rw [List.foldl_cons, ih]; simp [ByteArray.push]
theorem mkS_inj {xs ys : List Int} (hx : ∀ x ∈ xs, 0 ≤ x ∧ x ≤ 255) (hy : ∀ x ∈ ys, 0 ≤ x ∧ x ≤ 255) (h : mkS xs = mkS ys) : xs = ys := by
  have h2 : xs.map (fun n => UInt8.ofNat n.toNat) = ys.map (fun n => UInt8.ofNat n.toNat) := by
    have a := mkS_list xs ByteArray.empty
    have b := mkS_list ys ByteArray.empty
    unfold mkS at h
    rw [h, b] at a
    simpa using a.symm
  clear h
  induction xs generalizing ys with
  | nil => cases ys with
    | nil => rfl
    | cons y t => simp at h2
  | cons x s ih => cases ys with
    | nil => simp at h2
    | cons y t =>
      simp only [List.map_cons, List.cons.injEq] at h2
      have e : x = y := by
        have hx0 := hx x (by simp)
        have hy0 := hy y (by simp)
        have e1 := congrArg UInt8.toNat h2.1
        simp only [UInt8.toNat_ofNat'] at e1
        omega
      rw [e, ih (fun z hz => hx z (by simp [hz])) (fun z hz => hy z (by simp [hz])) h2.2]

theorem conv_isB {w : World} {v : Value} {xs : List Int} (h : IsB w v xs) : (convert 48 9 v).run Tryd.prog w = .ok (.string (mkS xs)) w := by
  obtain ⟨_, a, cap, rfl, hl, hm, _, hc⟩ := h
  rw [run_convert_bytes_string w 48 9 5 a _ cap Tryd.underlying48 Tryd.underlying5 Tryd.underlying9]
  by_cases hp : 0 < xs.length
  · obtain ⟨b, off, rfl, hcell⟩ := hc hp
    rw [run_bytesToString w ⟨b, off, none⟩ xs.length cap xs]
    · rfl
    · have := run_loadCells_list (P := Tryd.prog) (w := w) ⟨b, off, none⟩ (xs.map (Value.int .u8)) (fun j v hj => by
        simp only [List.getElem?_map, Option.map_eq_some_iff] at hj
        obtain ⟨x, hx, rfl⟩ := hj
        have hjl := (List.getElem?_eq_some_iff.1 hx).1
        rw [Addr.add_lit, hcell j hjl, List.getD_eq_getElem?_getD, hx]
        rfl)
      simpa using this
  · have h0 : xs = [] := List.eq_nil_of_length_eq_zero (by omega)
    subst h0
    cases a with
    | none => simp [Conv.bytesToString, mkS]
    | some ad =>
      rw [run_bytesToString w ad _ cap []]
      · rfl
      · have := run_loadCells_list (P := Tryd.prog) (w := w) ad [] (fun j v hj => by simp at hj)
        simpa using this

/-- The cells of a slice that lies somewhere. -/
theorem IsB.cells {w : World} {ad : Addr} {cap : Nat} {xs : List Int} (h : IsB w (.slice (some ad) xs.length cap) xs) : ∀ j u, (xs.map (Value.int .u8))[j]? = some u → w.cell? (ad.add j) = some u := by
  intro j u hu
  simp only [List.getElem?_map, Option.map_eq_some_iff] at hu
  obtain ⟨x, hx, rfl⟩ := hu
  have hjl := (List.getElem?_eq_some_iff.1 hx).1
  obtain ⟨_, a, cp, hv, _, _, _, hc⟩ := h
  obtain ⟨b, off, ha, hcell⟩ := hc (by omega)
  injection hv with e1 _ _
  rw [ha] at e1
  injection e1 with e1
  rw [e1, Addr.add_lit, hcell j hjl, List.getD_eq_getElem?_getD, hx]
  rfl
end Go.Proofs.YthhjlopgpmaokabDoor

namespace Go.Proofs.YthhjlopgpmaokabDoor
open Go.RowKit

theorem info8 : (Tryd.prog.info? 5).map (fun i => (i.zero, i.size, i.bytes)) = some (some (.int .u8 0), 1, 1) := by kernel_rfl
theorem one_u8 (x : Int) : ∀ u ∈ [Value.int .u8 x], u.oneCell' = true := by intro u hu; simp at hu; subst hu; rfl
theorem u8_one (xs : List Int) : ∀ u ∈ xs.map (Value.int .u8), u.oneCell' = true := by
  intro u hu
  obtain ⟨x, _, rfl⟩ := List.mem_map.1 hu
  rfl
/-- The first bytes of a slice. -/
theorem IsB.first {w : World} {b off n cap k : Nat} {ys : List Int} (h : IsB w (.slice (some ⟨b, off, none⟩) n cap) ys) (hk : k ≤ n) (hn : 0 < n) : IsB w (.slice (some ⟨b, off, none⟩) k cap) (ys.take k) := by
  obtain ⟨hb, a, cp, hv, hl, hm, hz, hc⟩ := h
  injection hv with e1 e2 e3
  subst e1 e2 e3
  obtain ⟨b', off', ha, hcell⟩ := hc hn
  injection ha with ha
  injection ha with hb1 ho1
  subst hb1 ho1
  have hlen : (ys.take k).length = k := by simp; omega
  refine ⟨fun j => ?_, some ⟨b, off, none⟩, cap, by rw [hlen], by omega, hm, (fun h => by cases h), fun _ => ⟨b, off, rfl, fun j hj => ?_⟩⟩
  · by_cases hj : j < k
    · rw [List.getElem?_take_of_lt hj]; exact hb j
    · rw [List.getElem?_eq_none (by omega)]; simp
  · rw [hcell j (by omega), List.getD_eq_getElem?_getD, List.getD_eq_getElem?_getD, List.getElem?_take_of_lt (by omega)]
/-- The same answers, with the slice's shape in sight. -/
theorem IsB.shape {w : World} {v : Value} {xs : List Int} (h : IsB w v xs) : ∃ a n c, v = .slice a n c := by
  obtain ⟨_, a, cap, rfl, _⟩ := h
  exact ⟨a, _, cap, rfl⟩
theorem IsB.lenEq {w : World} {a : Option Addr} {n c : Nat} {xs : List Int} (h : IsB w (.slice a n c) xs) : n = xs.length := by
  obtain ⟨_, a', cap, hv, _⟩ := h
  injection hv
/-- A slice of bytes of the call's own. -/
def Own8 (w : World) (B : Nat) (v : Value) (xs : List Int) : Prop := w.ownsRow B 5 1 v xs.length (xs.map (Value.int .u8)) ∧ ∀ x ∈ xs, 0 ≤ x ∧ x ≤ 255
theorem Own8.isB {w : World} {B : Nat} {v : Value} {xs : List Int} (h : Own8 w B v xs) : IsB w v xs := isB_owns h.1 h.2
theorem owns_below {w w' : World} {base : Nat} {t : TypeId} {size : Nat} {v : Value} {n : Nat} {cs : List Value} (h : w.ownsRow base t size v n cs) (hb : Below w.heap.size w w') : w'.ownsRow base t size v n cs :=
  h.kept (row := none) (show w.grownBy w' none from ⟨hb.os, hb.tape, hb.output, hb.size, fun k hk _ => hb.block k hk⟩) (by cases v.ownBlock <;> simp)
theorem owns_mono {w : World} {base base' : Nat} {t : TypeId} {size : Nat} {v : Value} {n : Nat} {cs : List Value} (h : w.ownsRow base t size v n cs) (hb : base' ≤ base) : w.ownsRow base' t size v n cs := by
  obtain ⟨h1, h2⟩ := h
  refine ⟨h1, ?_⟩
  rcases h2 with h2 | ⟨g, cap, cur, hv, hg, rest⟩
  · exact Or.inl h2
  · exact Or.inr ⟨g, cap, cur, hv, by omega, rest⟩
/-- Rows of unlike element types are unlike rows. -/
theorem owns_apart {w : World} {b1 b2 : Nat} {t1 t2 : TypeId} {s1 s2 : Nat} {v1 v2 : Value} {n1 n2 : Nat} {c1 c2 : List Value} (h1 : w.ownsRow b1 t1 s1 v1 n1 c1) (h2 : w.ownsRow b2 t2 s2 v2 n2 c2) (ht : t1 ≠ t2) :
    v1.ownBlock = none ∨ v1.ownBlock ≠ v2.ownBlock := by
  rcases h1.2 with ⟨rfl, _⟩ | ⟨g, cap, cur, rfl, _, hg, _⟩
  · exact Or.inl rfl
  · rcases h2.2 with ⟨rfl, _⟩ | ⟨g', cap', cur', rfl, _, hg', _⟩
    · exact Or.inr (by simp [Value.ownBlock])
    · refine Or.inr fun e => ht ?_
      simp only [Value.ownBlock, Option.some.injEq] at e
      subst e
      rw [hg] at hg'
      simp only [Option.some.injEq, Obj.cells.injEq] at hg'
      exact hg'.2.1
theorem Own8.below {w w' : World} {B : Nat} {v : Value} {xs : List Int} (h : Own8 w B v xs) (hb : Below w.heap.size w w') : Own8 w' B v xs := ⟨owns_below h.1 hb, h.2⟩
theorem Own8.mono {w : World} {B B' : Nat} {v : Value} {xs : List Int} (h : Own8 w B v xs) (hb : B' ≤ B) : Own8 w B' v xs := ⟨owns_mono h.1 hb, h.2⟩
/-- A new slice that is not empty lies at the head of its block. -/
theorem Own8.head {w : World} {B : Nat} {v : Value} {xs : List Int} (h : Own8 w B v xs) (hp : 0 < xs.length) : ∃ g c, v = .slice (some ⟨g, 0, none⟩) xs.length c ∧ B ≤ g ∧ ∀ j u, (xs.map (Value.int .u8))[j]? = some u → w.cell? ((⟨g, 0, none⟩ : Addr).add j) = some u := by
  rcases h.1.2 with ⟨rfl, h0⟩ | ⟨g, cap, cur, rfl, hb, _⟩
  · omega
  · exact ⟨g, cap, rfl, hb, fun j u hu => h.1.cells rfl j u hu⟩
theorem owns_shape {w : World} {B : Nat} {t : TypeId} {s : Nat} {v : Value} {n : Nat} {cs : List Value} (h : w.ownsRow B t s v n cs) (hn : 0 < n) : ∃ g cap, v = .slice (some ⟨g, 0, none⟩) n cap ∧ n ≤ cap ∧ cap ≤ 9223372036854775807 ∧ B ≤ g ∧ ∀ j, j < n * s → w.cell? ⟨g, j, none⟩ = cs[j]? := by
  have h' := h
  rcases h.2 with ⟨rfl, h0⟩ | ⟨g, cap, cur, rfl, hb, hg, hc, hm, _⟩
  · omega
  · exact ⟨g, cap, rfl, hc, by simpa [maxLen] using hm, hb, fun j hj => h'.cellAt j hj⟩
/-- Bytes in the midst of a slice. -/
theorem IsB.mid {w : World} {b off n cap l h : Nat} {ys : List Int} (hi : IsB w (.slice (some ⟨b, off, none⟩) n cap) ys) (hlh : l ≤ h) (hn : h ≤ n) (h0 : 0 < n) : IsB w (.slice (some ⟨b, off + l, none⟩) (h - l) (cap - l)) ((ys.drop l).take (h - l)) := by
  obtain ⟨hb, a, cp, hv, hl, hm, hz, hc⟩ := hi
  injection hv with e1 e2 e3
  subst e1 e2 e3
  obtain ⟨b', off', ha, hcell⟩ := hc h0
  injection ha with ha
  injection ha with hb1 ho1
  subst hb1 ho1
  have hlen : ((ys.drop l).take (h - l)).length = h - l := by simp; omega
  have hg : ∀ j, j < h - l → ((ys.drop l).take (h - l))[j]? = ys[l + j]? := fun j hj => by rw [List.getElem?_take_of_lt hj, List.getElem?_drop]
  refine ⟨fun j => ?_, some ⟨b, off + l, none⟩, cap - l, by rw [hlen], by omega, by omega, (fun h => by cases h), fun _ => ⟨b, off + l, rfl, fun j hj => ?_⟩⟩
  · by_cases hj : j < h - l
    · rw [hg j hj]; exact hb (l + j)
    · rw [List.getElem?_eq_none (by omega)]; simp
  · rw [Nat.add_assoc, hcell (l + j) (by omega), List.getD_eq_getElem?_getD, List.getD_eq_getElem?_getD, hg j (by omega)]
theorem below_drew {w w' : World} (h : Below w.drew.heap.size w.drew w') : Below w.heap.size w w' := ⟨h.os, h.tape, h.output, h.size, h.block⟩
theorem isB_nil (w : World) : IsB w (.slice none 0 0) [] := ⟨by simp, none, 0, rfl, by simp, by omega, fun _ => rfl, fun h => by simp at h⟩
theorem IsB.cut {w : World} {a : Option Addr} {n cap k : Nat} {ys : List Int} (h : IsB w (.slice a n cap) ys) (hk : k ≤ n) : IsB w (.slice a k cap) (ys.take k) := by
  have hl := h.lenEq
  obtain ⟨hb, a', cp, hv, hlc, hm, hz, hc⟩ := h
  injection hv with e1 e2 e3
  subst e1 e3
  have hlen : (ys.take k).length = k := by simp; omega
  refine ⟨fun j => ?_, a, cap, by rw [hlen], by omega, hm, hz, fun hp => ?_⟩
  · by_cases hj : j < k
    · rw [List.getElem?_take_of_lt hj]; exact hb j
    · rw [List.getElem?_eq_none (by omega)]; simp
  · obtain ⟨b, off, ha, hcell⟩ := hc (by omega)
    refine ⟨b, off, ha, fun j hj => ?_⟩
    rw [hcell j (by omega), List.getD_eq_getElem?_getD, List.getD_eq_getElem?_getD, List.getElem?_take_of_lt (by omega)]
theorem IsB.room {w : World} {a : Option Addr} {n cap : Nat} {ys : List Int} (h : IsB w (.slice a n cap) ys) : n ≤ cap := by
  have hl := h.lenEq
  obtain ⟨hb, a', cp, hv, hlc, hm, hz, hc⟩ := h
  injection hv with e1 e2 e3
  omega
theorem cells_lit (w : World) (cs : List Value) (t : TypeId) : ∀ j u, cs[j]? = some u → (w.alloc (.cells cs.toArray t)).cell? ((⟨w.heap.size, 0, none⟩ : Addr).add j) = some u := by
  intro j u hu
  rw [Addr.add_lit, cell_of_row _ w.heap.size (0 + j) cs.toArray t (0, 0) (heap_alloc_new w _)]
  simpa using hu
end Go.Proofs.YthhjlopgpmaokabDoor

namespace Go.Proofs.YthhjlopgpmaokabDoor
open Go.RowKit

/-- The value is a slice of slices of bytes; in this world it reads the lists. -/
structure IsBB (w : World) (v : Value) (xss : List (List Int)) : Prop where
  val : ∃ a cap, v = .slice a xss.length cap ∧ xss.length ≤ cap ∧ cap ≤ 9223372036854775807 ∧
    (0 < xss.length → ∃ b off, a = some ⟨b, off, none⟩ ∧ ∀ j, j < xss.length → ∃ u, w.cell? ⟨b, off + j, none⟩ = some u ∧ IsB w u (xss.getD j []))
theorem take_all {xs : List (List Int)} {k : Nat} (h : k < xs.length) : xs.take (k + 1) = xs.take k ++ [xs.getD k []] := by
  rw [List.take_succ_eq_append_getElem h, List.getD_eq_getElem?_getD, List.getElem?_eq_getElem h]
  rfl
theorem flatten_take {xss : List (List Int)} {k : Nat} (h : k < xss.length) : (xss.take (k + 1)).flatten = (xss.take k).flatten ++ xss.getD k [] := by
  rw [take_all h]; simp
theorem flatten_le {xss : List (List Int)} (k : Nat) : ((xss.take k).flatten).length ≤ xss.flatten.length := by
  have h := congrArg List.flatten (List.take_append_drop k xss)
  rw [List.flatten_append] at h
  have := congrArg List.length h
  rw [List.length_append] at this
  omega
theorem IsBB.below {w w' : World} {v : Value} {xss : List (List Int)} (h : IsBB w v xss) (hb : Below w.heap.size w w') : IsBB w' v xss := by
  obtain ⟨a, cap, rfl, hl, hm, hc⟩ := h
  refine ⟨a, cap, rfl, hl, hm, fun hp => ?_⟩
  obtain ⟨b, off, ha, hcell⟩ := hc hp
  refine ⟨b, off, ha, fun j hj => ?_⟩
  obtain ⟨u, hu, hi⟩ := hcell j hj
  exact ⟨u, (hb.cell (p := ⟨b, off + j, none⟩) (World.block_lt_of_cell? w _ hu)).trans hu, hi.below hb⟩
theorem isBB_nil (w : World) (a : Option Addr) (cap : Nat) (hm : cap ≤ 9223372036854775807) : IsBB w (.slice a 0 cap) [] := ⟨a, cap, rfl, by simp, hm, fun h => by simp at h⟩
end Go.Proofs.YthhjlopgpmaokabDoor

namespace Go.Proofs.YthhjlopgpmaokabDoor
open Go.RowKit

theorem below_then {w a b : World} (h1 : Below w.heap.size w a) (h2 : Below a.heap.size a b) : Below w.heap.size w b := h1.trans (h2.mono h1.size)
def Arr (w : World) (g : Nat) (t : TypeId) (cs : List Value) : Prop := w.heap[g]? = some (.cells cs.toArray t)
theorem Arr.new (w : World) (cs : List Value) (t : TypeId) : Arr (w.alloc (.cells cs.toArray t)) w.heap.size t cs := heap_alloc_last w _
theorem Arr.lt {w : World} {g : Nat} {t : TypeId} {cs : List Value} (h : Arr w g t cs) : g < w.heap.size := (Array.getElem?_eq_some_iff.1 h).1
theorem Arr.cell {w : World} {g : Nat} {t : TypeId} {cs : List Value} (h : Arr w g t cs) (j : Nat) : w.cell? ⟨g, j, none⟩ = cs[j]? := by
  rw [cell_of_row w g j cs.toArray t (0, 0) h]
  simp
theorem Arr.frozen {w : World} {g : Nat} {t : TypeId} {cs : List Value} (h : Arr w g t cs) (j : Nat) : w.frozen? ⟨g, j, none⟩ = false := by
  unfold World.frozen?
  rw [h]
  simp
theorem Arr.keep {w w' : World} {g : Nat} {t : TypeId} {cs : List Value} (h : Arr w g t cs) (e : w'.heap[g]? = w.heap[g]?) : Arr w' g t cs := e.trans h
theorem Arr.below {w w' : World} {g : Nat} {t : TypeId} {cs : List Value} (h : Arr w g t cs) (hb : Below w.heap.size w w') : Arr w' g t cs := h.keep (hb.block g h.lt)
theorem Arr.alloc {w : World} {g : Nat} {t : TypeId} {cs : List Value} (h : Arr w g t cs) (o : Obj) : Arr (w.alloc o) g t cs := h.below ((Below.refl _ _).alloc (Nat.le_refl _) _)
theorem Arr.drew {w : World} {g : Nat} {t : TypeId} {cs : List Value} (h : Arr w g t cs) : Arr w.drew g t cs := h
theorem Arr.set {w : World} {g : Nat} {t : TypeId} {cs : List Value} (h : Arr w g t cs) (j : Nat) (u : Value) : Arr (w.setCell ⟨g, j, none⟩ u) g t (cs.set j u) := by
  have := heap_setCell_same w g j cs.toArray t u h
  unfold Arr
  rw [this]
  simp
theorem Arr.other {w : World} {g : Nat} {t : TypeId} {cs : List Value} (h : Arr w g t cs) (p : Addr) (u : Value) (hne : g ≠ p.block) : Arr (w.setCell p u) g t cs := h.keep (Below.heap_setCell w p u g hne)
theorem Arr.load {w : World} {g : Nat} {t e : TypeId} {n : Nat} {cs : List Value} (h : Arr w g t cs) (hu : Tryd.prog.underlying t = some (.array n e)) (hi : (Tryd.prog.info? t).map (·.size) = some cs.length) :
    (loadVar t ⟨g, 0, none⟩).run Tryd.prog w = .ok (.agg cs.toArray) w :=
  run_loadVar_row _ _ t t cs.toArray (0, 0) _ h hu rfl (by simpa using hi)
/-- The whole array read and written, as the walk meets it: opened down to the cells. -/
theorem Arr.loadFrom {w : World} {g : Nat} {t : TypeId} {cs : List Value} (h : Arr w g t cs) (n : Nat) (hn : cs.length = n) : (loadCellsFrom ⟨g, 0, none⟩ 0 n #[]).run Tryd.prog w = .ok cs.toArray w := by
  subst hn
  have := run_loadCells_list (P := Tryd.prog) w ⟨g, 0, none⟩ cs (fun j v hv => by rw [Addr.add_lit, h.cell]; simpa using hv)
  simpa [loadCells] using this
theorem Arr.loadAt {w : World} {g : Nat} {t e : TypeId} {n : Nat} {cs : List Value} (h : Arr w g t cs) (hu : Tryd.prog.underlying t = some (.array n e)) (hi : (Tryd.prog.info? t).map (·.size) = some cs.length) :
    (Instr.loadAt t (.pointer (some ⟨g, 0, none⟩))).run Tryd.prog w = .ok (.agg cs.toArray) w := by
  simp only [Instr.loadAt, Instr.sureAddr, Sem.run_bind, Sem.run_pure, Result.andThen]
  exact h.load hu hi
theorem Arr.storeVar {w : World} {g : Nat} {t : TypeId} {cs cs' : List Value} (h : Arr w g t cs) (hi : (Tryd.prog.info? t).map (·.size) = some cs'.length) (hl : cs.length = cs'.length) (h1 : ∀ u ∈ cs', u.oneCell' = true) :
    (Go.storeVar t ⟨g, 0, none⟩ (.agg cs'.toArray)).run Tryd.prog w = .ok () (w.setRow g cs'.toArray) :=
  run_storeVar_row _ _ t t cs.toArray cs'.toArray h (by simpa using hi) (by simpa using hl) (by simpa using h1)
theorem Arr.storeAt {w : World} {g : Nat} {t : TypeId} {cs cs' : List Value} (h : Arr w g t cs) (hi : (Tryd.prog.info? t).map (·.size) = some cs'.length) (hl : cs.length = cs'.length) (h1 : ∀ u ∈ cs', u.oneCell' = true) :
    (Instr.storeAt t (.pointer (some ⟨g, 0, none⟩)) (.agg cs'.toArray)).run Tryd.prog w = .ok () (w.setRow g cs'.toArray) := by
  simp only [Instr.storeAt, Instr.sureAddr, Sem.run_bind, Sem.run_pure, Result.andThen]
  exact h.storeVar hi hl h1
section
variable {ops : Array Oper} {rest : List Oper} {o : Oper} {a : Act} {Q : Exit → Act → World → Prop} {w : World}
/-- A whole array is read. -/
theorem wpList_loadArr (hgd : o.guard = none) (x : Operand) (t : TypeId) (ho : o.op = .load t x) {g n : Nat} {e : TypeId} {cs : List Value} (hx : a.eval x = .pointer (some ⟨g, 0, none⟩)) (h : Arr w g t cs) (hu : Tryd.prog.underlying t = some (.array n e)) (hi : (Tryd.prog.info? t).map (·.size) = some cs.length)
    (hk : wpList Tryd.prog ops Q rest (a.put o.dst (.agg cs.toArray)) w) : wpList Tryd.prog ops Q (o :: rest) a w := by
  refine wpList_plain hgd fun K hK => ?_
  have h1 := h.loadAt hu hi
  unfold Oper.wp execOp
  simp only [ho, hx, Sem.run_bind, h1, Result.andThen_ok, Sem.run_pure]
  exact hK _ _ hk
/-- A whole array is written. -/
theorem wpList_storeArr (hgd : o.guard = none) (x y : Operand) (t : TypeId) (ho : o.op = .store t x y) {g : Nat} {cs cs' : List Value} (hx : a.eval x = .pointer (some ⟨g, 0, none⟩)) (hy : a.eval y = .agg cs'.toArray) (h : Arr w g t cs) (hi : (Tryd.prog.info? t).map (·.size) = some cs'.length)
    (hl : cs.length = cs'.length) (h1 : ∀ u ∈ cs', u.oneCell' = true) (hk : wpList Tryd.prog ops Q rest (a.put o.dst undef) (w.setRow g cs'.toArray)) : wpList Tryd.prog ops Q (o :: rest) a w := by
  refine wpList_plain hgd fun K hK => ?_
  have h2 := h.storeAt hi hl h1
  unfold Oper.wp execOp
  simp only [ho, hx, hy, Sem.run_bind, h2, Result.andThen_ok, Sem.run_pure]
  exact hK _ _ hk
end
/-- What a world is behind a block was written. -/
structure Wrote (w w' : World) (g : Nat) : Prop where
  other : ∀ k, k ≠ g → w'.heap[k]? = w.heap[k]?
  size : w'.heap.size = w.heap.size
  below : ∀ (B : Nat) (a : World), Below B a w → B ≤ g → Below B a w'
theorem Arr.wrote {w w' : World} {g g' : Nat} {t : TypeId} {cs : List Value} (h : Arr w g t cs) (hw : Wrote w w' g') (hne : g ≠ g') : Arr w' g t cs := h.keep (hw.other g hne)
theorem wpList_storeArr2 {ops : Array Oper} {rest : List Oper} {o : Oper} {a : Act} {Q : Exit → Act → World → Prop} {w : World} (hgd : o.guard = none) (x y : Operand) (t : TypeId) (ho : o.op = .store t x y) {g : Nat} {cs cs' : List Value} (hx : a.eval x = .pointer (some ⟨g, 0, none⟩)) (hy : a.eval y = .agg cs'.toArray) (h : Arr w g t cs)
    (hi : (Tryd.prog.info? t).map (·.size) = some cs'.length) (hl : cs.length = cs'.length) (h1 : ∀ u ∈ cs', u.oneCell' = true) (hk : ∀ w', Arr w' g t cs' → Wrote w w' g → wpList Tryd.prog ops Q rest (a.put o.dst undef) w') : wpList Tryd.prog ops Q (o :: rest) a w :=
  wpList_storeArr hgd x y t ho hx hy h hi hl h1 (hk _ (setRow_heap w g _ _ t _ h) ⟨fun k hk => Go.setRow_other w g k _ hk, by simp, fun _ _ hb hB => below_setRow hb hB _⟩)

/-- A result that lies in a block. -/
theorem results_arr {fn : Func} {p : Tmp} {t e : TypeId} {n g : Nat} {tmps : Array Value} {w : World} {cs : List Value} (h : fn.results = #[.cell p t]) (ha : tmps.getD p undef = .pointer (some ⟨g, 0, none⟩)) (hA : Arr w g t cs) (hu : Tryd.prog.underlying t = some (.array n e)) (hi : (Tryd.prog.info? t).map (·.size) = some cs.length) :
    (results fn tmps).run Tryd.prog w = .ok (.agg cs.toArray) w := by
  have h1 := hA.load hu hi
  have ha' : tmps[p]?.getD undef = .pointer (some ⟨g, 0, none⟩) := by simpa using ha
  simp [results, h, asAddr, ha', h1]
theorem Arr.setRow {w : World} {g : Nat} {t : TypeId} {cs : List Value} (h : Arr w g t cs) (cs' : List Value) : Arr (w.setRow g cs'.toArray) g t cs' := setRow_heap w g _ _ t _ h
theorem Arr.setRow_other {w : World} {g g' : Nat} {t : TypeId} {cs : List Value} (h : Arr w g t cs) (c : Array Value) (hne : g ≠ g') : Arr (w.setRow g' c) g t cs := h.keep (Go.setRow_other w g' g c hne)
end Go.Proofs.YthhjlopgpmaokabDoor

namespace Go.Proofs.YthhjlopgpmaokabDoor
open Go.RowKit

section
variable {ops : Array Oper} {rest : List Oper} {o : Oper} {a : Act} {Q : Exit → Act → World → Prop} {w : World} {K : Act → World → Prop}
/-- The operation comes. -/
theorem wpList_on (hw : Region.wanted o (yielded ops a.tmps) = true) (h : ∀ K : Act → World → Prop, (∀ a w, wpList Tryd.prog ops Q rest a w → K a w) → o.wp Tryd.prog a w K Q) : wpList Tryd.prog ops Q (o :: rest) a w :=
  wpList_step fun K hK => by rw [if_pos hw]; exact h K hK
theorem Own8.shape {B : Nat} {v : Value} {xs : List Int} (h : Own8 w B v xs) : ∃ a n c, v = .slice a n c := h.isB.shape
theorem Own8.nil (w : World) (B : Nat) : Own8 w B (.slice none 0 0) [] := ⟨World.ownsRow_nil _ _ _ _, by simp⟩
theorem Own8.kept {w' : World} {B : Nat} {v : Value} {xs : List Int} {row : Option Nat} (h : Own8 w B v xs) (hg : w.grownBy w' row) (hne : v.ownBlock = none ∨ v.ownBlock ≠ row) : Own8 w' B v xs := ⟨h.1.kept hg hne, h.2⟩
/-- Bytes appended to a row of bytes of the call's own. -/
theorem wp_appB (x y : Operand) (ho : o.op = .call { callee := .builtin .append, args := #[x, y], argTypes := #[48, 48] }) {B : Nat} {v u : Value} {xs ys : List Int} (hx : a.eval x = v) (hown : Own8 w B v xs) (hy : a.eval y = u) (hys : IsB w u ys)
    (hl : xs.length + ys.length ≤ 140737488355328) (hB : B ≤ w.heap.size) (hk : ∀ v' w', Own8 w' B v' (xs ++ ys) → w.grownBy w' v.ownBlock → K (a.put o.dst v') w') : o.wp Tryd.prog a w K Q := by
  obtain ⟨i0, hi, hz0, hz1, hz2⟩ := info_parts info8
  have hys' := hys
  obtain ⟨_, ad, cap, rfl, _, _, hz, hc⟩ := hys
  cases ad with
  | none =>
    have h0 : ys = [] := by
      by_cases hp : 0 < ys.length
      · obtain ⟨b2, off2, ha, _⟩ := hc hp
        cases ha
      · exact List.eq_nil_of_length_eq_zero (by omega)
    subst h0
    obtain rfl := hz rfl
    have hrun := run_append_owned_none (P := Tryd.prog) (w := w) B 48 o.type 5 i0 1 Tryd.underlying48 hi v _ _ hown.1
    have := hk v w (by rw [List.append_nil]; exact hown) ⟨rfl, rfl, rfl, Nat.le_refl _, fun _ _ _ => rfl⟩
    unfold Oper.wp
    simp [execOp, ho, resolve, invoke, builtin, hx, hy, hrun, Result.andThen]
    exact this
  | some ad =>
    refine wp_append_own w x y 48 ho B 5 i0 (.int .u8 0) 1 1 Tryd.underlying48 hi hz0 hz1 hz2 rfl (by decide) v xs.length (xs.map (Value.int .u8)) hx hown.1 ad ys.length cap (ys.map (Value.int .u8)) hy (by simp) hys'.cells (u8_one ys) (by unfold maxLen; omega) (by omega) hB ?_
    intro v' w' h2 h3 _
    refine hk v' w' ⟨?_, fun x hx => ?_⟩ h3
    · rw [List.length_append, List.map_append]; exact h2
    · rcases List.mem_append.1 hx with hx | hx
      · exact hown.2 x hx
      · exact hys'.mem x hx
theorem wpList_appB (hw : Region.wanted o (yielded ops a.tmps) = true) (x y : Operand) (ho : o.op = .call { callee := .builtin .append, args := #[x, y], argTypes := #[48, 48] }) {B : Nat} {v u : Value} {xs ys : List Int} (hx : a.eval x = v) (hown : Own8 w B v xs) (hy : a.eval y = u) (hys : IsB w u ys)
    (hl : xs.length + ys.length ≤ 140737488355328) (hB : B ≤ w.heap.size) (hk : ∀ v' w', Own8 w' B v' (xs ++ ys) → w.grownBy w' v.ownBlock → wpList Tryd.prog ops Q rest (a.put o.dst v') w') : wpList Tryd.prog ops Q (o :: rest) a w :=
  wpList_on hw fun _ hK => wp_appB x y ho hx hown hy hys hl hB fun v' w' h1 h2 => hK _ _ (hk v' w' h1 h2)
end
/-- A literal of bytes. -/
theorem isB_litm (w : World) (xs : List Int) (fr : Nat × Nat) (hb : ∀ x ∈ xs, 0 ≤ x ∧ x ≤ 255) (hl : xs.length ≤ 1000) : IsB (w.alloc (.cells (xs.map (Value.int .u8)).toArray 5 fr)) (.slice (some ⟨w.heap.size, 0, none⟩) xs.length xs.length) xs := by
  refine ⟨bytes_mem hb, some ⟨w.heap.size, 0, none⟩, xs.length, rfl, Nat.le_refl _, by omega, (fun h => by cases h), fun _ => ⟨w.heap.size, 0, rfl, fun j hj => ?_⟩⟩
  rw [cell_of_row _ w.heap.size (0 + j) (xs.map (Value.int .u8)).toArray 5 fr (heap_alloc_new w _), Nat.zero_add, List.getElem?_toArray, List.getElem?_map, List.getElem?_eq_getElem hj, List.getD_eq_getElem?_getD, List.getElem?_eq_getElem hj]
  rfl
theorem isB_lit (w : World) (xs : List Int) (hb : ∀ x ∈ xs, 0 ≤ x ∧ x ≤ 255) (hl : xs.length ≤ 1000) : IsB (w.alloc (.cells (xs.map (Value.int .u8)).toArray 5)) (.slice (some ⟨w.heap.size, 0, none⟩) xs.length xs.length) xs := by
  refine ⟨bytes_mem hb, some ⟨w.heap.size, 0, none⟩, xs.length, rfl, Nat.le_refl _, by omega, (fun h => by cases h), fun _ => ⟨w.heap.size, 0, rfl, fun j hj => ?_⟩⟩
  have h := (Arr.new w (xs.map (Value.int .u8)) 5).cell (0 + j)
  rw [h, Nat.zero_add, List.getElem?_map, List.getElem?_eq_getElem hj, List.getD_eq_getElem?_getD, List.getElem?_eq_getElem hj]
  rfl
/-- A literal of slices of bytes. -/
theorem isBB_one {w : World} {v : Value} {xs : List Int} (h : IsB w v xs) : IsBB (w.alloc (.cells #[v] 48)) (.slice (some ⟨w.heap.size, 0, none⟩) 1 1) [xs] := by
  refine ⟨some ⟨w.heap.size, 0, none⟩, 1, rfl, Nat.le_refl _, by decide, fun _ => ⟨w.heap.size, 0, rfl, fun j hj => ?_⟩⟩
  have hj0 : j = 0 := by simpa using hj
  subst hj0
  exact ⟨v, (Arr.new w [v] 48).cell 0, h.below ((Below.refl _ _).alloc (Nat.le_refl _) _)⟩
end Go.Proofs.YthhjlopgpmaokabDoor

namespace Go.Proofs.YthhjlopgpmaokabDoor
open Go.RowKit

def tab4 : List Nat := [0, 498536548, 997073096, 651767980, 1994146192, 1802195444, 1303535960, 1342533948, 3988292384, 4027552580, 3604390888, 3412177804, 2607071920, 2262029012, 2685067896, 3183342108]
def s4 (r : Nat) : Nat := (r / 16) ^^^ tab4.getD (r % 16) 0
def sB (r c : Nat) : Nat := s4 (s4 (r ^^^ c))
def crcN (r : Nat) (xs : List Int) : Nat := xs.foldl (fun r c => sB r c.toNat) r
def crcAll (r : Nat) (xss : List (List Int)) : Nat := xss.foldl crcN r
/-- The sum of lists of bytes. -/
def sumOf (xss : List (List Int)) : Int := ((4294967295 ^^^ crcAll 4294967295 xss : Nat) : Int)

theorem tab4_lt : ∀ i, i < 16 → tab4.getD i 0 < 2 ^ 32 := by decide
theorem s4_lt {r : Nat} (h : r < 2 ^ 32) : s4 r < 2 ^ 32 := Nat.xor_lt_two_pow (by omega) (tab4_lt _ (Nat.mod_lt _ (by decide)))
theorem sB_lt {r c : Nat} (h : r < 2 ^ 32) (hc : c < 2 ^ 32) : sB r c < 2 ^ 32 := s4_lt (s4_lt (Nat.xor_lt_two_pow h hc))
theorem crcN_nil (r : Nat) : crcN r [] = r := rfl
theorem crcN_snoc (r : Nat) (xs : List Int) (c : Int) : crcN r (xs ++ [c]) = sB (crcN r xs) c.toNat := by simp [crcN]
theorem crcN_append (r : Nat) (xs ys : List Int) : crcN r (xs ++ ys) = crcN (crcN r xs) ys := by simp [crcN]
theorem crcAll_snoc (r : Nat) (xss : List (List Int)) (ys : List Int) : crcAll r (xss ++ [ys]) = crcN (crcAll r xss) ys := by simp [crcAll]
theorem crcN_lt {r : Nat} {xs : List Int} (h : r < 2 ^ 32) (hx : ∀ x ∈ xs, 0 ≤ x ∧ x ≤ 255) : crcN r xs < 2 ^ 32 := by
  induction xs generalizing r with
  | nil => exact h
  | cons c t ih =>
    have hc := hx c (by simp)
    exact ih (sB_lt h (by omega)) (fun x hxt => hx x (by simp [hxt]))
theorem crcAll_lt {r : Nat} {xss : List (List Int)} (h : r < 2 ^ 32) (hx : ∀ xs ∈ xss, ∀ x ∈ xs, 0 ≤ x ∧ x ≤ 255) : crcAll r xss < 2 ^ 32 := by
  induction xss generalizing r with
  | nil => exact h
  | cons c t ih => exact ih (crcN_lt h (hx c (by simp))) (fun xs hxs => hx xs (by simp [hxs]))
theorem crcAll_flatten (r : Nat) (xss : List (List Int)) : crcAll r xss = crcN r xss.flatten := by
  induction xss generalizing r with
  | nil => rfl
  | cons c t ih => rw [List.flatten_cons, crcN_append]; exact ih _
theorem wraps_u32 (n : Int) (h₀ : 0 ≤ n) (h₁ : n < 2 ^ 32) : IntKind.u32.wrap n = n := by rw [IntKind.wrap_u32]; omega
theorem mask15 {r : Nat} (h : r < 2 ^ 32) : bits .and .u32 (r : Int) 15 = (r : Int) % 16 :=
  bits_mask .u32 32 (by decide) wraps_u32 4 (by decide) r (by omega) (by exact_mod_cast h)
theorem xor_max {r : Nat} (h : r < 2 ^ 32) : bits .xor .u32 IntKind.u32.max (r : Int) = ((4294967295 ^^^ r : Nat) : Int) := u32_xor_nat 4294967295 r (by decide) (by omega)
theorem xor_reg {r c : Nat} (h : r < 2 ^ 32) (hc : c < 2 ^ 32) : bits .xor .u32 (r : Int) (c : Int) = ((r ^^^ c : Nat) : Int) := u32_xor_nat r c (by omega) (by omega)
theorem xor_quarter {r c : Nat} (h : r < 2 ^ 32) (hc : c < 2 ^ 32) : bits .xor .u32 ((r : Int) / 16) (c : Int) = ((r / 16 ^^^ c : Nat) : Int) := by
  have := u32_xor_nat (r / 16) c (by omega) (by omega)
  simpa using this
theorem take_snoc' {xs : List Int} {k : Nat} (h : k < xs.length) : xs.take (k + 1) = xs.take k ++ [xs[k]?.getD 0] := by
  rw [List.take_succ_eq_append_getElem h]; simp [h]
end Go.Proofs.YthhjlopgpmaokabDoor
