/- 1.9, in plain numbers: what a bit that is turned over does to the sum. -/
import Derived.Test.YthhjlopgpmaokabDoorKE
namespace Go.Proofs.YthhjlopgpmaokabDoor
open Go.RowKit

theorem xor_none {a b : Nat} (h : a ^^^ b = 0) : a = b := by
  have h1 : a ^^^ b ^^^ b = 0 ^^^ b := by rw [h]
  rw [Nat.xor_assoc, Nat.xor_self, Nat.xor_zero, Nat.zero_xor] at h1
  exact h1
theorem t1_zero {r : Nat} (h : r < 2 ^ 32) (h0 : t1 r = 0) : r = 0 := by
  unfold t1 at h0
  split at h0
  · have h1 : r / 2 = 3988292384 := xor_none h0
    omega
  · omega
theorem tN_zero {r : Nat} (h : r < 2 ^ 32) : ∀ n, tN n r = 0 → r = 0
  | 0, h0 => h0
  | n + 1, h0 => tN_zero h n (t1_zero (tN_lt h n) h0)
theorem tN_inj {a b : Nat} (ha : a < 2 ^ 32) (hb : b < 2 ^ 32) {n : Nat} (h : tN n a = tN n b) : a = b := by
  have h1 : tN n (a ^^^ b) = 0 := by rw [tN_xor, h, Nat.xor_self]
  exact xor_none (tN_zero (Nat.xor_lt_two_pow ha hb) n h1)
/-- A bit, as many steps on as its place: 1. -/
theorem tN_pow : ∀ n, tN n (2 ^ n) = 1
  | 0 => rfl
  | n + 1 => by
    have h : tN (1 + n) (2 ^ (n + 1)) = tN n (tN 1 (2 ^ (n + 1))) := tN_add _ 1 n
    rw [Nat.add_comm 1 n] at h
    rw [h, show tN 1 (2 ^ (n + 1)) = t1 (2 * 2 ^ n) by rw [Nat.pow_succ, Nat.mul_comm]; rfl, t1_even, tN_pow n]
theorem tN_one {m n : Nat} (h : n ≤ m) : tN m (2 ^ n) = tN (m - n) 1 := by
  have h1 := tN_add (2 ^ n) n (m - n)
  rw [tN_pow, show n + (m - n) = m by omega] at h1
  exact h1
theorem sB_split (s d c : Nat) : sB (s ^^^ d) c = sB s c ^^^ tN 8 d := by
  rw [← t8_sB, ← t8_sB, show s ^^^ d ^^^ c = (s ^^^ c) ^^^ d by ac_rfl, tN_xor]
theorem sB_turn (s c m : Nat) : sB s (c ^^^ m) = sB s c ^^^ tN 8 m := by
  rw [← t8_sB, ← t8_sB, show s ^^^ (c ^^^ m) = (s ^^^ c) ^^^ m by ac_rfl, tN_xor]
theorem crcN_split (t : List Int) (s d : Nat) : crcN (s ^^^ d) t = crcN s t ^^^ tN (8 * t.length) d := by
  induction t generalizing s d with
  | nil => rfl
  | cons c t ih =>
    show crcN (sB (s ^^^ d) c.toNat) t = crcN (sB s c.toNat) t ^^^ _
    rw [sB_split, ih, ← tN_add, List.length_cons, show 8 + 8 * t.length = 8 * (t.length + 1) by omega]
/-- One bit of a byte string is turned over. -/
def flipped (xs : List Int) (p j : Nat) : List Int := xs.set p (((xs.getD p 0).toNat ^^^ 2 ^ j : Nat) : Int)
theorem crc_flip (xs : List Int) (r p j : Nat) (hp : p < xs.length) (hj : j < 8) : crcN r (flipped xs p j) = crcN r xs ^^^ tN (8 * (xs.length - p) - j) 1 := by
  induction xs generalizing r p with
  | nil => simp at hp
  | cons c t ih =>
    cases p with
    | zero =>
      show crcN (sB r (((c.toNat ^^^ 2 ^ j : Nat) : Int)).toNat) t = crcN (sB r c.toNat) t ^^^ _
      rw [Int.toNat_natCast, sB_turn, crcN_split, ← tN_add, tN_one (by omega)]
      congr 2
      simp only [List.length_cons]
      omega
    | succ q =>
      have h1 : flipped (c :: t) (q + 1) j = c :: flipped t q j := rfl
      rw [h1]
      show crcN (sB r c.toNat) (flipped t q j) = crcN (sB r c.toNat) t ^^^ _
      rw [ih (sB r c.toNat) q (by simpa using hp)]
      congr 2
      simp only [List.length_cons]
      omega
/-- Bits within 32 that follow one another: what they do to the sum is the pattern, moved on. -/
theorem burst_told {P m : Nat} (h : P < 2 ^ 32) (h0 : P ≠ 0) : tN m P ≠ 0 := fun e => h0 (tN_zero h m e)
end Go.Proofs.YthhjlopgpmaokabDoor
