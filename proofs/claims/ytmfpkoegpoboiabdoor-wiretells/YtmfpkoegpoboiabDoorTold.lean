/- 1.9: what turned turned, the sum tells. -/
import Derived.Test.YtmfpkoegpoboiabDoorTurned
import Derived.Test.YtmfpkoegpoboiabDoorKeysOk
namespace Go.Proofs.YtmfpkoegpoboiabDoor
open Go.RowKit

/-- What the bits do to the sum. -/
def laidX (n : Nat) : List Int → Nat
  | [] => 0
  | b :: t => (if 0 ≤ b ∧ b < 8 * (n : Int) then tN (8 * n - b.toNat) 1 else 0) ^^^ laidX n t
theorem crc_turn (xs bs : List Int) (r : Nat) : crcN r (turnAll xs bs) = crcN r xs ^^^ laidX xs.length bs := by
  induction bs generalizing xs with
  | nil => simp [turnAll, laidX]
  | cons b t ih =>
    show crcN r (turnAll _ t) = _ ^^^ (_ ^^^ laidX xs.length t)
    by_cases h : 0 ≤ b ∧ b < 8 * (xs.length : Int)
    · rw [if_pos h, if_pos h, ih, flipped_len, crc_flip xs r (b.toNat / 8) (b.toNat % 8) (by omega) (by omega), Nat.xor_assoc]
      congr 3
      omega
    · rw [if_neg h, if_neg h, ih, Nat.zero_xor]
theorem flip_flip (xs : List Int) (p j : Nat) (hp : p < xs.length) (h0 : 0 ≤ xs.getD p 0) : flipped (flipped xs p j) p j = xs := by
  unfold flipped
  rw [List.set_set]
  have h1 : (xs.set p (((xs.getD p 0).toNat ^^^ 2 ^ j : Nat) : Int)).getD p 0 = (((xs.getD p 0).toNat ^^^ 2 ^ j : Nat) : Int) := by
    rw [List.getD_eq_getElem?_getD, List.getElem?_set_self hp]; rfl
  rw [h1, Int.toNat_natCast, Nat.xor_assoc, Nat.xor_self, Nat.xor_zero, Int.toNat_of_nonneg h0, List.getD_eq_getElem?_getD, List.getElem?_eq_getElem hp]
  exact List.set_getElem_self hp
/-- What one bit does. -/
def one (n : Nat) (b : Int) : Nat := if 0 ≤ b ∧ b < 8 * (n : Int) then tN (8 * n - b.toNat) 1 else 0
def inside (n : Nat) (b : Int) : Prop := 0 ≤ b ∧ b < 8 * (n : Int)
theorem one_in {n : Nat} {b : Int} (h : inside n b) : one n b = tN (8 * n - b.toNat) 1 := if_pos h
theorem one_out {n : Nat} {b : Int} (h : ¬ inside n b) : one n b = 0 := if_neg h
theorem one_ne {n : Nat} {b : Int} (h : inside n b) : one n b ≠ 0 := by rw [one_in h]; exact bit_told _
theorem two_ne {n : Nat} {a b : Int} (hn : n ≤ 4096) (ha : inside n a) (hb : inside n b) (hab : a ≠ b) : one n a ≠ one n b := by
  rw [one_in ha, one_in hb]
  obtain ⟨a0, a1⟩ := ha
  obtain ⟨b0, b1⟩ := hb
  rcases Int.lt_or_gt_of_ne hab with h | h
  · exact fun e => two_told (a := 8 * n - b.toNat) (b := 8 * n - a.toNat) (by omega) (by omega) (by omega) e.symm
  · exact two_told (a := 8 * n - a.toNat) (b := 8 * n - b.toNat) (by omega) (by omega) (by omega)
theorem three_sorted {n : Nat} {a b c : Int} (hn : n ≤ 4096) (ha : inside n a) (hb : inside n b) (hc : inside n c) (h1 : a < b) (h2 : b < c) : one n c ^^^ one n b ^^^ one n a ≠ 0 := by
  rw [one_in ha, one_in hb, one_in hc]
  obtain ⟨a0, a1⟩ := ha
  obtain ⟨b0, b1⟩ := hb
  obtain ⟨c0, c1⟩ := hc
  exact three_told (by omega) (by omega) (by omega) (by omega)
theorem three_ne {n : Nat} {a b c : Int} (hn : n ≤ 4096) (ha : inside n a) (hb : inside n b) (hc : inside n c) : one n a ^^^ (one n b ^^^ one n c) ≠ 0 := by
  have r1 : ∀ x y z : Nat, x ^^^ (y ^^^ z) = z ^^^ y ^^^ x := fun x y z => by ac_rfl
  have r2 : ∀ x y z : Nat, x ^^^ (y ^^^ z) = y ^^^ z ^^^ x := fun x y z => by ac_rfl
  have r3 : ∀ x y z : Nat, x ^^^ (y ^^^ z) = z ^^^ x ^^^ y := fun x y z => by ac_rfl
  have r4 : ∀ x y z : Nat, x ^^^ (y ^^^ z) = x ^^^ z ^^^ y := fun x y z => by ac_rfl
  have r5 : ∀ x y z : Nat, x ^^^ (y ^^^ z) = y ^^^ x ^^^ z := fun x y z => by ac_rfl
  have r6 : ∀ x y z : Nat, x ^^^ (y ^^^ z) = x ^^^ y ^^^ z := fun x y z => by ac_rfl
  by_cases hab : a = b
  · subst hab; rw [r6, Nat.xor_self, Nat.zero_xor]; exact one_ne hc
  by_cases hbc : b = c
  · subst hbc; rw [Nat.xor_self, Nat.xor_zero]; exact one_ne ha
  by_cases hac : a = c
  · subst hac; rw [r4, Nat.xor_self, Nat.zero_xor]; exact one_ne hb
  rcases Int.lt_or_gt_of_ne hab with h1 | h1 <;> rcases Int.lt_or_gt_of_ne hbc with h2 | h2 <;> rcases Int.lt_or_gt_of_ne hac with h3 | h3
  · rw [r1]; exact three_sorted hn ha hb hc h1 h2
  · omega
  · rw [r2]; exact three_sorted hn ha hc hb h3 h2
  · rw [r5]; exact three_sorted hn hc ha hb h3 h1
  · rw [r3]; exact three_sorted hn hb ha hc h1 h3
  · rw [r4]; exact three_sorted hn hb hc ha h2 h3
  · omega
  · rw [r6]; exact three_sorted hn hc hb ha h2 h1
theorem laid3 (n : Nat) (a b c : Int) : laidX n [a, b, c] = one n a ^^^ (one n b ^^^ one n c) := by
  show one n a ^^^ (one n b ^^^ (one n c ^^^ 0)) = _
  rw [Nat.xor_zero]
/-- Three bits (or fewer, where some are none or the same): if the sum stays, all stays. -/
theorem three_stay {xs : List Int} {a b c : Int} (hx : ∀ x ∈ xs, 0 ≤ x ∧ x ≤ 255) (hn : xs.length ≤ 4096) (h : laidX xs.length [a, b, c] = 0) : turnAll xs [a, b, c] = xs := by
  rw [laid3] at h
  have nn : ∀ q : Nat, 0 ≤ xs.getD q 0 := fun q => by
    rw [List.getD_eq_getElem?_getD]
    by_cases hq : q < xs.length
    · rw [List.getElem?_eq_getElem hq]; exact (hx _ (List.getElem_mem hq)).1
    · rw [List.getElem?_eq_none (by omega)]; simp
  have tw : ∀ d : Int, inside xs.length d → flipped (flipped xs (d.toNat / 8) (d.toNat % 8)) (d.toNat / 8) (d.toNat % 8) = xs := fun d hd =>
    flip_flip xs _ _ (by obtain ⟨_, _⟩ := hd; omega) (nn _)
  have tin : ∀ (ys : List Int) (d : Int) (t : List Int), ys.length = xs.length → inside xs.length d → turnAll ys (d :: t) = turnAll (flipped ys (d.toNat / 8) (d.toNat % 8)) t := fun ys d t hl hd => by
    show turnAll (if 0 ≤ d ∧ d < 8 * (ys.length : Int) then _ else _) t = _
    rw [if_pos (by rw [hl]; exact hd)]
  have tout : ∀ (ys : List Int) (d : Int) (t : List Int), ys.length = xs.length → ¬ inside xs.length d → turnAll ys (d :: t) = turnAll ys t := fun ys d t hl hd => by
    show turnAll (if 0 ≤ d ∧ d < 8 * (ys.length : Int) then _ else _) t = _
    rw [if_neg (by rw [hl]; exact hd)]
  by_cases ha : inside xs.length a <;> by_cases hb : inside xs.length b <;> by_cases hc : inside xs.length c
  · exact (three_ne hn ha hb hc h).elim
  · rw [one_out hc, Nat.xor_zero] at h
    by_cases hab : a = b
    · subst hab
      rw [tin xs a _ rfl ha, tin _ a _ (flipped_len _ _ _) ha, tw a ha, tout xs c _ rfl hc]
      rfl
    · exact (two_ne hn ha hb hab (xor_none h)).elim
  · rw [one_out hb, Nat.zero_xor] at h
    by_cases hac : a = c
    · subst hac
      rw [tin xs a _ rfl ha, tout _ b _ (flipped_len _ _ _) hb, tin _ a _ (flipped_len _ _ _) ha, tw a ha]
      rfl
    · exact (two_ne hn ha hc hac (xor_none h)).elim
  · rw [one_out hb, one_out hc, Nat.xor_zero, Nat.xor_zero] at h
    exact (one_ne ha h).elim
  · rw [one_out ha, Nat.zero_xor] at h
    by_cases hbc : b = c
    · subst hbc
      rw [tout xs a _ rfl ha, tin xs b _ rfl hb, tin _ b _ (flipped_len _ _ _) hb, tw b hb]
      rfl
    · exact (two_ne hn hb hc hbc (xor_none h)).elim
  · rw [one_out ha, one_out hc, Nat.xor_zero, Nat.zero_xor] at h
    exact (one_ne hb h).elim
  · rw [one_out ha, one_out hb, Nat.zero_xor, Nat.zero_xor] at h
    exact (one_ne hc h).elim
  · rw [tout xs a _ rfl ha, tout xs b _ rfl hb, tout xs c _ rfl hc]
    rfl
theorem sum_turn {xs bs : List Int} (h : sumOf [turnAll xs bs] = sumOf [xs]) : laidX xs.length bs = 0 := by
  have h1 : ((4294967295 ^^^ crcN 4294967295 (turnAll xs bs) : Nat) : Int) = ((4294967295 ^^^ crcN 4294967295 xs : Nat) : Int) := h
  have h2 : 4294967295 ^^^ crcN 4294967295 (turnAll xs bs) = 4294967295 ^^^ crcN 4294967295 xs := by exact_mod_cast h1
  rw [crc_turn] at h2
  have h3 := congrArg (fun z => 4294967295 ^^^ crcN 4294967295 xs ^^^ z) h2
  simp only [Nat.xor_self] at h3
  rw [show 4294967295 ^^^ crcN 4294967295 xs ^^^ (4294967295 ^^^ (crcN 4294967295 xs ^^^ laidX xs.length bs)) = (4294967295 ^^^ 4294967295) ^^^ (crcN 4294967295 xs ^^^ crcN 4294967295 xs) ^^^ laidX xs.length bs by ac_rfl, Nat.xor_self, Nat.xor_self, Nat.zero_xor, Nat.zero_xor] at h3
  exact h3
end Go.Proofs.YtmfpkoegpoboiabDoor
