/- The sum, in plain numbers: a register of 32 bits, four bits a step by the table. -/
import Derived.Test.YtmfpkoegpoboiabDoorPlain
namespace Go.Proofs.YtmfpkoegpoboiabDoor
open Go.RowKit

def tab4 : List Nat := [0, 498536548, 997073096, 651767980, 1994146192, 1802195444, 1303535960, 1342533948, 3988292384, 4027552580, 3604390888, 3412177804, 2607071920, 2262029012, 2685067896, 3183342108]
def s4 (r : Nat) : Nat := (r / 16) ^^^ tab4.getD (r % 16) 0
def sB (r c : Nat) : Nat := s4 (s4 (r ^^^ c))
def crcN (r : Nat) (xs : List Int) : Nat := xs.foldl (fun r c => sB r c.toNat) r
def crcAll (r : Nat) (xss : List (List Int)) : Nat := xss.foldl crcN r
/-- The sum of lists of bytes. -/
def sumOf (xss : List (List Int)) : Int := ((4294967295 ^^^ crcAll 4294967295 xss : Nat) : Int)

theorem tab4_lt : ∀ i, i < 16 → tab4.getD i 0 < 2 ^ 32 := by decide
theorem s4_lt {r : Nat} (h : r < 2 ^ 32) : s4 r < 2 ^ 32 := Nat.xor_lt_two_pow (by omega) (tab4_lt _ (Nat.mod_lt _ (by decide)))
theorem sB_lt {r c : Nat} (h : r < 2 ^ 32) (hc : c < 2 ^ 32) : sB r c < 2 ^ 32 := s4_lt (s4_lt (Nat.xor_lt_two_pow h hc))
theorem crcN_nil (r : Nat) : crcN r [] = r := rfl
theorem crcN_snoc (r : Nat) (xs : List Int) (c : Int) : crcN r (xs ++ [c]) = sB (crcN r xs) c.toNat := by simp [crcN]
theorem crcN_append (r : Nat) (xs ys : List Int) : crcN r (xs ++ ys) = crcN (crcN r xs) ys := by simp [crcN]
theorem crcAll_snoc (r : Nat) (xss : List (List Int)) (ys : List Int) : crcAll r (xss ++ [ys]) = crcN (crcAll r xss) ys := by simp [crcAll]
theorem crcN_lt {r : Nat} {xs : List Int} (h : r < 2 ^ 32) (hx : ∀ x ∈ xs, 0 ≤ x ∧ x ≤ 255) : crcN r xs < 2 ^ 32 := by
  induction xs generalizing r with
  | nil => exact h
  | cons c t ih =>
    have hc := hx c (by simp)
    exact ih (sB_lt h (by omega)) (fun x hxt => hx x (by simp [hxt]))
theorem crcAll_lt {r : Nat} {xss : List (List Int)} (h : r < 2 ^ 32) (hx : ∀ xs ∈ xss, ∀ x ∈ xs, 0 ≤ x ∧ x ≤ 255) : crcAll r xss < 2 ^ 32 := by
  induction xss generalizing r with
  | nil => exact h
  | cons c t ih => exact ih (crcN_lt h (hx c (by simp))) (fun xs hxs => hx xs (by simp [hxs]))
theorem crcAll_flatten (r : Nat) (xss : List (List Int)) : crcAll r xss = crcN r xss.flatten := by
  induction xss generalizing r with
  | nil => rfl
  | cons c t ih => rw [List.flatten_cons, crcN_append]; exact ih _
theorem wraps_u32 (n : Int) (h₀ : 0 ≤ n) (h₁ : n < 2 ^ 32) : IntKind.u32.wrap n = n := by rw [IntKind.wrap_u32]; omega
theorem mask15 {r : Nat} (h : r < 2 ^ 32) : bits .and .u32 (r : Int) 15 = (r : Int) % 16 :=
  bits_mask .u32 32 (by decide) wraps_u32 4 (by decide) r (by omega) (by exact_mod_cast h)
theorem xor_max {r : Nat} (h : r < 2 ^ 32) : bits .xor .u32 IntKind.u32.max (r : Int) = ((4294967295 ^^^ r : Nat) : Int) := u32_xor_nat 4294967295 r (by decide) (by omega)
theorem xor_reg {r c : Nat} (h : r < 2 ^ 32) (hc : c < 2 ^ 32) : bits .xor .u32 (r : Int) (c : Int) = ((r ^^^ c : Nat) : Int) := u32_xor_nat r c (by omega) (by omega)
theorem xor_quarter {r c : Nat} (h : r < 2 ^ 32) (hc : c < 2 ^ 32) : bits .xor .u32 ((r : Int) / 16) (c : Int) = ((r / 16 ^^^ c : Nat) : Int) := by
  have := u32_xor_nat (r / 16) c (by omega) (by omega)
  simpa using this
theorem take_all {xs : List (List Int)} {k : Nat} (h : k < xs.length) : xs.take (k + 1) = xs.take k ++ [xs.getD k []] := by
  rw [List.take_succ_eq_append_getElem h]; simp [h]
theorem take_snoc' {xs : List Int} {k : Nat} (h : k < xs.length) : xs.take (k + 1) = xs.take k ++ [xs[k]?.getD 0] := by
  rw [List.take_succ_eq_append_getElem h]; simp [h]
end Go.Proofs.YtmfpkoegpoboiabDoor
