/- 1.9: one to three bits that were turned over in at most 4096 bytes turn the sum. -/
import Derived.Test.YtmfpkoegpoboiabDoorKeys
namespace Go.Proofs.YtmfpkoegpoboiabDoor
open Go.RowKit

theorem keys15 : keysOk 15 = true := by decide +kernel
theorem half_xor1 (y : Nat) : (y ^^^ 1) / 2 = y / 2 := by
  have h : (y ^^^ 1) / 2 = y / 2 ^^^ 1 / 2 := Nat.xor_div_two_pow (n := 1)
  rw [h]
  simp
/-- What a bit that stands m bits ahead of the end does to the sum. -/
theorem bit_told (m : Nat) : tN m 1 ≠ 0 := fun h => by have := tN_zero (by decide) m h; omega
theorem tN_lift {a b : Nat} (h : a ≤ b) : tN b 1 = tN a (tN (b - a) 1) := by rw [← tN_add]; congr 1; omega
theorem two_told {a b : Nat} (h : a < b) (hb : b ≤ 32768) (ha : 1 ≤ a) : tN a 1 ≠ tN b 1 := by
  intro e
  rw [tN_lift (Nat.le_of_lt h)] at e
  have e1 := tN_inj (by decide) (tN_lt (by decide) _) e
  exact keys_of keys15 (i := 0) (j := b - a) (by omega) (by omega) (congrArg (· / 2) e1)
theorem three_told {a b c : Nat} (h1 : a < b) (h2 : b < c) (hc : c ≤ 32768) (ha : 1 ≤ a) : tN a 1 ^^^ tN b 1 ^^^ tN c 1 ≠ 0 := by
  intro e
  rw [tN_lift (Nat.le_of_lt h1), tN_lift (show a ≤ c by omega), ← tN_xor, ← tN_xor] at e
  have l1 : tN (b - a) 1 < 2 ^ 32 := tN_lt (by decide) _
  have l2 : tN (c - a) 1 < 2 ^ 32 := tN_lt (by decide) _
  have e1 := tN_zero (Nat.xor_lt_two_pow (Nat.xor_lt_two_pow (by decide) l1) l2) a e
  have e2 : tN (b - a) 1 ^^^ 1 = tN (c - a) 1 := xor_none (by rw [Nat.xor_comm (tN (b - a) 1)]; exact e1)
  have e3 := congrArg (· / 2) e2
  simp only [half_xor1] at e3
  exact keys_of keys15 (i := b - a) (j := c - a) (by omega) (by omega) e3
end Go.Proofs.YtmfpkoegpoboiabDoor
