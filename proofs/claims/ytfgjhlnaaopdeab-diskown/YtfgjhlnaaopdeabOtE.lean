/- lasts: what lasts of each sector. -/
import Derived.Test.YtfgjhlnaaopdeabOtD
namespace Go.Proofs.Ytfgjhlnaaopdeab
open Go.RowKit Go.Maps

def firstOf (m : Nat) (x : Int) : Nat := if 0 ≤ x ∧ x < (m : Int) then x.toNat + 1 else 0
theorem firstOf_le (m : Nat) (x : Int) : firstOf m x ≤ m := by
  unfold firstOf
  split <;> omega
end Go.Proofs.Ytfgjhlnaaopdeab
