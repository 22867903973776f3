/- Bits of numbers. -/
import Derived.Test.YtpklbchbldipnaaDoorNA
namespace Go.Proofs.YtpklbchbldipnaaDoor
open Go.RowKit

theorem bits_and31 (x : Int) : ∃ g : Nat, g < 32 ∧ bits .and .i64 x 31 = (g : Int) := by
  have hle : (BitVec.ofInt 64 x &&& BitVec.ofInt 64 31).toNat ≤ 31 := by
    rw [BitVec.toNat_and]
    exact Nat.le_trans Nat.and_le_right (by decide)
  refine ⟨(BitVec.ofInt 64 x &&& BitVec.ofInt 64 31).toNat, by omega, ?_⟩
  show IntKind.i64.wrap (((BitVec.ofInt 64 x &&& BitVec.ofInt 64 31).toNat : Nat) : Int) = _
  generalize (BitVec.ofInt 64 x &&& BitVec.ofInt 64 31).toNat = q at *
  rw [IntKind.wrap_i64]
  omega
theorem xor_ne (n : Nat) (A B : BitVec n) (hB : B ≠ BitVec.ofNat n 0) : (A ^^^ B).toNat ≠ A.toNat := fun h => by
  have h1 : A ^^^ B = A := BitVec.eq_of_toNat_eq h
  have h2 : A ^^^ (A ^^^ B) = A ^^^ A := by rw [h1]
  rw [← BitVec.xor_assoc, BitVec.xor_self, BitVec.zero_xor] at h2
  exact hB h2
theorem bits_xor1 (x : Int) : ∃ y : Int, bits .xor .i64 x 1 = y ∧ (-9223372036854775808 ≤ y ∧ y ≤ 9223372036854775807) ∧ y ≠ x := by
  refine ⟨_, rfl, ?_, ?_⟩
  · show -9223372036854775808 ≤ IntKind.i64.wrap _ ∧ IntKind.i64.wrap _ ≤ 9223372036854775807
    rw [IntKind.wrap_i64]
    omega
  · show IntKind.i64.wrap (((BitVec.ofInt 64 x ^^^ BitVec.ofInt 64 1).toNat : Nat) : Int) ≠ x
    have h1 := xor_ne 64 (BitVec.ofInt 64 x) (BitVec.ofInt 64 1) (by decide)
    have h2 := (BitVec.ofInt 64 x ^^^ BitVec.ofInt 64 1).isLt
    rw [BitVec.toNat_ofInt] at h1
    generalize (BitVec.ofInt 64 x ^^^ BitVec.ofInt 64 1).toNat = q at *
    rw [IntKind.wrap_i64]
    omega
theorem byte_xor1 (x : Int) : ∃ y : Int, bits .xor .u8 x 1 = y ∧ (0 ≤ y ∧ y ≤ 255) ∧ y ≠ x := by
  refine ⟨_, rfl, ?_, ?_⟩
  · show 0 ≤ IntKind.u8.wrap _ ∧ IntKind.u8.wrap _ ≤ 255
    rw [IntKind.wrap_u8]
    omega
  · show IntKind.u8.wrap (((BitVec.ofInt 8 x ^^^ BitVec.ofInt 8 1).toNat : Nat) : Int) ≠ x
    have h1 := xor_ne 8 (BitVec.ofInt 8 x) (BitVec.ofInt 8 1) (by decide)
    have h2 := (BitVec.ofInt 8 x ^^^ BitVec.ofInt 8 1).isLt
    rw [BitVec.toNat_ofInt] at h1
    generalize (BitVec.ofInt 8 x ^^^ BitVec.ofInt 8 1).toNat = q at *
    rw [IntKind.wrap_u8]
    omega
end Go.Proofs.YtpklbchbldipnaaDoor
