/- math/bits.OnesCount64. math/bits.TrailingZeros64. -/
import Derived.Test.YtlofoklfggmbiaaDoorProg
import Derived.Test.YtlofoklfggmbiaaDoorQO
import Derived.Laws.Bits64b
import Derived.Laws.Bits128
import Derived.WalkKit
import Derived.WalkSpells
import Derived.Lib.TrailingZeros
import Derived.Shelf.Spec.TrailingZeros
namespace Go.Proofs.YtlofoklfggmbiaaDoor
open Go.RowKit

theorem and_n (x m : Nat) (hx : x < 18446744073709551616) (hm : m < 18446744073709551616) : bits .and .u64 (x : Int) (m : Int) = ((x &&& m : Nat) : Int) := bits_and_u64_nat x m hx hm
theorem last127 (z p : Nat) (h : z % 128 = p) : wrap64 (z : Int) % 128 = (p : Int) := by
 subst h
 unfold wrap64
 omega
set_option maxHeartbeats 1000000 in
theorem ones_calls (x : Nat) (hx : x < 18446744073709551616) (w : World) : Calls Tryd.prog 44 #[.int .u64 (x : Int)] w fun e w' => e = .returned (.int .i64 ((pc 64 x : Nat) : Int)) ∧ w' = w := by
 obtain ⟨s1, s2, s4⟩ := pop_steps hx
 have l2 := fld2_lt x
 have l4 := fld4_lt x
 have l8 := fld8_lt x
 have hl := pop_last (a := fld 8 8 x) (x := x) rfl
 have W : ∀ n : Nat, IntKind.u64.wrap (n : Int) = ((n % 18446744073709551616 : Nat) : Int) := fun n => by rw [IntKind.wrap_u64]; omega
 have b1 : bits .and .u64 ((x : Int) / 2) 6148914691236517205 = ((x / 2 &&& 6148914691236517205 : Nat) : Int) := and_n (x / 2) 6148914691236517205 (by omega) (by decide)
 have b2 : bits .and .u64 (x : Int) 6148914691236517205 = ((x &&& 6148914691236517205 : Nat) : Int) := and_n x 6148914691236517205 hx (by decide)
 have E1 : IntKind.u64.wrap (bits .and .u64 ((x : Int) / 2) 6148914691236517205 + bits .and .u64 (x : Int) 6148914691236517205) = ((fld 2 32 x : Nat) : Int) := by
  rw [b1, b2, ← Int.natCast_add, s1, W, Nat.mod_eq_of_lt l2]
 have b3 : bits .and .u64 (((fld 2 32 x : Nat) : Int) / 4) 3689348814741910323 = ((fld 2 32 x / 4 &&& 3689348814741910323 : Nat) : Int) := and_n (fld 2 32 x / 4) 3689348814741910323 (by omega) (by decide)
 have b4 : bits .and .u64 ((fld 2 32 x : Nat) : Int) 3689348814741910323 = ((fld 2 32 x &&& 3689348814741910323 : Nat) : Int) := and_n (fld 2 32 x) 3689348814741910323 l2 (by decide)
 have E2 : IntKind.u64.wrap (bits .and .u64 (((fld 2 32 x : Nat) : Int) / 4) 3689348814741910323 + bits .and .u64 ((fld 2 32 x : Nat) : Int) 3689348814741910323) = ((fld 4 16 x : Nat) : Int) := by
  rw [b3, b4, ← Int.natCast_add, s2, W, Nat.mod_eq_of_lt l4]
 have l5 : fld 4 16 x / 16 + fld 4 16 x < 18446744073709551616 := by
  have := fld4_top x
  omega
 have e3 : IntKind.u64.wrap (((fld 4 16 x : Nat) : Int) / 16 + ((fld 4 16 x : Nat) : Int)) = ((fld 4 16 x / 16 + fld 4 16 x : Nat) : Int) := by
  have := W (fld 4 16 x / 16 + fld 4 16 x)
  rw [Nat.mod_eq_of_lt l5] at this
  rw [← this]; congr 1
 have E3 : bits .and .u64 (IntKind.u64.wrap (((fld 4 16 x : Nat) : Int) / 16 + ((fld 4 16 x : Nat) : Int))) 1085102592571150095 = ((fld 8 8 x : Nat) : Int) := by
  rw [e3]
  have := and_n (fld 4 16 x / 16 + fld 4 16 x) 1085102592571150095 l5 (by decide)
  rw [s4] at this
  exact this
 have W2 : ∀ (n k : Nat), IntKind.u64.wrap ((n : Int) + (n : Int) / (k : Int)) = (((n + n / k) % 18446744073709551616 : Nat) : Int) := fun n k => by
  rw [← W]; congr 1
 have F1 : IntKind.u64.wrap (((fld 8 8 x : Nat) : Int) + ((fld 8 8 x : Nat) : Int) / 256) = (((fld 8 8 x + fld 8 8 x / 256) % 18446744073709551616 : Nat) : Int) := W2 _ 256
 generalize fld 8 8 x = y3 at *
 generalize hz1 : (y3 + y3 / 256) % 18446744073709551616 = z1 at *
 have F2 : IntKind.u64.wrap ((z1 : Int) + (z1 : Int) / 65536) = (((z1 + z1 / 65536) % 18446744073709551616 : Nat) : Int) := W2 _ 65536
 generalize hz2 : (z1 + z1 / 65536) % 18446744073709551616 = z2 at *
 have F3 : IntKind.u64.wrap ((z2 : Int) + (z2 : Int) / 4294967296) = (((z2 + z2 / 4294967296) % 18446744073709551616 : Nat) : Int) := W2 _ 4294967296
 generalize hz3 : (z2 + z2 / 4294967296) % 18446744073709551616 = z3 at *
 have hp := pc_le 64 x
 have HH := hide (And.intro E1 (And.intro E2 (And.intro E3 (And.intro F1 (And.intro F2 F3)))))
 have HL := hide hl
 clear E1 E2 E3 F1 F2 F3 b1 b2 b3 b4 e3 s1 s2 s4 l2 l4 l5 l8 hl hz1 hz2 hz3 W W2
 go_enter Tryd.func44, Tryd.ntmps44
 go_wp2
 obtain ⟨E1, E2, E3, F1, F2, F3⟩ := HH.out
 simp only [E1, E2, E3, F1, F2, F3]
 have e : bits .and .i64 (wrap64 (z3 : Int)) 127 = ((pc 64 x : Nat) : Int) := by
  rw [i64_and127]
  exact last127 z3 _ HL.out
 simp only [e]
 go_ret
 exact ⟨rfl, rfl⟩
end Go.Proofs.YtlofoklfggmbiaaDoor

namespace Go.Proofs.YtlofoklfggmbiaaDoor
open Go.RowKit

/-- The library's table. -/
def Tz (w : World) : Prop := TabAt 3 Lib.deBruijn64tab w
set_option maxHeartbeats 1000000 in
theorem tz_core (x k idx : Nat) (w : World) (hx0 : ((x : Int) == 0) = false)
 (key : IntKind.u64.wrap (bits BinOp.and IntKind.u64 (x : Int) (IntKind.u64.wrap (-(x : Int))) * 285870213051353865) / 288230376151711744 = (idx : Int))
 (hi : idx < 64) (hk : k < 64) (hcell : w.cell? ⟨3, idx, none⟩ = some (.int .u8 k)) :
 Calls Tryd.prog 110 #[.int .u64 x] w fun e w' => e = .returned (.int .i64 k) ∧ w' = w := by
 go_enter Tryd.func110, Tryd.ntmps110
 go_wp2_with (simp only [key])
 go_ret
 exact ⟨rfl, rfl⟩
theorem tz_calls (x : Nat) (hx0 : x ≠ 0) (hx : x < 18446744073709551616) (w : World) (hT : Tz w) :
 Calls Tryd.prog 110 #[.int .u64 x] w fun e w' => e = .returned (.int .i64 ((Lib.ctz 64 x : Nat) : Int)) ∧ w' = w := by
 obtain ⟨hlow, hk⟩ := Lib.lowest_bit 64 x hx0 hx
 obtain ⟨hi, htab⟩ := Lib.deBruijn64_at _ hk
 have hcell := hT _ hi
 rw [htab] at hcell
 exact tz_core x _ _ w (by simp; omega) (tz64_key x _ hx hx0 hlow) hi hk hcell
end Go.Proofs.YtlofoklfggmbiaaDoor
