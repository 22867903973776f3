/- Words of 32 bits, turned: both sides. -/
import Derived.Test.YtdafiobonhikiaaGreatDoorQA
import Derived.Test.YtdafiobonhikiaaGreatDoorProg
import Derived.WalkKit
import Derived.WalkSpells
namespace Go.Proofs.YtdafiobonhikiaaGreatDoor
open Go.RowKit

/-- x turned to the right by n bits. -/
def rot (x : Int) (n : Nat) : Int := bits .or .u32 (x / 2 ^ n) (x * 2 ^ (32 - n) % 4294967296)
def sig0 (x : Int) : Int := bits .xor .u32 (bits .xor .u32 (rot x 7) (rot x 18)) (x / 8)
def sig1 (x : Int) : Int := bits .xor .u32 (bits .xor .u32 (rot x 17) (rot x 19)) (x / 1024)
def Sig0 (x : Int) : Int := bits .xor .u32 (bits .xor .u32 (rot x 2) (rot x 13)) (rot x 22)
def Sig1 (x : Int) : Int := bits .xor .u32 (bits .xor .u32 (rot x 6) (rot x 11)) (rot x 25)
theorem bits_u32 (op : BinOp) (x y : Int) : 0 ≤ bits op .u32 x y ∧ bits op .u32 x y < 4294967296 := by
  unfold bits
  rw [IntKind.wrap_u32']
  omega
theorem or_swap {x y : Int} (hx : 0 ≤ x) (hx1 : x < 4294967296) (hy : 0 ≤ y) (hy1 : y < 4294967296) : bits .or .u32 x y = bits .or .u32 y x := by
  rw [u32_or x y hx hx1 hy hy1, u32_or y x hy hy1 hx hx1, Nat.or_comm]
theorem shift_of {n : Nat} (hn : 1 ≤ n) (hn1 : n ≤ 31) : bits .and .u64 (IntKind.u64.wrap (-(n : Int))) 31 = ((32 - n : Nat) : Int) := by
  have e : IntKind.u64.wrap (-(n : Int)) = ((18446744073709551616 - n : Nat) : Int) := by rw [IntKind.wrap_u64]; omega
  rw [e, show (31 : Int) = ((31 : Nat) : Int) from rfl, u64_and_nat _ 31 (by omega) (by decide), nat_mask5]
  omega
theorem div_u32 {x : Int} {n : Nat} (h0 : 0 ≤ x) (h1 : x < 4294967296) : 0 ≤ x / 2 ^ n ∧ x / 2 ^ n < 4294967296 := by
  have hp : (0 : Int) < 2 ^ n := Int.pow_pos (by decide)
  exact ⟨Int.ediv_nonneg h0 (by omega), Int.lt_of_le_of_lt (Int.ediv_le_self _ h0) h1⟩

theorem rotl_calls (x : Int) (n : Nat) (h0 : 0 ≤ x) (h1 : x < 4294967296) (hn : 1 ≤ n) (hn1 : n ≤ 31) (w : World) : Calls Tryz.prog 150 #[.int .u32 x, .int .i64 (-(n : Int))] w fun e w' => e = .returned (.int .u32 (rot x n)) ∧ w' = w := by
  have hs := shift_of hn hn1
  obtain ⟨m, hm⟩ : ∃ m, m = 32 - n := ⟨_, rfl⟩
  rw [← hm] at hs
  have hm1 : 1 ≤ m := by omega
  have hm2 : m ≤ 31 := by omega
  have HM := hide hm
  clear hm hn hn1
  go_enter Tryz.func150, Tryz.ntmps150
  go_wp2
  go_ret
  refine ⟨?_, rfl⟩
  have h2 := div_u32 (n := 32 - m) h0 h1
  have e := HM.out
  have e2 : 32 - m = n := by omega
  show Ending.returned (.int .u32 (bits .or .u32 (x * 2 ^ m % 4294967296) (x / 2 ^ (32 - m)))) = _
  rw [or_swap (by omega) (by omega) h2.1 h2.2, rot, e2, ← e]
theorem rrotr_calls (x : Int) (n : Nat) (hn : 1 ≤ n) (hn1 : n ≤ 31) (w : World) : Calls Tryz.prog 115 #[.int .u32 x, .int .u64 (n : Int)] w fun e w' => e = .returned (.int .u32 (rot x n)) ∧ w' = w := by
  go_enter Tryz.func115, Tryz.ntmps115
  go_wp2
  go_ret
  exact ⟨rfl, rfl⟩
theorem right_calls (x : Int) (n : Nat) (h0 : 0 ≤ x) (h1 : x < 4294967296) (hn : 1 ≤ n) (hn1 : n ≤ 31) (w : World) : Calls Tryz.prog 138 #[.int .u32 x, .int .i64 (n : Int)] w fun e w' => e = .returned (.int .u32 (rot x n)) ∧ w' = w := by
  go_enter Tryz.func138, Tryz.ntmps138
  go_wp2_with (go_at_call 150; refine (rotl_calls x n h0 h1 hn hn1 _).mono ?_; rintro e w1 ⟨rfl, hw1⟩; obtain rfl := hw1.symm)
  go_ret
  exact ⟨rfl, rfl⟩
theorem turnedE_calls (x : Int) (h0 : 0 ≤ x) (h1 : x < 4294967296) (w : World) : Calls Tryz.prog 128 #[.int .u32 x] w fun e w' => e = .returned (.int .u32 (Sig1 x)) ∧ w' = w := by
  have r6 : ∀ w', Calls Tryz.prog 138 #[.int .u32 x, .int .i64 6] w' fun e w2 => e = .returned (.int .u32 (rot x 6)) ∧ w2 = w' := fun w' => right_calls x 6 h0 h1 (by decide) (by decide) w'
  have r11 : ∀ w', Calls Tryz.prog 138 #[.int .u32 x, .int .i64 11] w' fun e w2 => e = .returned (.int .u32 (rot x 11)) ∧ w2 = w' := fun w' => right_calls x 11 h0 h1 (by decide) (by decide) w'
  have r25 : ∀ w', Calls Tryz.prog 138 #[.int .u32 x, .int .i64 25] w' fun e w2 => e = .returned (.int .u32 (rot x 25)) ∧ w2 = w' := fun w' => right_calls x 25 h0 h1 (by decide) (by decide) w'
  go_enter Tryz.func128, Tryz.ntmps128
  go_wp2_with (go_at_call 138; (first | with_reducible refine (r6 _).mono ?_ | with_reducible refine (r11 _).mono ?_ | with_reducible refine (r25 _).mono ?_); rintro e w1 ⟨rfl, hw1⟩; obtain rfl := hw1.symm)
  go_ret
  exact ⟨rfl, rfl⟩
theorem turnedA_calls (x : Int) (h0 : 0 ≤ x) (h1 : x < 4294967296) (w : World) : Calls Tryz.prog 129 #[.int .u32 x] w fun e w' => e = .returned (.int .u32 (Sig0 x)) ∧ w' = w := by
  have r2 : ∀ w', Calls Tryz.prog 138 #[.int .u32 x, .int .i64 2] w' fun e w2 => e = .returned (.int .u32 (rot x 2)) ∧ w2 = w' := fun w' => right_calls x 2 h0 h1 (by decide) (by decide) w'
  have r13 : ∀ w', Calls Tryz.prog 138 #[.int .u32 x, .int .i64 13] w' fun e w2 => e = .returned (.int .u32 (rot x 13)) ∧ w2 = w' := fun w' => right_calls x 13 h0 h1 (by decide) (by decide) w'
  have r22 : ∀ w', Calls Tryz.prog 138 #[.int .u32 x, .int .i64 22] w' fun e w2 => e = .returned (.int .u32 (rot x 22)) ∧ w2 = w' := fun w' => right_calls x 22 h0 h1 (by decide) (by decide) w'
  go_enter Tryz.func129, Tryz.ntmps129
  go_wp2_with (go_at_call 138; (first | with_reducible refine (r2 _).mono ?_ | with_reducible refine (r13 _).mono ?_ | with_reducible refine (r22 _).mono ?_); rintro e w1 ⟨rfl, hw1⟩; obtain rfl := hw1.symm)
  go_ret
  exact ⟨rfl, rfl⟩
theorem mixedOld_calls (x : Int) (h0 : 0 ≤ x) (h1 : x < 4294967296) (w : World) : Calls Tryz.prog 137 #[.int .u32 x] w fun e w' => e = .returned (.int .u32 (sig0 x)) ∧ w' = w := by
  have r7 : ∀ w', Calls Tryz.prog 138 #[.int .u32 x, .int .i64 7] w' fun e w2 => e = .returned (.int .u32 (rot x 7)) ∧ w2 = w' := fun w' => right_calls x 7 h0 h1 (by decide) (by decide) w'
  have r18 : ∀ w', Calls Tryz.prog 138 #[.int .u32 x, .int .i64 18] w' fun e w2 => e = .returned (.int .u32 (rot x 18)) ∧ w2 = w' := fun w' => right_calls x 18 h0 h1 (by decide) (by decide) w'
  go_enter Tryz.func137, Tryz.ntmps137
  go_wp2_with (go_at_call 138; (first | with_reducible refine (r7 _).mono ?_ | with_reducible refine (r18 _).mono ?_); rintro e w1 ⟨rfl, hw1⟩; obtain rfl := hw1.symm)
  go_ret
  exact ⟨rfl, rfl⟩
theorem mixedNew_calls (x : Int) (h0 : 0 ≤ x) (h1 : x < 4294967296) (w : World) : Calls Tryz.prog 136 #[.int .u32 x] w fun e w' => e = .returned (.int .u32 (sig1 x)) ∧ w' = w := by
  have r17 : ∀ w', Calls Tryz.prog 138 #[.int .u32 x, .int .i64 17] w' fun e w2 => e = .returned (.int .u32 (rot x 17)) ∧ w2 = w' := fun w' => right_calls x 17 h0 h1 (by decide) (by decide) w'
  have r19 : ∀ w', Calls Tryz.prog 138 #[.int .u32 x, .int .i64 19] w' fun e w2 => e = .returned (.int .u32 (rot x 19)) ∧ w2 = w' := fun w' => right_calls x 19 h0 h1 (by decide) (by decide) w'
  go_enter Tryz.func136, Tryz.ntmps136
  go_wp2_with (go_at_call 138; (first | with_reducible refine (r17 _).mono ?_ | with_reducible refine (r19 _).mono ?_); rintro e w1 ⟨rfl, hw1⟩; obtain rfl := hw1.symm)
  go_ret
  exact ⟨rfl, rfl⟩
end Go.Proofs.YtdafiobonhikiaaGreatDoor
