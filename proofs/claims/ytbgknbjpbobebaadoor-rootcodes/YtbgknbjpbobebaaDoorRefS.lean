/- What the document's SumAll answers: bit by bit, as wire's Sum by its table. -/
import Derived.Test.YtbgknbjpbobebaaDoorKC
namespace Go.Proofs.YtbgknbjpbobebaaDoor
open Go.RowKit

/-- One bit's step of the register. -/
def t1 (r : Nat) : Nat := if r % 2 = 1 then r / 2 ^^^ 3988292384 else r / 2
theorem t1_lt {r : Nat} (h : r < 2 ^ 32) : t1 r < 2 ^ 32 := by
  unfold t1
  split
  · exact Nat.xor_lt_two_pow (by omega) (by decide)
  · omega
theorem t1_xor (a b : Nat) : t1 (a ^^^ b) = t1 a ^^^ t1 b := by
  have h1 : (a ^^^ b) / 2 = a / 2 ^^^ b / 2 := Nat.xor_div_two_pow (n := 1)
  have h2 : (a ^^^ b) % 2 = a % 2 ^^^ b % 2 := Nat.xor_mod_two_pow (n := 1)
  unfold t1
  rw [h1, h2]
  rcases Nat.mod_two_eq_zero_or_one a with ha | ha <;> rcases Nat.mod_two_eq_zero_or_one b with hb | hb <;> simp only [ha, hb]
  · rfl
  · show a / 2 ^^^ b / 2 ^^^ 3988292384 = a / 2 ^^^ (b / 2 ^^^ 3988292384)
    ac_rfl
  · show a / 2 ^^^ b / 2 ^^^ 3988292384 = a / 2 ^^^ 3988292384 ^^^ b / 2
    ac_rfl
  · show a / 2 ^^^ b / 2 = a / 2 ^^^ 3988292384 ^^^ (b / 2 ^^^ 3988292384)
    rw [show a / 2 ^^^ 3988292384 ^^^ (b / 2 ^^^ 3988292384) = a / 2 ^^^ b / 2 ^^^ (3988292384 ^^^ 3988292384) by ac_rfl, Nat.xor_self, Nat.xor_zero]
def tN : Nat → Nat → Nat
  | 0, r => r
  | n + 1, r => t1 (tN n r)
theorem tN_lt {r : Nat} (h : r < 2 ^ 32) : ∀ n, tN n r < 2 ^ 32
  | 0 => h
  | n + 1 => t1_lt (tN_lt h n)
theorem tN_xor (a b : Nat) : ∀ n, tN n (a ^^^ b) = tN n a ^^^ tN n b
  | 0 => rfl
  | n + 1 => by rw [tN, tN_xor a b n, t1_xor]; rfl
theorem tN_add (r m : Nat) : ∀ n, tN (m + n) r = tN n (tN m r)
  | 0 => rfl
  | n + 1 => by rw [← Nat.add_assoc, tN, tN_add r m n]; rfl
theorem t1_even (q : Nat) : t1 (2 * q) = q := by unfold t1; rw [if_neg (by omega)]; omega
/-- Four bits' steps are one step by the table. -/
theorem t4_s4 (r : Nat) : tN 4 r = s4 r := by
  have hsplit : r = (16 * (r / 16)) ^^^ (r % 16) := by
    have h := Nat.two_pow_add_eq_or_of_lt (i := 4) (b := r % 16) (by omega) (r / 16)
    have hx : (16 * (r / 16)) ^^^ (r % 16) = (16 * (r / 16)) ||| (r % 16) := by
      refine Nat.eq_of_testBit_eq fun i => ?_
      rw [Nat.testBit_xor, Nat.testBit_or]
      by_cases hi : i < 4
      · have : (16 * (r / 16)).testBit i = false := by
          rw [show 16 * (r / 16) = 2 ^ 4 * (r / 16) by omega, Nat.testBit_two_pow_mul]
          simp; omega
        rw [this]; simp
      · have : (r % 16).testBit i = false := Nat.testBit_lt_two_pow (Nat.lt_of_lt_of_le (show r % 16 < 2 ^ 4 by omega) (Nat.pow_le_pow_right (by decide) (by omega)))
        rw [this]; simp
    rw [hx, show 16 * (r / 16) = 2 ^ 4 * (r / 16) by omega, ← h]
    omega
  have hlow : ∀ i, i < 16 → tN 4 i = tab4.getD i 0 := by decide
  have hhigh : tN 4 (16 * (r / 16)) = r / 16 := by
    show t1 (t1 (t1 (t1 (16 * (r / 16))))) = r / 16
    rw [show 16 * (r / 16) = 2 * (2 * (2 * (2 * (r / 16)))) by omega, t1_even, t1_even, t1_even, t1_even]
  conv => lhs; rw [hsplit, tN_xor, hhigh, hlow _ (Nat.mod_lt _ (by decide))]
  rfl
theorem t8_sB (r c : Nat) : tN 8 (r ^^^ c) = sB r c := by
  rw [show (8 : Nat) = 4 + 4 from rfl, tN_add, t4_s4, t4_s4]
  rfl
theorem xor_half {r : Nat} (h : r < 2 ^ 32) : bits .xor .u32 ((r : Int) / 2) 3988292384 = ((r / 2 ^^^ 3988292384 : Nat) : Int) := by
  have := u32_xor_nat (r / 2) 3988292384 (by omega) (by decide)
  simpa using this
end Go.Proofs.YtbgknbjpbobebaaDoor
