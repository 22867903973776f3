/- What the document's SumAll answers: bit by bit, as wire's Sum by its table. What the document's SumAll answers. -/
import Derived.Test.YtmgjjopngebecaaDoorZQC
namespace Go.Proofs.YtmgjjopngebecaaDoor
open Go.RowKit

/-- One bit's step of the register. -/
def t1 (r : Nat) : Nat := if r % 2 = 1 then r / 2 ^^^ 3988292384 else r / 2
theorem t1_lt {r : Nat} (h : r < 2 ^ 32) : t1 r < 2 ^ 32 := by
  unfold t1
  split
  · exact Nat.xor_lt_two_pow (by omega) (by decide)
  · omega
theorem t1_xor (a b : Nat) : t1 (a ^^^ b) = t1 a ^^^ t1 b := by
  have h1 : (a ^^^ b) / 2 = a / 2 ^^^ b / 2 := Nat.xor_div_two_pow (n := 1)
  have h2 : (a ^^^ b) % 2 = a % 2 ^^^ b % 2 := Nat.xor_mod_two_pow (n := 1)
  unfold t1
  rw [h1, h2]
  rcases Nat.mod_two_eq_zero_or_one a with ha | ha <;> rcases Nat.mod_two_eq_zero_or_one b with hb | hb <;> simp only [ha, hb]
  · rfl
  · show a / 2 ^^^ b / 2 ^^^ 3988292384 = a / 2 ^^^ (b / 2 ^^^ 3988292384)
    ac_rfl
  · show a / 2 ^^^ b / 2 ^^^ 3988292384 = a / 2 ^^^ 3988292384 ^^^ b / 2
    ac_rfl
  · show a / 2 ^^^ b / 2 = a / 2 ^^^ 3988292384 ^^^ (b / 2 ^^^ 3988292384)
    rw [show a / 2 ^^^ 3988292384 ^^^ (b / 2 ^^^ 3988292384) = a / 2 ^^^ b / 2 ^^^ (3988292384 ^^^ 3988292384) by ac_rfl, Nat.xor_self, Nat.xor_zero]
def tN : Nat → Nat → Nat
  | 0, r => r
  | n + 1, r => t1 (tN n r)
theorem tN_lt {r : Nat} (h : r < 2 ^ 32) : ∀ n, tN n r < 2 ^ 32
  | 0 => h
  | n + 1 => t1_lt (tN_lt h n)
theorem tN_xor (a b : Nat) : ∀ n, tN n (a ^^^ b) = tN n a ^^^ tN n b
  | 0 => rfl
  | n + 1 => by rw [tN, tN_xor a b n, t1_xor]; rfl
theorem tN_add (r m : Nat) : ∀ n, tN (m + n) r = tN n (tN m r)
  | 0 => rfl
  | n + 1 => by rw [← Nat.add_assoc, tN, tN_add r m n]; rfl
theorem t1_even (q : Nat) : t1 (2 * q) = q := by unfold t1; rw [if_neg (by omega)]; omega
theorem xor_half {r : Nat} (h : r < 2 ^ 32) : bits .xor .u32 ((r : Int) / 2) 3988292384 = ((r / 2 ^^^ 3988292384 : Nat) : Int) := by
  have := u32_xor_nat (r / 2) 3988292384 (by omega) (by decide)
  simpa using this
end Go.Proofs.YtmgjjopngebecaaDoor

namespace Go.Proofs.YtmgjjopngebecaaDoor
open Go.RowKit

theorem u32_half {r : Nat} (h : r < 2 ^ 32) : (r : Int) / 2 % 4294967296 = ((r / 2 : Nat) : Int) := by omega
theorem xor_odd {r : Nat} (h : r < 2 ^ 32) (ho : r % 2 = 1) : bits .xor .u32 ((r / 2 : Nat) : Int) 3988292384 = ((t1 r : Nat) : Int) := by
  have := u32_xor_nat (r / 2) 3988292384 (by omega) (by decide)
  unfold t1
  rw [if_pos ho]
  exact this
theorem half_even {r : Nat} (ho : ¬ r % 2 = 1) : r / 2 = t1 r := by unfold t1; rw [if_neg ho]

end Go.Proofs.YtmgjjopngebecaaDoor
