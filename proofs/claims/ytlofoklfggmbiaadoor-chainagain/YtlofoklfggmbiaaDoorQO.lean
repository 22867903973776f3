/- How many bits are set: the reckoning behind math/bits.OnesCount64, in fields. Of no program. -/
import Derived.Test.YtlofoklfggmbiaaDoorQA
namespace Go.Proofs.YtlofoklfggmbiaaDoor
open Go.RowKit

/-- The set bits among the lowest n. -/
def pc : Nat → Nat → Nat
 | 0, _ => 0
 | n + 1, x => x % 2 + pc n (x / 2)
theorem pc_le : ∀ (n x : Nat), pc n x ≤ n
 | 0, _ => Nat.le_refl _
 | n + 1, x => by have := pc_le n (x / 2); simp only [pc]; omega
theorem pc_add : ∀ (m n x : Nat), pc (m + n) x = pc m x + pc n (x / 2 ^ m)
 | 0, n, x => by simp [pc]
 | m + 1, n, x => by
   have e : m + 1 + n = m + n + 1 := by omega
   rw [e]
   simp only [pc]
   rw [pc_add m n, Nat.div_div_eq_div_mul, Nat.pow_succ, Nat.mul_comm 2, Nat.add_assoc]
/-- The fields' counts, b bits a field, n of them. -/
def fld (b : Nat) : Nat → Nat → Nat
 | 0, _ => 0
 | n + 1, x => pc b x + 2 ^ b * fld b n (x / 2 ^ b)
/-- The mask: of each two fields of w bits the lower one. -/
def mskF (w : Nat) : Nat → Nat
 | 0 => 0
 | n + 1 => (2 ^ w - 1) + 2 ^ (2 * w) * mskF w n
theorem two_lt : ∀ (n : Nat), n < 2 ^ n
 | 0 => by decide
 | n + 1 => by have := two_lt n; rw [Nat.pow_succ]; omega
theorem and_parts (k x y : Nat) : x &&& y = 2 ^ k * ((x / 2 ^ k) &&& (y / 2 ^ k)) + ((x % 2 ^ k) &&& (y % 2 ^ k)) := by
 rw [← Nat.and_div_two_pow, ← Nat.and_mod_two_pow, Nat.div_add_mod]
theorem dbl (w : Nat) : 2 ^ (2 * w) = 2 ^ w * 2 ^ w := by rw [← Nat.pow_add]; congr 1; omega
theorem msk_mod (w n : Nat) : mskF w (n + 1) % 2 ^ (2 * w) = 2 ^ w - 1 := by
 have h : 2 ^ w - 1 < 2 ^ (2 * w) := by rw [dbl]; have := Nat.two_pow_pos w; have := Nat.le_mul_of_pos_right (2 ^ w) this; omega
 simp only [mskF]
 rw [Nat.add_mul_mod_self_left, Nat.mod_eq_of_lt h]
theorem msk_div (w n : Nat) : mskF w (n + 1) / 2 ^ (2 * w) = mskF w n := by
 have h : 2 ^ w - 1 < 2 ^ (2 * w) := by rw [dbl]; have := Nat.two_pow_pos w; have := Nat.le_mul_of_pos_right (2 ^ w) this; omega
 simp only [mskF]
 rw [Nat.add_mul_div_left _ _ (Nat.two_pow_pos _), Nat.div_eq_of_lt h, Nat.zero_add]
theorem and_msk (w n x : Nat) : x &&& mskF w (n + 1) = 2 ^ (2 * w) * ((x / 2 ^ (2 * w)) &&& mskF w n) + x % 2 ^ w := by
 rw [and_parts (2 * w) x, msk_mod, msk_div, Nat.and_two_pow_sub_one_eq_mod]
 congr 1
 rw [dbl]
 exact Nat.mod_mul_right_mod x (2 ^ w) (2 ^ w)
theorem fld_le (b : Nat) : ∀ (n x : Nat), fld b n x < 2 ^ (b * n)
 | 0, _ => by simp [fld]
 | n + 1, x => by
   have h1 := fld_le b n (x / 2 ^ b)
   have h2 := pc_le b x
   have h3 := two_lt b
   simp only [fld]
   have e : 2 ^ (b * (n + 1)) = 2 ^ b * 2 ^ (b * n) := by rw [← Nat.pow_add]; congr 1; rw [Nat.mul_add]; omega
   rw [e]
   have h4 : 2 ^ b * (fld b n (x / 2 ^ b) + 1) ≤ 2 ^ b * 2 ^ (b * n) := Nat.mul_le_mul_left _ h1
   rw [Nat.mul_add, Nat.mul_one] at h4
   omega
/-- Of two fields of w bits one of twice as many. -/
theorem fld_two (w n x : Nat) : fld w (2 * (n + 1)) x = pc w x + 2 ^ w * (pc w (x / 2 ^ w) + 2 ^ w * fld w (2 * n) (x / 2 ^ (2 * w))) := by
 have e : 2 * (n + 1) = 2 * n + 1 + 1 := by omega
 rw [e]
 simp only [fld]
 rw [Nat.div_div_eq_div_mul, ← dbl]
theorem fld_parts {w l h r : Nat} (hl : l < 2 ^ w) (hh : h < 2 ^ w) : (l + 2 ^ w * (h + 2 ^ w * r)) % 2 ^ w = l ∧ (l + 2 ^ w * (h + 2 ^ w * r)) / 2 ^ w % 2 ^ w = h ∧ (l + 2 ^ w * (h + 2 ^ w * r)) / 2 ^ (2 * w) = r := by
 have p := Nat.two_pow_pos w
 refine ⟨by rw [Nat.add_mul_mod_self_left, Nat.mod_eq_of_lt hl], ?_, ?_⟩
 · rw [Nat.add_mul_div_left _ _ p, Nat.div_eq_of_lt hl, Nat.zero_add, Nat.add_mul_mod_self_left, Nat.mod_eq_of_lt hh]
 · rw [dbl, ← Nat.div_div_eq_div_mul, Nat.add_mul_div_left _ _ p, Nat.div_eq_of_lt hl, Nat.zero_add, Nat.add_mul_div_left _ _ p, Nat.div_eq_of_lt hh, Nat.zero_add]
/-- The sum of the masked halves. -/
theorem swar (w : Nat) : ∀ (n x : Nat), ((fld w (2 * n) x / 2 ^ w) &&& mskF w n) + (fld w (2 * n) x &&& mskF w n) = fld (2 * w) n x
 | 0, x => by simp [fld, mskF]
 | n + 1, x => by
   have hl := Nat.lt_of_le_of_lt (pc_le w x) (two_lt w)
   have hh := Nat.lt_of_le_of_lt (pc_le w (x / 2 ^ w)) (two_lt w)
   obtain ⟨q1, q2, q3⟩ := fld_parts (r := fld w (2 * n) (x / 2 ^ (2 * w))) hl hh
   rw [fld_two, and_msk, and_msk, q1, q2, q3, Nat.div_div_eq_div_mul, Nat.mul_comm (2 ^ w) (2 ^ (2 * w)), ← Nat.div_div_eq_div_mul, q3]
   have ih := swar w n (x / 2 ^ (2 * w))
   simp only [fld]
   rw [← ih, Nat.two_mul w, pc_add, Nat.mul_add]
   omega
theorem fld_low (w : Nat) : ∀ (n x : Nat), fld w n x % 2 ^ w ≤ w
 | 0, x => by simp [fld]
 | n + 1, x => by
   have h := pc_le w x
   simp only [fld]
   rw [Nat.add_mul_mod_self_left, Nat.mod_eq_of_lt (Nat.lt_of_le_of_lt h (two_lt w))]
   exact h
/-- The masked sum, where no field can overflow. -/
theorem swarT (w : Nat) (hw : 2 * w < 2 ^ w) : ∀ (n x : Nat), (fld w (2 * n) x / 2 ^ w + fld w (2 * n) x) &&& mskF w n = fld (2 * w) n x
 | 0, x => by simp [fld, mskF]
 | n + 1, x => by
   have p := Nat.two_pow_pos w
   have hl := pc_le w x
   have hh := pc_le w (x / 2 ^ w)
   have hr := fld_low w (2 * n) (x / 2 ^ (2 * w))
   have ih := swarT w hw n (x / 2 ^ (2 * w))
   rw [fld_two]
   generalize fld w (2 * n) (x / 2 ^ (2 * w)) = r at *
   have e1 : (pc w x + 2 ^ w * (pc w (x / 2 ^ w) + 2 ^ w * r)) / 2 ^ w = pc w (x / 2 ^ w) + 2 ^ w * r := by
    rw [Nat.add_mul_div_left _ _ p, Nat.div_eq_of_lt (by omega), Nat.zero_add]
   have e2 : (pc w x + 2 ^ w * (pc w (x / 2 ^ w) + 2 ^ w * r)) / 2 ^ w + (pc w x + 2 ^ w * (pc w (x / 2 ^ w) + 2 ^ w * r)) = (pc w x + pc w (x / 2 ^ w)) + 2 ^ w * (pc w (x / 2 ^ w) + r + 2 ^ w * r) := by
    rw [e1, Nat.mul_add, Nat.mul_add, Nat.mul_add]
    omega
   have e3 : ((pc w x + pc w (x / 2 ^ w)) + 2 ^ w * (pc w (x / 2 ^ w) + r + 2 ^ w * r)) % 2 ^ w = pc w x + pc w (x / 2 ^ w) := by
    rw [Nat.add_mul_mod_self_left, Nat.mod_eq_of_lt (by omega)]
   have e4 : ((pc w x + pc w (x / 2 ^ w)) + 2 ^ w * (pc w (x / 2 ^ w) + r + 2 ^ w * r)) / 2 ^ (2 * w) = r / 2 ^ w + r := by
    rw [dbl, ← Nat.div_div_eq_div_mul, Nat.add_mul_div_left _ _ p, Nat.div_eq_of_lt (show pc w x + pc w (x / 2 ^ w) < 2 ^ w by omega), Nat.zero_add, Nat.add_mul_div_left _ _ p]
    have e5 : (pc w (x / 2 ^ w) + r) / 2 ^ w = r / 2 ^ w := by
     have e6 : pc w (x / 2 ^ w) + r = (pc w (x / 2 ^ w) + r % 2 ^ w) + 2 ^ w * (r / 2 ^ w) := by
      have := Nat.div_add_mod r (2 ^ w); omega
     rw [e6, Nat.add_mul_div_left _ _ p, Nat.div_eq_of_lt (by omega), Nat.zero_add]
    rw [e5]
   rw [e2, and_msk, e3, e4, ih]
   simp only [fld]
   rw [Nat.two_mul w, pc_add]
   omega
theorem fld_one : ∀ (n x : Nat), x < 2 ^ n → fld 1 n x = x
 | 0, x, h => by simp at h; subst h; rfl
 | n + 1, x, h => by
   simp only [fld, pc]
   rw [fld_one n (x / 2 ^ 1) (by rw [Nat.pow_succ] at h; omega)]
   omega
/-- The last three steps, over eight fields of eight bits. -/
theorem pop_last {a : Nat} {x : Nat} (ha : a = fld 8 8 x) :
 ((((a + a / 256) % 18446744073709551616 + (a + a / 256) % 18446744073709551616 / 65536) % 18446744073709551616 + ((a + a / 256) % 18446744073709551616 + (a + a / 256) % 18446744073709551616 / 65536) % 18446744073709551616 / 4294967296) % 18446744073709551616) % 128 = pc 64 x := by
 have e : pc 64 x = pc 8 x + (pc 8 (x / 2 ^ 8) + (pc 8 (x / 2 ^ 8 / 2 ^ 8) + (pc 8 (x / 2 ^ 8 / 2 ^ 8 / 2 ^ 8) + (pc 8 (x / 2 ^ 8 / 2 ^ 8 / 2 ^ 8 / 2 ^ 8) + (pc 8 (x / 2 ^ 8 / 2 ^ 8 / 2 ^ 8 / 2 ^ 8 / 2 ^ 8) + (pc 8 (x / 2 ^ 8 / 2 ^ 8 / 2 ^ 8 / 2 ^ 8 / 2 ^ 8 / 2 ^ 8) + pc 8 (x / 2 ^ 8 / 2 ^ 8 / 2 ^ 8 / 2 ^ 8 / 2 ^ 8 / 2 ^ 8 / 2 ^ 8))))))) := by
  rw [show (64 : Nat) = 8 + (8 + (8 + (8 + (8 + (8 + (8 + 8)))))) from rfl]
  simp only [pc_add]
 simp only [fld] at ha
 rw [e]
 have h0 := pc_le 8 x
 have h1 := pc_le 8 (x / 2 ^ 8)
 have h2 := pc_le 8 (x / 2 ^ 8 / 2 ^ 8)
 have h3 := pc_le 8 (x / 2 ^ 8 / 2 ^ 8 / 2 ^ 8)
 have h4 := pc_le 8 (x / 2 ^ 8 / 2 ^ 8 / 2 ^ 8 / 2 ^ 8)
 have h5 := pc_le 8 (x / 2 ^ 8 / 2 ^ 8 / 2 ^ 8 / 2 ^ 8 / 2 ^ 8)
 have h6 := pc_le 8 (x / 2 ^ 8 / 2 ^ 8 / 2 ^ 8 / 2 ^ 8 / 2 ^ 8 / 2 ^ 8)
 have h7 := pc_le 8 (x / 2 ^ 8 / 2 ^ 8 / 2 ^ 8 / 2 ^ 8 / 2 ^ 8 / 2 ^ 8 / 2 ^ 8)
 generalize pc 8 x = f0 at *
 generalize pc 8 (x / 2 ^ 8) = f1 at *
 generalize pc 8 (x / 2 ^ 8 / 2 ^ 8) = f2 at *
 generalize pc 8 (x / 2 ^ 8 / 2 ^ 8 / 2 ^ 8) = f3 at *
 generalize pc 8 (x / 2 ^ 8 / 2 ^ 8 / 2 ^ 8 / 2 ^ 8) = f4 at *
 generalize pc 8 (x / 2 ^ 8 / 2 ^ 8 / 2 ^ 8 / 2 ^ 8 / 2 ^ 8) = f5 at *
 generalize pc 8 (x / 2 ^ 8 / 2 ^ 8 / 2 ^ 8 / 2 ^ 8 / 2 ^ 8 / 2 ^ 8) = f6 at *
 generalize pc 8 (x / 2 ^ 8 / 2 ^ 8 / 2 ^ 8 / 2 ^ 8 / 2 ^ 8 / 2 ^ 8 / 2 ^ 8) = f7 at *
 clear e
 have a0 : a = f0 + 256 * f1 + 65536 * f2 + 16777216 * f3 + 4294967296 * f4 + 1099511627776 * f5 + 281474976710656 * f6 + 72057594037927936 * f7 := by omega
 clear ha
 have dv : ∀ (k r q : Nat), 0 < k → r < k → (r + k * q) / k = q := fun k r q hk hr => by rw [Nat.add_mul_div_left _ _ hk, Nat.div_eq_of_lt hr, Nat.zero_add]
 have q1 : a / 256 = f1 + 256 * f2 + 65536 * f3 + 16777216 * f4 + 4294967296 * f5 + 1099511627776 * f6 + 281474976710656 * f7 := by
  rw [show a = f0 + 256 * (f1 + 256 * f2 + 65536 * f3 + 16777216 * f4 + 4294967296 * f5 + 1099511627776 * f6 + 281474976710656 * f7) by omega]
  exact dv _ _ _ (by decide) (by omega)
 have a1 : (a + a / 256) % 18446744073709551616 = (f0 + f1) + 256 * (f1 + f2) + 65536 * (f2 + f3) + 16777216 * (f3 + f4) + 4294967296 * (f4 + f5) + 1099511627776 * (f5 + f6) + 281474976710656 * (f6 + f7) + 72057594037927936 * f7 := by
  rw [q1, Nat.mod_eq_of_lt (by omega)]; omega
 rw [a1]
 clear a1 a0 q1
 generalize hb : (f0 + f1) + 256 * (f1 + f2) + 65536 * (f2 + f3) + 16777216 * (f3 + f4) + 4294967296 * (f4 + f5) + 1099511627776 * (f5 + f6) + 281474976710656 * (f6 + f7) + 72057594037927936 * f7 = b
 have q2 : b / 65536 = (f2 + f3) + 256 * (f3 + f4) + 65536 * (f4 + f5) + 16777216 * (f5 + f6) + 4294967296 * (f6 + f7) + 1099511627776 * f7 := by
  rw [show b = ((f0 + f1) + 256 * (f1 + f2)) + 65536 * ((f2 + f3) + 256 * (f3 + f4) + 65536 * (f4 + f5) + 16777216 * (f5 + f6) + 4294967296 * (f6 + f7) + 1099511627776 * f7) by omega]
  exact dv _ _ _ (by decide) (by omega)
 have a2 : (b + b / 65536) % 18446744073709551616 = (f0 + f1 + f2 + f3) + 256 * (f1 + f2 + f3 + f4) + 65536 * (f2 + f3 + f4 + f5) + 16777216 * (f3 + f4 + f5 + f6) + 4294967296 * (f4 + f5 + f6 + f7) + 1099511627776 * (f5 + f6 + f7) + 281474976710656 * (f6 + f7) + 72057594037927936 * f7 := by
  rw [q2, Nat.mod_eq_of_lt (by omega)]; omega
 rw [a2]
 clear a2 q2 hb
 generalize hc : (f0 + f1 + f2 + f3) + 256 * (f1 + f2 + f3 + f4) + 65536 * (f2 + f3 + f4 + f5) + 16777216 * (f3 + f4 + f5 + f6) + 4294967296 * (f4 + f5 + f6 + f7) + 1099511627776 * (f5 + f6 + f7) + 281474976710656 * (f6 + f7) + 72057594037927936 * f7 = c
 have q3 : c / 4294967296 = (f4 + f5 + f6 + f7) + 256 * (f5 + f6 + f7) + 65536 * (f6 + f7) + 16777216 * f7 := by
  rw [show c = ((f0 + f1 + f2 + f3) + 256 * (f1 + f2 + f3 + f4) + 65536 * (f2 + f3 + f4 + f5) + 16777216 * (f3 + f4 + f5 + f6)) + 4294967296 * ((f4 + f5 + f6 + f7) + 256 * (f5 + f6 + f7) + 65536 * (f6 + f7) + 16777216 * f7) by omega]
  exact dv _ _ _ (by decide) (by omega)
 have q4 : c + ((f4 + f5 + f6 + f7) + 256 * (f5 + f6 + f7) + 65536 * (f6 + f7) + 16777216 * f7) = (f0 + (f1 + (f2 + (f3 + (f4 + (f5 + (f6 + f7))))))) + 128 * (2 * ((f1 + f2 + f3 + f4 + f5 + f6 + f7) + 256 * (f2 + f3 + f4 + f5 + f6 + f7) + 65536 * (f3 + f4 + f5 + f6 + f7) + 16777216 * (f4 + f5 + f6 + f7) + 4294967296 * (f5 + f6 + f7) + 1099511627776 * (f6 + f7) + 281474976710656 * f7)) := by omega
 have q5 : c + ((f4 + f5 + f6 + f7) + 256 * (f5 + f6 + f7) + 65536 * (f6 + f7) + 16777216 * f7) < 18446744073709551616 := by clear q4 q3; omega
 rw [q3, Nat.mod_eq_of_lt q5, q4, Nat.add_mul_mod_self_left, Nat.mod_eq_of_lt (by clear q3 q4 q5 hc; omega)]
/-- math/bits.OnesCount64's reckoning. -/
theorem pop_steps {x : Nat} (hx : x < 18446744073709551616) :
 (x / 2 &&& 6148914691236517205) + (x &&& 6148914691236517205) = fld 2 32 x ∧
 (fld 2 32 x / 4 &&& 3689348814741910323) + (fld 2 32 x &&& 3689348814741910323) = fld 4 16 x ∧
 (fld 4 16 x / 16 + fld 4 16 x) &&& 1085102592571150095 = fld 8 8 x := by
 have m1 : mskF 1 32 = 6148914691236517205 := by decide +kernel
 have m2 : mskF 2 16 = 3689348814741910323 := by decide +kernel
 have m4 : mskF 4 8 = 1085102592571150095 := by decide +kernel
 have s1 := swar 1 32 x
 have s2 := swar 2 16 x
 have s4 := swarT 4 (by decide) 8 x
 rw [fld_one 64 x hx, m1] at s1
 rw [m2] at s2
 rw [m4] at s4
 exact ⟨s1, s2, s4⟩
theorem fld4_top (x : Nat) : fld 4 16 x ≤ 4919131752989213764 := by
 have key : ∀ (n : Nat) (y : Nat), fld 4 n y * 15 ≤ 4 * (16 ^ n - 1) := by
  intro n
  induction n with
  | zero => intro y; simp [fld]
  | succ n ih =>
    intro y
    have h1 := ih (y / 2 ^ 4)
    have h2 := pc_le 4 y
    have h3 : 1 ≤ 16 ^ n := Nat.pow_pos (by decide)
    have e : fld 4 (n + 1) y = pc 4 y + 16 * fld 4 n (y / 2 ^ 4) := rfl
    rw [e, Nat.pow_succ]
    generalize fld 4 n (y / 2 ^ 4) = a at *
    omega
 have := key 16 x
 omega
theorem fld2_lt (x : Nat) : fld 2 32 x < 18446744073709551616 := fld_le 2 32 x
theorem fld4_lt (x : Nat) : fld 4 16 x < 18446744073709551616 := fld_le 4 16 x
theorem fld8_lt (x : Nat) : fld 8 8 x < 18446744073709551616 := fld_le 8 8 x
end Go.Proofs.YtlofoklfggmbiaaDoor
