/- 17.10, in plain numbers: a record with one bit turned over is none. -/
import Derived.Test.YthhjlopgpmaokabDoorTell
import Derived.Test.YthhjlopgpmaokabDoorKB
import Derived.Test.YthhjlopgpmaokabDoorKD
namespace Go.Proofs.YthhjlopgpmaokabDoor
open Go.RowKit

theorem jtN8_up (m : Nat) : tN 8 (256 * m) = m := by
  show t1 (t1 (t1 (t1 (t1 (t1 (t1 (t1 (256 * m)))))))) = m
  rw [show 256 * m = 2 * (2 * (2 * (2 * (2 * (2 * (2 * (2 * m))))))) by omega]
  simp only [t1_even]
theorem jbyte_xor (v : Nat) : v % 256 ^^^ 256 * (v / 256) = v := by
  refine Nat.eq_of_testBit_eq fun i => ?_
  rw [Nat.testBit_xor, show 256 = 2 ^ 8 from rfl, Nat.testBit_mod_two_pow, Nat.testBit_two_pow_mul, Nat.testBit_div_two_pow]
  by_cases h : i < 8
  · have h2 : ¬ 8 ≤ i := by omega
    simp [h, h2]
  · have h2 : 8 ≤ i := by omega
    simp [h, h2, show i - 8 + 8 = i by omega]
theorem jcrc_num : ∀ (n s v : Nat), v < 2 ^ (8 * n) → crcN s (fB (v : Int) n) = tN (8 * n) (s ^^^ v)
  | 0, s, v, h => by
    have h0 : v = 0 := by simpa using h
    subst h0
    show s = s ^^^ 0
    rw [Nat.xor_zero]
  | n + 1, s, v, h => by
    have e1 : (v : Int) % 256 = ((v % 256 : Nat) : Int) := by omega
    have e2 : (v : Int) / 256 = ((v / 256 : Nat) : Int) := by omega
    rw [jfB_succ, e1, e2]
    show crcN (sB s (((v % 256 : Nat) : Int)).toNat) (fB ((v / 256 : Nat) : Int) n) = _
    have hv : v / 256 < 2 ^ (8 * n) := by
      rw [show 8 * (n + 1) = 8 * n + 8 by omega, Nat.pow_add] at h
      omega
    rw [Int.toNat_natCast, jcrc_num n _ _ hv, ← t8_sB, show tN 8 (s ^^^ v % 256) ^^^ v / 256 = tN 8 (s ^^^ v % 256) ^^^ tN 8 (256 * (v / 256)) by rw [jtN8_up], ← tN_xor, Nat.xor_assoc, jbyte_xor, ← tN_add, show 8 + 8 * n = 8 * (n + 1) by omega]
/-- The sum over a whole record is one number. -/
theorem enc_res {r : JR} (h : r.Ok) (hl : r.rs.length ≤ 8) : crcN 4294967295 (encL r) = tN 32 4294967295 := by
  unfold encL
  rw [crcN_append]
  have hlt : crcN 4294967295 (encB r) < 2 ^ 32 := crcN_lt (by decide) (encB_by h hl)
  have e : sumOf [encB r] = ((4294967295 ^^^ crcN 4294967295 (encB r) : Nat) : Int) := rfl
  rw [e, jcrc_num 4 _ _ (by show _ < 2 ^ 32; exact Nat.xor_lt_two_pow (by decide) hlt), Nat.xor_comm 4294967295, ← Nat.xor_assoc, Nat.xor_self, Nat.zero_xor]
theorem jcrc_turnB {s : List Int} {a : Nat} (h : a < 8 * s.length) (r : Nat) : crcN r (turnB s a) = crcN r s ^^^ tN (8 * s.length - a) 1 := by
  have h1 := crc_flip s r (a / 8) (a % 8) (by omega) (by omega)
  rw [show 8 * (s.length - a / 8) - a % 8 = 8 * s.length - a by omega] at h1
  exact h1
theorem dec_res {b : List Int} {r : JR} (hb : By8 b) (h : decO b = some r) : crcN 4294967295 b = tN 32 4294967295 := by
  obtain ⟨h1, h2, h3, h4⟩ := dec_some h
  rw [← h4]
  exact enc_res (dec_ok hb h) (encE_ok h3).2.2.2.1
/-- One bit turned over makes it no record. -/
theorem turn_none {b : List Int} {r : JR} (hb : By8 b) (h : decO b = some r) {a : Nat} (ha : a < 4096) : decO (turnB b a) = none := by
  have hl := (dec_some h).1
  cases hd : decO (turnB b a) with
  | none => rfl
  | some r2 =>
    have hs : IsSec (turnB b a) := turnB_is ⟨hl, hb⟩ ha
    have e1 := dec_res hb h
    have e2 := dec_res hs.2 hd
    rw [jcrc_turnB (by rw [hl]; omega), e1] at e2
    have e3 : tN (8 * b.length - a) 1 = 0 := by
      have := congrArg (fun z => tN 32 4294967295 ^^^ z) e2
      simp only [← Nat.xor_assoc, Nat.xor_self, Nat.zero_xor] at this
      exact this
    have := tN_zero (by decide) _ e3
    omega
end Go.Proofs.YthhjlopgpmaokabDoor
