/- 18.5, in plain numbers: a slot with one bit turned over is none. -/
import Derived.Test.YtbgknbjpbobebaaDoorJrT
import Derived.Test.YtbgknbjpbobebaaDoorRtP
namespace Go.Proofs.YtbgknbjpbobebaaDoor
open Go.RowKit

theorem sl_res {s : SL} (h : s.Ok) : crcN 4294967295 (slL s) = tN 32 4294967295 := by
  unfold slL
  rw [crcN_append]
  have hlt : crcN 4294967295 (slB s) < 2 ^ 32 := crcN_lt (by decide) (slB_by h)
  have e : sumOf [slB s] = ((4294967295 ^^^ crcN 4294967295 (slB s) : Nat) : Int) := rfl
  rw [e, jcrc_num 4 _ _ (by show _ < 2 ^ 32; exact Nat.xor_lt_two_pow (by decide) hlt), Nat.xor_comm 4294967295, ← Nat.xor_assoc, Nat.xor_self, Nat.zero_xor]
theorem decS_res {b : List Int} {s : SL} (hb : By8 b) (h : decS b = some s) : crcN 4294967295 b = tN 32 4294967295 := by
  rw [← (decS_some h).2.2.2]
  exact sl_res (decS_ok hb h)
/-- One bit turned over makes it no slot. -/
theorem turn_noneS {b : List Int} {s : SL} (hb : By8 b) (h : decS b = some s) {a : Nat} (ha : a < 4096) : decS (turnB b a) = none := by
  have hl := (decS_some h).1
  cases hd : decS (turnB b a) with
  | none => rfl
  | some r2 =>
    have hs : IsSec (turnB b a) := turnB_is ⟨hl, hb⟩ ha
    have e1 := decS_res hb h
    have e2 := decS_res hs.2 hd
    rw [jcrc_turnB (by rw [hl]; omega), e1] at e2
    have e3 : tN (8 * b.length - a) 1 = 0 := by
      have := congrArg (fun z => tN 32 4294967295 ^^^ z) e2
      simp only [← Nat.xor_assoc, Nat.xor_self, Nat.zero_xor] at this
      exact this
    have := tN_zero (by decide) _ e3
    omega
end Go.Proofs.YtbgknbjpbobebaaDoor
