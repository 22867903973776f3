/- turn, Claim, Give. -/
import Derived.Test.YtifmfnkpogconaaDoorSp
namespace Go.Proofs.YtifmfnkpogconaaDoor
open Go.RowKit

/-- The words with one bit turned over. -/
def flip (ws : List Nat) (a : Nat) : List Nat := ws.set (a / 64) ((ws.getD (a / 64) 0) ^^^ 2 ^ (a % 64))
theorem flip_len (ws : List Nat) (a : Nat) : (flip ws a).length = ws.length := by simp [flip]
theorem flip_bit {ws : List Nat} {a : Nat} (ha : a / 64 < ws.length) (i : Nat) : bitAt (flip ws a) i = if i = a then !(bitAt ws a) else bitAt ws i := by
  unfold bitAt flip
  by_cases hq : i / 64 = a / 64
  · rw [hq, List.getD_eq_getElem?_getD, List.getElem?_set_self ha, Option.getD_some, Nat.testBit_xor, Nat.testBit_two_pow]
    by_cases hi : i = a
    · subst hi
      rw [if_pos rfl]
      simp
    · rw [if_neg hi]
      have hne : ¬ (a % 64 = i % 64) := by omega
      simp [hne]
  · rw [if_neg (fun e => hq (by rw [e])), List.getD_eq_getElem?_getD, List.getElem?_set_ne (fun e => hq e.symm), List.getD_eq_getElem?_getD]
theorem xor_bit (x k : Nat) (hx : x < 18446744073709551616) (hk : k < 64) : bits .xor .u64 (x : Int) ((2 ^ k : Nat) : Int) = ((x ^^^ 2 ^ k : Nat) : Int) := by
  have hp : 2 ^ k < 18446744073709551616 := Nat.pow_lt_pow_right (by decide) hk
  exact bits_xor_u64_nat x (2 ^ k) hx hp
set_option maxHeartbeats 1000000 in
theorem turn_calls {w : World} {B g gw fr to_ : Nat} {ws : List Nat} (h : Sp w B g gw fr to_ ws) (a : Nat) (ha : a < to_ - fr) :
    Calls Tryd.prog 42 #[.pointer (some ⟨g, 0, none⟩), .int .i64 ((fr + a : Nat) : Int)] w fun e w' => (∃ r, e = .returned r) ∧ Sp w' B g gw fr to_ (flip ws a) ∧ w.grownBy w' (some gw) := by
  have HP := hide (place_calls h a ha)
  have hlen : a / 64 < ws.length := by have := h.len; omega
  have hx : ws.getD (a / 64) 0 < 18446744073709551616 := by
    rw [List.getD_eq_getElem?_getD, List.getElem?_eq_getElem hlen]
    exact h.wd _ (List.getElem_mem hlen)
  have hk := Nat.mod_lt a (show 0 < 64 by decide)
  have hxor := xor_bit (ws.getD (a / 64) 0) (a % 64) hx hk
  obtain ⟨y, hy⟩ : ∃ y, y = (ws.getD (a / 64) 0) ^^^ 2 ^ (a % 64) := ⟨_, rfl⟩
  have hy64 : y < 18446744073709551616 := by
    rw [hy]
    exact Nat.xor_lt_two_pow (n := 64) hx (Nat.pow_lt_pow_right (by decide) hk)
  have HV : Hid (∀ W, Below w.heap.size w W → ∃ c, W.cell? ⟨g, 2, none⟩ = some (.slice (some ⟨gw, 0, none⟩) ws.length c) ∧ ws.length ≤ c ∧ c ≤ 9223372036854775807 ∧ W.cell? ⟨gw, a / 64, none⟩ = some (.int .u64 ((ws.getD (a / 64) 0 : Nat) : Int)) ∧ W.frozen? ⟨gw, a / 64, none⟩ = false) := fun W hW => by
    obtain ⟨c, _, _, c2, h1, h2, _, hr, _, h3⟩ := (h.below hW).view
    exact ⟨c, c2, h1, h2, h3 (a / 64) hlen, hr.frozenAt _⟩
  have HE : Hid (∀ W, Below w.heap.size w W → Sp (W.setCell ⟨gw, a / 64, none⟩ (.int .u64 (y : Int))) B g gw fr to_ (flip ws a) ∧ w.grownBy (W.setCell ⟨gw, a / 64, none⟩ (.int .u64 (y : Int))) (some gw)) := fun W hW => by
    obtain ⟨c, _, _, _, _, _, hne, hr, hb, _⟩ := (h.below hW).view
    obtain ⟨s1, s2⟩ := hr.set (a / 64) (.int .u64 (y : Int))
    have e1 : (w64 ws).set (a / 64) (.int .u64 (y : Int)) = w64 (flip ws a) := by
      unfold w64 flip
      rw [List.map_set, hy]
    rw [e1] at s1
    have hb2 : (W.setCell ⟨gw, a / 64, none⟩ (.int .u64 (y : Int))).heap[g]? = some (.cells #[.int .i64 (fr : Int), .int .i64 (to_ : Int), .slice (some ⟨gw, 0, none⟩) ws.length c] 73 (0, 0)) := by
      rw [s2.block g (Array.getElem?_eq_some_iff.1 hb).1 (by simpa using hne)]; exact hb
    refine ⟨⟨⟨c, by rw [flip_len]; exact hb2, by rw [flip_len]; exact s1⟩, h.rng, by rw [flip_len]; exact h.len, fun x hx => ?_, fun i hi => ?_⟩, ?_⟩
    · rcases List.mem_or_eq_of_mem_set hx with hx | hx
      · exact h.wd x hx
      · rw [hx, ← hy]; exact hy64
    · rw [flip_bit hlen, if_neg (by omega)]
      exact h.top i hi
    · exact World.grownBy.trans ⟨hW.os, hW.tape, hW.output, hW.size, fun k hk _ => hW.block k hk⟩ s2
  obtain ⟨x, hxe⟩ : ∃ x, x = ws.getD (a / 64) 0 := ⟨_, rfl⟩
  obtain ⟨q, hq⟩ : ∃ q, q = a / 64 := ⟨_, rfl⟩
  obtain ⟨p, hp⟩ : ∃ p, p = 2 ^ (a % 64) := ⟨_, rfl⟩
  rw [← hy, ← hxe, ← hp] at hxor
  rw [← hxe, ← hq] at HV
  rw [← hq, ← hp] at HP
  rw [← hq] at hlen HE
  clear h hxe hq hp hx hy hk
  go_enter Tryd.func42, Tryd.ntmps42
  go_wp2_with fail
  refine (unhide HP).mono ?_
  rintro e w1 ⟨rfl, hb1⟩
  obtain ⟨c, c2, h1, h2, h3, h4⟩ := unhide HV w1 hb1
  go_wp2
  obtain ⟨E1, E2⟩ := unhide HE w1 hb1
  exact bodyPost_end (results_none rfl _ _ _) rfl ⟨⟨_, rfl⟩, E1, E2⟩
/-- What Claim leaves. -/
def claimW (fr to_ : Nat) (ws : List Nat) (n : Int) : List Nat := if hasB fr to_ ws n = true then flip ws (n - (fr : Int)).toNat else ws
set_option maxHeartbeats 1000000 in
theorem claim_calls {w : World} {B g gw fr to_ : Nat} {ws : List Nat} (h : Sp w B g gw fr to_ ws) (n : Int) :
    Calls Tryd.prog 20 #[.pointer (some ⟨g, 0, none⟩), .int .i64 n] w fun e w' => e = .returned (.bool (hasB fr to_ ws n)) ∧ Sp w' B g gw fr to_ (claimW fr to_ ws n) ∧ w.grownBy w' (some gw) := by
  have HH := hide (has_calls h n)
  unfold claimW
  cases hb : hasB fr to_ ws n with
  | false =>
    rw [hb] at HH
    have H := hide h
    clear h hb
    go_enter Tryd.func20, Tryd.ntmps20
    go_wp2_with fail
    refine (unhide HH).mono ?_
    rintro e w1 ⟨rfl, hb1⟩
    go_wp2
    go_ret
    exact ⟨rfl, by simpa using (unhide H).below hb1, ⟨hb1.os, hb1.tape, hb1.output, hb1.size, fun k hk _ => hb1.block k hk⟩⟩
  | true =>
    rw [hb] at HH
    have hn : (fr : Int) ≤ n ∧ n < (to_ : Int) := by
      unfold hasB at hb
      simp only [Bool.and_eq_true, decide_eq_true_eq] at hb
      exact hb.1
    obtain ⟨a, rfl⟩ : ∃ a : Nat, n = ((fr + a : Nat) : Int) := ⟨(n - fr).toNat, by omega⟩
    rw [show (((fr + a : Nat) : Int) - (fr : Int)).toNat = a by omega]
    have HT : Hid (∀ W, Below w.heap.size w W → Calls Tryd.prog 42 #[.pointer (some ⟨g, 0, none⟩), .int .i64 ((fr + a : Nat) : Int)] W fun e w' => (∃ r, e = .returned r) ∧ Sp w' B g gw fr to_ (flip ws a) ∧ W.grownBy w' (some gw)) := fun W hW => turn_calls (h.below hW) a (by omega)
    clear h hb hn
    go_enter Tryd.func20, Tryd.ntmps20
    go_wp2_with fail
    refine (unhide HH).mono ?_
    rintro e w1 ⟨rfl, hb1⟩
    go_wp2_with fail
    refine (unhide HT w1 hb1).mono ?_
    rintro e w2 ⟨⟨r, rfl⟩, hs2, hg2⟩
    go_wp2
    go_ret
    exact ⟨rfl, by simpa using hs2, World.grownBy.trans ⟨hb1.os, hb1.tape, hb1.output, hb1.size, fun k hk _ => hb1.block k hk⟩ hg2⟩
end Go.Proofs.YtifmfnkpogconaaDoor
