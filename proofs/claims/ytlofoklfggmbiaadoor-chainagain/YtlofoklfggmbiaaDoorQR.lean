/- A space in memory; outside, place, Has. turn, Claim, Give. Give, Free, lowest. -/
import Derived.Test.YtlofoklfggmbiaaDoorQP
import Derived.Test.YtlofoklfggmbiaaDoorQC
import Derived.Laws.ShiftsVarLaws
import Derived.Deep.RegionHeld3
namespace Go.Proofs.YtlofoklfggmbiaaDoor
open Go.RowKit

/-- The bit of a number, counted from the first one on. -/
def bitAt (ws : List Nat) (i : Nat) : Bool := (ws.getD (i / 64) 0).testBit (i % 64)
def w64 (ws : List Nat) : List Value := ws.map fun n : Nat => Value.int .u64 (n : Int)
/-- A space in memory. -/
structure Sp (w : World) (B g gw fr to_ : Nat) (ws : List Nat) : Prop where
 blk : ∃ c, w.heap[g]? = some (.cells #[.int .i64 (fr : Int), .int .i64 (to_ : Int), .slice (some ⟨gw, 0, none⟩) ws.length c] 109 (0, 0)) ∧ Row w B 110 (.slice (some ⟨gw, 0, none⟩) ws.length c) (w64 ws)
 rng : fr < to_ ∧ to_ ≤ 65536
 len : ws.length = (to_ - fr + 63) / 64
 wd : ∀ x ∈ ws, x < 18446744073709551616
 top : ∀ i, to_ - fr ≤ i → bitAt ws i = false
theorem Sp.below {w w' : World} {B g gw fr to_ : Nat} {ws : List Nat} (h : Sp w B g gw fr to_ ws) (hb : Below w.heap.size w w') : Sp w' B g gw fr to_ ws := by
 obtain ⟨vw, h1, h2⟩ := h.blk
 exact ⟨⟨vw, by rw [hb.block g (Array.getElem?_eq_some_iff.1 h1).1]; exact h1, h2.out (Out.of_below (B := 0) (S := 0) hb) fun _ _ => Or.inr (Nat.zero_le _)⟩, h.rng, h.len, h.wd, h.top⟩
/-- What the walk reads of it. -/
theorem Sp.view {w : World} {B g gw fr to_ : Nat} {ws : List Nat} (h : Sp w B g gw fr to_ ws) : ∃ c, w.cell? ⟨g, 0, none⟩ = some (.int .i64 (fr : Int)) ∧ w.cell? ⟨g, 1, none⟩ = some (.int .i64 (to_ : Int)) ∧ w.cell? ⟨g, 2, none⟩ = some (.slice (some ⟨gw, 0, none⟩) ws.length c) ∧ ws.length ≤ c ∧ c ≤ 9223372036854775807 ∧ g ≠ gw ∧
 Row w B 110 (.slice (some ⟨gw, 0, none⟩) ws.length c) (w64 ws) ∧ w.heap[g]? = some (.cells #[.int .i64 (fr : Int), .int .i64 (to_ : Int), .slice (some ⟨gw, 0, none⟩) ws.length c] 109 (0, 0)) ∧
 ∀ i, i < ws.length → w.cell? ⟨gw, i, none⟩ = some (.int .u64 ((ws.getD i 0 : Nat) : Int)) := by
 obtain ⟨c0, h1, h2⟩ := h.blk
 have hl : (w64 ws).length = ws.length := by simp [w64]
 obtain ⟨g3, c3, hv, h3, h4, _, _⟩ := h2.head (by rw [hl, h.len]; have := h.rng; omega)
 injection hv with e1 _ e3
 subst e3
 rw [hl] at h3
 have hne : g ≠ gw := fun e => by
  subst e
  rcases h2.2 with ⟨hh, _⟩ | ⟨g2, cap, cur, hh, _, hg, _⟩
  · cases hh
  · injection hh with e1 _ _
    injection e1 with e1
    injection e1 with e1
    subst e1
    rw [hg] at h1
    simp only [Option.some.injEq, Obj.cells.injEq] at h1
    exact absurd h1.2.1 (by decide)
 refine ⟨c0, cell_of_row w g 0 _ _ _ h1, by rw [cell_of_row w g 1 _ _ _ h1]; rfl, by rw [cell_of_row w g 2 _ _ _ h1]; rfl, h3, h4, hne, h2, h1, fun i hi => ?_⟩
 rw [h2.cellAt (by rw [hl]; exact hi)]
 simp [w64, List.getElem?_map, List.getD_eq_getElem?_getD, List.getElem?_eq_getElem hi]
set_option maxHeartbeats 1000000 in
theorem spOutside_calls {w : World} {B g gw fr to_ : Nat} {ws : List Nat} (h : Sp w B g gw fr to_ ws) (n : Int) :
 Calls Tryd.prog 95 #[.pointer (some ⟨g, 0, none⟩), .int .i64 n] w fun e w' => e = .returned (.bool (decide (n < (fr : Int) ∨ (to_ : Int) ≤ n))) ∧ w' = w := by
 obtain ⟨c, c0, c1, _⟩ := h.view
 clear h
 by_cases h1 : n < (fr : Int)
 · rw [decide_eq_true (Or.inl h1)]
   go_enter Tryd.func95, Tryd.ntmps95
   go_wp2
   go_ret
   exact ⟨rfl, rfl⟩
 · by_cases h2 : (to_ : Int) ≤ n
   · rw [decide_eq_true (Or.inr h2)]
     go_enter Tryd.func95, Tryd.ntmps95
     go_wp2
     go_ret
     exact ⟨by simp, rfl⟩
   · rw [decide_eq_false (by omega)]
     go_enter Tryd.func95, Tryd.ntmps95
     go_wp2
     go_ret
     exact ⟨by simp, rfl⟩
theorem pow_wrap (k : Nat) (hk : k < 64) : (2 : Int) ^ k % 18446744073709551616 = ((2 ^ k : Nat) : Int) := by
 have hp : 2 ^ k < 18446744073709551616 := Nat.pow_lt_pow_right (by decide) hk
 have e : (2 : Int) ^ k = ((2 ^ k : Nat) : Int) := by simp
 rw [e]
 generalize 2 ^ k = m at *
 omega
set_option maxHeartbeats 1000000 in
theorem place_calls {w : World} {B g gw fr to_ : Nat} {ws : List Nat} (h : Sp w B g gw fr to_ ws) (a : Nat) (ha : a < to_ - fr) :
 Calls Tryd.prog 96 #[.pointer (some ⟨g, 0, none⟩), .int .i64 ((fr + a : Nat) : Int)] w fun e w' => e = .returned (.tuple #[.int .i64 ((a / 64 : Nat) : Int), .int .u64 ((2 ^ (a % 64) : Nat) : Int)]) ∧ Below w.heap.size w w' := by
 obtain ⟨c, c0, c1, _⟩ := h.view
 have hr := h.rng
 clear h
 go_enter Tryd.func96, Tryd.ntmps96
 go_wp2_with fail
 go_region
 have e1 : ((fr : Int) + (a : Int) - (fr : Int)) / 64 = ((a / 64 : Nat) : Int) := by omega
 have e2 : IntKind.u64.wrap (2 ^ ((fr + a - fr) % 64)) = ((2 ^ (a % 64) : Nat) : Int) := by
  rw [show fr + a - fr = a by omega, IntKind.wrap_u64]
  exact pow_wrap _ (Nat.mod_lt _ (by decide))
 simp only [e1, e2]
 go_wp2
 go_ret2
 exact ⟨rfl, (Below.refl _ _).drew⟩
/-- Is it free? -/
def hasB (fr to_ : Nat) (ws : List Nat) (n : Int) : Bool := decide ((fr : Int) ≤ n ∧ n < (to_ : Int)) && bitAt ws (n - (fr : Int)).toNat
theorem and_bit (x k : Nat) (hx : x < 18446744073709551616) (hk : k < 64) : (bits .and .u64 (x : Int) ((2 ^ k : Nat) : Int) != 0) = x.testBit k := by
 have hp : 2 ^ k < 18446744073709551616 := Nat.pow_lt_pow_right (by decide) hk
 rw [and_n x (2 ^ k) hx hp, Nat.testBit_eq_decide_div_mod_eq]
 have h := and_two_pow_eq_zero (x : Int) k (by omega)
 have e1 : ((2 : Int) ^ k).toNat = 2 ^ k := toNat_two_pow k
 have e2 : ((x : Int) / 2 ^ k % 2 = 1) ↔ (x / 2 ^ k % 2 = 1) := by
  have e3 : (2 : Int) ^ k = ((2 ^ k : Nat) : Int) := by simp
  rw [e3]
  omega
 rw [e1, Int.toNat_natCast, e2] at h
 by_cases hb : x / 2 ^ k % 2 = 1
 · have hne : x &&& 2 ^ k ≠ 0 := fun e => (h.1 e) hb
   rw [decide_eq_true hb]
   have : ((x &&& 2 ^ k : Nat) : Int) ≠ 0 := by omega
   simpa using this
 · have he : x &&& 2 ^ k = 0 := h.2 hb
   rw [decide_eq_false hb, he]
   rfl
set_option maxHeartbeats 1000000 in
theorem has_in {w : World} {B g gw fr to_ : Nat} {ws : List Nat} (h : Sp w B g gw fr to_ ws) (a : Nat) (ha : a < to_ - fr) :
 Calls Tryd.prog 78 #[.pointer (some ⟨g, 0, none⟩), .int .i64 ((fr + a : Nat) : Int)] w fun e w' => e = .returned (.bool (bitAt ws a)) ∧ Below w.heap.size w w' := by
 have HO := hide (spOutside_calls h ((fr + a : Nat) : Int))
 have HP := hide (place_calls h a ha)
 have HV : Hid (∀ W, Below w.heap.size w W → ∃ c, W.cell? ⟨g, 2, none⟩ = some (.slice (some ⟨gw, 0, none⟩) ws.length c) ∧ ws.length ≤ c ∧ c ≤ 9223372036854775807 ∧ W.cell? ⟨gw, a / 64, none⟩ = some (.int .u64 ((ws.getD (a / 64) 0 : Nat) : Int))) := fun W hW => by
  obtain ⟨c, _, _, c2, h1, h2, _, _, _, h3⟩ := (h.below hW).view
  exact ⟨c, c2, h1, h2, h3 (a / 64) (by have := h.len; omega)⟩
 have hlen : a / 64 < ws.length := by have := h.len; omega
 have hx : ws.getD (a / 64) 0 < 18446744073709551616 := by
  rw [List.getD_eq_getElem?_getD, List.getElem?_eq_getElem hlen]
  exact h.wd _ (List.getElem_mem hlen)
 have hbit := and_bit (ws.getD (a / 64) 0) (a % 64) hx (Nat.mod_lt _ (by decide))
 have hrng := h.rng
 have hd : decide (((fr + a : Nat) : Int) < (fr : Int) ∨ (to_ : Int) ≤ ((fr + a : Nat) : Int)) = false := decide_eq_false (by omega)
 rw [hd] at HO
 obtain ⟨x, hxe⟩ : ∃ x, x = ws.getD (a / 64) 0 := ⟨_, rfl⟩
 obtain ⟨q, hq⟩ : ∃ q, q = a / 64 := ⟨_, rfl⟩
 obtain ⟨p, hp⟩ : ∃ p, p = 2 ^ (a % 64) := ⟨_, rfl⟩
 rw [← hxe, ← hp] at hbit
 rw [← hxe] at HV
 rw [← hq, ← hp] at HP
 rw [← hq] at HV hlen
 have HBIT : Hid ((bits .and .u64 (x : Int) (p : Int) != 0) = bitAt ws a) := by
  show _ = _
  rw [hbit, hxe]; rfl
 clear h hd hxe hq hp hbit hx
 go_enter Tryd.func78, Tryd.ntmps78
 go_wp2_with fail
 refine (unhide HO).mono ?_
 rintro e w1 ⟨rfl, hw1⟩
 obtain rfl := hw1.symm
 clear hw1
 go_wp2_with fail
 refine (unhide HP).mono ?_
 rintro e w1 ⟨rfl, hb1⟩
 obtain ⟨c, c2, h1, h2, h3⟩ := unhide HV w1 hb1
 go_wp2
 rw [HBIT.out]
 go_ret
 exact ⟨rfl, hb1⟩
theorem has_out {w : World} {B g gw fr to_ : Nat} {ws : List Nat} (h : Sp w B g gw fr to_ ws) (n : Int) (hn : n < (fr : Int) ∨ (to_ : Int) ≤ n) :
 Calls Tryd.prog 78 #[.pointer (some ⟨g, 0, none⟩), .int .i64 n] w fun e w' => e = .returned (.bool false) ∧ Below w.heap.size w w' := by
 have HO := hide (spOutside_calls h n)
 rw [decide_eq_true hn] at HO
 clear h
 go_enter Tryd.func78, Tryd.ntmps78
 go_wp2_with fail
 refine (unhide HO).mono ?_
 rintro e w1 ⟨rfl, hw1⟩
 obtain rfl := hw1.symm
 clear hw1
 go_wp2
 go_ret
 exact ⟨rfl, Below.refl _ _⟩
/-- Has, of every number. -/
theorem has_calls {w : World} {B g gw fr to_ : Nat} {ws : List Nat} (h : Sp w B g gw fr to_ ws) (n : Int) :
 Calls Tryd.prog 78 #[.pointer (some ⟨g, 0, none⟩), .int .i64 n] w fun e w' => e = .returned (.bool (hasB fr to_ ws n)) ∧ Below w.heap.size w w' := by
 unfold hasB
 by_cases hn : (fr : Int) ≤ n ∧ n < (to_ : Int)
 · obtain ⟨a, rfl⟩ : ∃ a : Nat, n = ((fr + a : Nat) : Int) := ⟨(n - fr).toNat, by omega⟩
   rw [decide_eq_true hn, show (((fr + a : Nat) : Int) - (fr : Int)).toNat = a by omega, Bool.true_and]
   exact has_in h a (by omega)
 · rw [decide_eq_false hn, Bool.false_and]
   exact has_out h n (by omega)
end Go.Proofs.YtlofoklfggmbiaaDoor

namespace Go.Proofs.YtlofoklfggmbiaaDoor
open Go.RowKit

/-- The words with one bit turned over. -/
def flip (ws : List Nat) (a : Nat) : List Nat := ws.set (a / 64) ((ws.getD (a / 64) 0) ^^^ 2 ^ (a % 64))
theorem flip_len (ws : List Nat) (a : Nat) : (flip ws a).length = ws.length := by simp [flip]
theorem flip_bit {ws : List Nat} {a : Nat} (ha : a / 64 < ws.length) (i : Nat) : bitAt (flip ws a) i = if i = a then !(bitAt ws a) else bitAt ws i := by
 unfold bitAt flip
 by_cases hq : i / 64 = a / 64
 · rw [hq, List.getD_eq_getElem?_getD, List.getElem?_set_self ha, Option.getD_some, Nat.testBit_xor, Nat.testBit_two_pow]
   by_cases hi : i = a
   · subst hi
     rw [if_pos rfl]
     simp
   · rw [if_neg hi]
     have hne : ¬ (a % 64 = i % 64) := by omega
     simp [hne]
 · rw [if_neg (fun e => hq (by rw [e])), List.getD_eq_getElem?_getD, List.getElem?_set_ne (fun e => hq e.symm), List.getD_eq_getElem?_getD]
theorem xor_bit (x k : Nat) (hx : x < 18446744073709551616) (hk : k < 64) : bits .xor .u64 (x : Int) ((2 ^ k : Nat) : Int) = ((x ^^^ 2 ^ k : Nat) : Int) := by
 have hp : 2 ^ k < 18446744073709551616 := Nat.pow_lt_pow_right (by decide) hk
 exact bits_xor_u64_nat x (2 ^ k) hx hp
set_option maxHeartbeats 1000000 in
theorem turn_calls {w : World} {B g gw fr to_ : Nat} {ws : List Nat} (h : Sp w B g gw fr to_ ws) (a : Nat) (ha : a < to_ - fr) :
 Calls Tryd.prog 79 #[.pointer (some ⟨g, 0, none⟩), .int .i64 ((fr + a : Nat) : Int)] w fun e w' => (∃ r, e = .returned r) ∧ Sp w' B g gw fr to_ (flip ws a) ∧ w.grownBy w' (some gw) := by
 have HP := hide (place_calls h a ha)
 have hlen : a / 64 < ws.length := by have := h.len; omega
 have hx : ws.getD (a / 64) 0 < 18446744073709551616 := by
  rw [List.getD_eq_getElem?_getD, List.getElem?_eq_getElem hlen]
  exact h.wd _ (List.getElem_mem hlen)
 have hk := Nat.mod_lt a (show 0 < 64 by decide)
 have hxor := xor_bit (ws.getD (a / 64) 0) (a % 64) hx hk
 obtain ⟨y, hy⟩ : ∃ y, y = (ws.getD (a / 64) 0) ^^^ 2 ^ (a % 64) := ⟨_, rfl⟩
 have hy64 : y < 18446744073709551616 := by
  rw [hy]
  exact Nat.xor_lt_two_pow (n := 64) hx (Nat.pow_lt_pow_right (by decide) hk)
 have HV : Hid (∀ W, Below w.heap.size w W → ∃ c, W.cell? ⟨g, 2, none⟩ = some (.slice (some ⟨gw, 0, none⟩) ws.length c) ∧ ws.length ≤ c ∧ c ≤ 9223372036854775807 ∧ W.cell? ⟨gw, a / 64, none⟩ = some (.int .u64 ((ws.getD (a / 64) 0 : Nat) : Int)) ∧ W.frozen? ⟨gw, a / 64, none⟩ = false) := fun W hW => by
  obtain ⟨c, _, _, c2, h1, h2, _, hr, _, h3⟩ := (h.below hW).view
  exact ⟨c, c2, h1, h2, h3 (a / 64) hlen, hr.frozenAt _⟩
 have HE : Hid (∀ W, Below w.heap.size w W → Sp (W.setCell ⟨gw, a / 64, none⟩ (.int .u64 (y : Int))) B g gw fr to_ (flip ws a) ∧ w.grownBy (W.setCell ⟨gw, a / 64, none⟩ (.int .u64 (y : Int))) (some gw)) := fun W hW => by
  obtain ⟨c, _, _, _, _, _, hne, hr, hb, _⟩ := (h.below hW).view
  obtain ⟨s1, s2⟩ := hr.set (a / 64) (.int .u64 (y : Int))
  have e1 : (w64 ws).set (a / 64) (.int .u64 (y : Int)) = w64 (flip ws a) := by
   unfold w64 flip
   rw [List.map_set, hy]
  rw [e1] at s1
  have hb2 : (W.setCell ⟨gw, a / 64, none⟩ (.int .u64 (y : Int))).heap[g]? = some (.cells #[.int .i64 (fr : Int), .int .i64 (to_ : Int), .slice (some ⟨gw, 0, none⟩) ws.length c] 109 (0, 0)) := by
   rw [s2.block g (Array.getElem?_eq_some_iff.1 hb).1 (by simpa using hne)]; exact hb
  refine ⟨⟨⟨c, by rw [flip_len]; exact hb2, by rw [flip_len]; exact s1⟩, h.rng, by rw [flip_len]; exact h.len, fun x hx => ?_, fun i hi => ?_⟩, ?_⟩
  · rcases List.mem_or_eq_of_mem_set hx with hx | hx
    · exact h.wd x hx
    · rw [hx, ← hy]; exact hy64
  · rw [flip_bit hlen, if_neg (by omega)]
    exact h.top i hi
  · exact World.grownBy.trans ⟨hW.os, hW.tape, hW.output, hW.size, fun k hk _ => hW.block k hk⟩ s2
 obtain ⟨x, hxe⟩ : ∃ x, x = ws.getD (a / 64) 0 := ⟨_, rfl⟩
 obtain ⟨q, hq⟩ : ∃ q, q = a / 64 := ⟨_, rfl⟩
 obtain ⟨p, hp⟩ : ∃ p, p = 2 ^ (a % 64) := ⟨_, rfl⟩
 rw [← hy, ← hxe, ← hp] at hxor
 rw [← hxe, ← hq] at HV
 rw [← hq, ← hp] at HP
 rw [← hq] at hlen HE
 clear h hxe hq hp hx hy hk
 go_enter Tryd.func79, Tryd.ntmps79
 go_wp2_with fail
 refine (unhide HP).mono ?_
 rintro e w1 ⟨rfl, hb1⟩
 obtain ⟨c, c2, h1, h2, h3, h4⟩ := unhide HV w1 hb1
 go_wp2
 obtain ⟨E1, E2⟩ := unhide HE w1 hb1
 exact bodyPost_end (results_none rfl _ _ _) rfl ⟨⟨_, rfl⟩, E1, E2⟩
/-- What Claim leaves. -/
def claimW (fr to_ : Nat) (ws : List Nat) (n : Int) : List Nat := if hasB fr to_ ws n = true then flip ws (n - (fr : Int)).toNat else ws
set_option maxHeartbeats 1000000 in
theorem claim_calls {w : World} {B g gw fr to_ : Nat} {ws : List Nat} (h : Sp w B g gw fr to_ ws) (n : Int) :
 Calls Tryd.prog 42 #[.pointer (some ⟨g, 0, none⟩), .int .i64 n] w fun e w' => e = .returned (.bool (hasB fr to_ ws n)) ∧ Sp w' B g gw fr to_ (claimW fr to_ ws n) ∧ w.grownBy w' (some gw) := by
 have HH := hide (has_calls h n)
 unfold claimW
 cases hb : hasB fr to_ ws n with
 | false =>
   rw [hb] at HH
   have H := hide h
   clear h hb
   go_enter Tryd.func42, Tryd.ntmps42
   go_wp2_with fail
   refine (unhide HH).mono ?_
   rintro e w1 ⟨rfl, hb1⟩
   go_wp2
   go_ret
   exact ⟨rfl, by simpa using (unhide H).below hb1, ⟨hb1.os, hb1.tape, hb1.output, hb1.size, fun k hk _ => hb1.block k hk⟩⟩
 | true =>
   rw [hb] at HH
   have hn : (fr : Int) ≤ n ∧ n < (to_ : Int) := by
    unfold hasB at hb
    simp only [Bool.and_eq_true, decide_eq_true_eq] at hb
    exact hb.1
   obtain ⟨a, rfl⟩ : ∃ a : Nat, n = ((fr + a : Nat) : Int) := ⟨(n - fr).toNat, by omega⟩
   rw [show (((fr + a : Nat) : Int) - (fr : Int)).toNat = a by omega]
   have HT : Hid (∀ W, Below w.heap.size w W → Calls Tryd.prog 79 #[.pointer (some ⟨g, 0, none⟩), .int .i64 ((fr + a : Nat) : Int)] W fun e w' => (∃ r, e = .returned r) ∧ Sp w' B g gw fr to_ (flip ws a) ∧ W.grownBy w' (some gw)) := fun W hW => turn_calls (h.below hW) a (by omega)
   clear h hb hn
   go_enter Tryd.func42, Tryd.ntmps42
   go_wp2_with fail
   refine (unhide HH).mono ?_
   rintro e w1 ⟨rfl, hb1⟩
   go_wp2_with fail
   refine (unhide HT w1 hb1).mono ?_
   rintro e w2 ⟨⟨r, rfl⟩, hs2, hg2⟩
   go_wp2
   go_ret
   exact ⟨rfl, by simpa using hs2, World.grownBy.trans ⟨hb1.os, hb1.tape, hb1.output, hb1.size, fun k hk _ => hb1.block k hk⟩ hg2⟩
end Go.Proofs.YtlofoklfggmbiaaDoor

namespace Go.Proofs.YtlofoklfggmbiaaDoor
open Go.RowKit

theorem grown_of {w w' : World} (hb : Below w.heap.size w w') (row : Option Nat) : w.grownBy w' row := ⟨hb.os, hb.tape, hb.output, hb.size, fun k hk _ => hb.block k hk⟩
/-- How many are free. -/
def freeN (ws : List Nat) : Nat := (ws.map (pc 64)).sum
theorem freeN_take {ws : List Nat} {k : Nat} (h : k < ws.length) : freeN (ws.take (k + 1)) = freeN (ws.take k) + pc 64 (ws.getD k 0) := by
 unfold freeN
 rw [List.take_add_one, List.map_append, List.sum_append, List.getElem?_eq_getElem h, List.getD_eq_getElem?_getD, List.getElem?_eq_getElem h]
 simp
theorem freeN_le : ∀ (ws : List Nat), freeN ws ≤ 64 * ws.length
 | [] => by simp [freeN]
 | x :: t => by
   have h1 := freeN_le t
   have h2 := pc_le 64 x
   unfold freeN at *
   simp only [List.map_cons, List.sum_cons, List.length_cons]
   omega
set_option maxHeartbeats 1000000 in
theorem free_calls {w : World} {B g gw fr to_ : Nat} {ws : List Nat} (h : Sp w B g gw fr to_ ws) :
 Calls Tryd.prog 12 #[.pointer (some ⟨g, 0, none⟩)] w fun e w' => e = .returned (.int .i64 ((freeN ws : Nat) : Int)) ∧ w' = w := by
 obtain ⟨c, _, _, c2, h1, h2, _, _, _, hc⟩ := h.view
 have HC := hide hc
 have HWD : Hid (∀ i, i < ws.length → ws.getD i 0 < 18446744073709551616) := fun i hi => by
  rw [List.getD_eq_getElem?_getD, List.getElem?_eq_getElem hi]
  exact h.wd _ (List.getElem_mem hi)
 have hl := h.len
 have hr := h.rng
 obtain ⟨L, hL⟩ : ∃ L, L = ws.length := ⟨_, rfl⟩
 rw [← hL] at c2 h1 HC HWD hl
 have hLb : L ≤ 1024 := by omega
 have HL := hide hL
 clear h hc hL hl
 go_enter Tryd.func12, Tryd.ntmps12
 go_wp2_with fail
 go_loop [3, 11] (fun s i => ∃ (k f : Nat), k ≤ L ∧ i = .int .i64 (k : Int) ∧ s = .int .i64 (f : Int) ∧ f ≤ 64 * k ∧ Hid (f = freeN (ws.take k))) (fun _ i => L - (intOf i).toNat)
 case atStart => exact ⟨0, 0, by omega, rfl, rfl, by omega, by show _ = _; simp [freeN]⟩
 case round =>
  obtain ⟨k, f, hk, rfl, rfl, hf, HF⟩ := hrel
  by_cases hlt : k < L
  · have hck := unhide HC k hlt
    have hwk := unhide HWD k hlt
    have hft := freeN_take (ws := ws) (k := k) (by rw [← HL.out]; exact hlt)
    obtain ⟨x, hx⟩ : ∃ x, x = ws.getD k 0 := ⟨_, rfl⟩
    rw [← hx] at hck hwk hft
    have HO := hide (fun W : World => ones_calls x hwk W)
    have hpx := pc_le 64 x
    obtain ⟨p, hp⟩ : ∃ p, p = pc 64 x := ⟨_, rfl⟩
    rw [← hp] at HO hpx hft
    have HFT := hide hft
    clear hx hp hft
    go_wp2_with fail
    refine (unhide HO w).mono ?_
    rintro e w1 ⟨rfl, hw1⟩
    obtain rfl := hw1.symm
    clear hw1
    go_wp2
    go_roundw
    case rel => exact ⟨k + 1, f + p, by omega, by go_num, by go_num, by omega, by show _ = _; rw [HFT.out, HF.out]⟩
    case measure => simp [intOf]; omega
  · have hke : k = L := by omega
    have hfe : f = freeN ws := by
     have := HF.out
     rw [hke, HL.out, List.take_length] at this
     exact this
    have HFE := hide hfe
    clear hke hfe
    go_wp2
    go_ret
    exact ⟨by rw [← HFE.out]; rfl, rfl⟩
set_option maxHeartbeats 1000000 in
theorem lowest_calls {w : World} {B g gw fr to_ : Nat} {ws : List Nat} (h : Sp w B g gw fr to_ ws) (hT : Tz w) (i x : Nat) (hi : i ≤ 1024) (hx0 : x ≠ 0) (hx : x < 18446744073709551616) (hc64 : Lib.ctz 64 x < 64) :
 Calls Tryd.prog 103 #[.pointer (some ⟨g, 0, none⟩), .int .i64 (i : Int), .int .u64 (x : Int)] w fun e w' => e = .returned (.int .i64 ((fr + i * 64 + Lib.ctz 64 x : Nat) : Int)) ∧ Below w.heap.size w w' := by
 obtain ⟨c, c0, _⟩ := h.view
 have hr := h.rng
 have HSS : Hid (∀ W, Below w.heap.size w W → Below w.heap.size w W ∧ W.cell? ⟨g, 0, none⟩ = some (.int .i64 (fr : Int))) := fun W hW => ⟨hW, (hW.cell (p := ⟨g, 0, none⟩) (World.block_lt_of_cell? _ _ c0)).trans c0⟩
 have HTZ : Hid (∀ W, Below w.heap.size w W → Calls Tryd.prog 110 #[.int .u64 (x : Int)] W fun e w' => e = .returned (.int .i64 ((Lib.ctz 64 x : Nat) : Int)) ∧ w' = W) := fun W hW => tz_calls x hx0 hx W (fun j hj => by
  have := hT j hj
  exact (hW.cell (p := ⟨3, j, none⟩) (World.block_lt_of_cell? _ _ this)).trans this)
 generalize Lib.ctz 64 x = k at *
 clear h hT
 go_enter Tryd.func103, Tryd.ntmps103
 go_wp2_with fail
 focus (go_region_held3 (fun W => Below w.heap.size w W ∧ W.cell? ⟨g, 0, none⟩ = some (.int .i64 (fr : Int)))
  ((refine unhide HSS _ ?_; repeat (first | assumption | exact Below.refl _ _ | refine Below.drew ?_)))
  (first
    | (go_at_call 110; refine (unhide HTZ _ (Below.drew (Below.refl _ _))).mono ?_; rintro e w2 ⟨rfl, hw2⟩; obtain rfl := hw2.symm)))
 go_wp2
 have e : IntKind.i64.wrap (IntKind.i64.wrap ((fr : Int) + IntKind.i64.wrap ((i : Int) * 64)) + (k : Int)) = ((fr + i * 64 + k : Nat) : Int) := by
  have w0 : ∀ z : Int, 0 ≤ z → z < 9223372036854775808 → IntKind.i64.wrap z = z := fun z h1 h2 => by rw [IntKind.wrap_i64]; omega
  rw [w0 ((i : Int) * 64) (by omega) (by omega), w0 ((fr : Int) + (i : Int) * 64) (by omega) (by omega), w0 _ (by omega) (by omega)]
  omega
 simp only [e]
 go_ret
 exact ⟨rfl, (Below.refl _ _).drew⟩
end Go.Proofs.YtlofoklfggmbiaaDoor
