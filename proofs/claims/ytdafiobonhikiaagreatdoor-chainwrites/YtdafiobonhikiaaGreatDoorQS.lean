/- Give, Free, lowest. -/
import Derived.Test.YtdafiobonhikiaaGreatDoorQR
import Derived.Deep.RegionHeld3
namespace Go.Proofs.YtdafiobonhikiaaGreatDoor
open Go.RowKit

theorem grown_of {w w' : World} (hb : Below w.heap.size w w') (row : Option Nat) : w.grownBy w' row := ⟨hb.os, hb.tape, hb.output, hb.size, fun k hk _ => hb.block k hk⟩
def giveB (fr to_ : Nat) (ws : List Nat) (n : Int) : Bool := decide ((fr : Int) ≤ n ∧ n < (to_ : Int)) && !(bitAt ws (n - (fr : Int)).toNat)
def giveW (fr to_ : Nat) (ws : List Nat) (n : Int) : List Nat := if giveB fr to_ ws n = true then flip ws (n - (fr : Int)).toNat else ws
set_option maxHeartbeats 1000000 in
theorem give_calls {w : World} {B g gw fr to_ : Nat} {ws : List Nat} (h : Sp w B g gw fr to_ ws) (n : Int) :
    Calls Tryz.prog 44 #[.pointer (some ⟨g, 0, none⟩), .int .i64 n] w fun e w' => e = .returned (.bool (giveB fr to_ ws n)) ∧ Sp w' B g gw fr to_ (giveW fr to_ ws n) ∧ w.grownBy w' (some gw) := by
  by_cases hn : (fr : Int) ≤ n ∧ n < (to_ : Int)
  · obtain ⟨a, rfl⟩ : ∃ a : Nat, n = ((fr + a : Nat) : Int) := ⟨(n - fr).toNat, by omega⟩
    have ha : a < to_ - fr := by omega
    have HO := hide (spOutside_calls h ((fr + a : Nat) : Int))
    rw [decide_eq_false (by omega)] at HO
    have HH := hide (has_in h a ha)
    have e0 : (((fr + a : Nat) : Int) - (fr : Int)).toNat = a := by omega
    unfold giveW giveB
    rw [decide_eq_true hn, e0, Bool.true_and]
    cases hb : bitAt ws a with
    | true =>
      rw [hb] at HH
      have H := hide h
      clear h hb hn e0
      go_enter Tryz.func44, Tryz.ntmps44
      go_wp2_with fail
      refine (unhide HO).mono ?_
      rintro e w1 ⟨rfl, hw1⟩
      obtain rfl := hw1.symm
      clear hw1
      go_wp2_with fail
      refine (unhide HH).mono ?_
      rintro e w1 ⟨rfl, hb1⟩
      go_wp2
      go_ret
      exact ⟨rfl, by simpa using (unhide H).below hb1, grown_of hb1 _⟩
    | false =>
      rw [hb] at HH
      have HT : Hid (∀ W, Below w.heap.size w W → Calls Tryz.prog 51 #[.pointer (some ⟨g, 0, none⟩), .int .i64 ((fr + a : Nat) : Int)] W fun e w' => (∃ r, e = .returned r) ∧ Sp w' B g gw fr to_ (flip ws a) ∧ W.grownBy w' (some gw)) := fun W hW => turn_calls (h.below hW) a ha
      clear h hb hn e0
      go_enter Tryz.func44, Tryz.ntmps44
      go_wp2_with fail
      refine (unhide HO).mono ?_
      rintro e w1 ⟨rfl, hw1⟩
      obtain rfl := hw1.symm
      clear hw1
      go_wp2_with fail
      refine (unhide HH).mono ?_
      rintro e w1 ⟨rfl, hb1⟩
      go_wp2_with fail
      refine (unhide HT w1 hb1).mono ?_
      rintro e w2 ⟨⟨r, rfl⟩, hs2, hg2⟩
      go_wp2
      go_ret
      exact ⟨rfl, by simpa using hs2, (grown_of hb1 _).trans hg2⟩
  · have HO := hide (spOutside_calls h n)
    rw [decide_eq_true (by omega)] at HO
    unfold giveW giveB
    rw [decide_eq_false hn, Bool.false_and]
    have H := hide h
    clear h hn
    go_enter Tryz.func44, Tryz.ntmps44
    go_wp2_with fail
    refine (unhide HO).mono ?_
    rintro e w1 ⟨rfl, hw1⟩
    obtain rfl := hw1.symm
    clear hw1
    go_wp2
    go_ret
    exact ⟨rfl, by simpa using H.out, grown_of (Below.refl _ _) _⟩
/-- How many are free. -/
def freeN (ws : List Nat) : Nat := (ws.map (pc 64)).sum
theorem freeN_take {ws : List Nat} {k : Nat} (h : k < ws.length) : freeN (ws.take (k + 1)) = freeN (ws.take k) + pc 64 (ws.getD k 0) := by
  unfold freeN
  rw [List.take_add_one, List.map_append, List.sum_append, List.getElem?_eq_getElem h, List.getD_eq_getElem?_getD, List.getElem?_eq_getElem h]
  simp
theorem freeN_le : ∀ (ws : List Nat), freeN ws ≤ 64 * ws.length
  | [] => by simp [freeN]
  | x :: t => by
    have h1 := freeN_le t
    have h2 := pc_le 64 x
    unfold freeN at *
    simp only [List.map_cons, List.sum_cons, List.length_cons]
    omega
set_option maxHeartbeats 1000000 in
theorem free_calls {w : World} {B g gw fr to_ : Nat} {ws : List Nat} (h : Sp w B g gw fr to_ ws) :
    Calls Tryz.prog 37 #[.pointer (some ⟨g, 0, none⟩)] w fun e w' => e = .returned (.int .i64 ((freeN ws : Nat) : Int)) ∧ w' = w := by
  obtain ⟨c, _, _, c2, h1, h2, _, _, _, hc⟩ := h.view
  have HC := hide hc
  have HWD : Hid (∀ i, i < ws.length → ws.getD i 0 < 18446744073709551616) := fun i hi => by
    rw [List.getD_eq_getElem?_getD, List.getElem?_eq_getElem hi]
    exact h.wd _ (List.getElem_mem hi)
  have hl := h.len
  have hr := h.rng
  obtain ⟨L, hL⟩ : ∃ L, L = ws.length := ⟨_, rfl⟩
  rw [← hL] at c2 h1 HC HWD hl
  have hLb : L ≤ 1024 := by omega
  have HL := hide hL
  clear h hc hL hl
  go_enter Tryz.func37, Tryz.ntmps37
  go_wp2_with fail
  go_loop [3, 11] (fun s i => ∃ (k f : Nat), k ≤ L ∧ i = .int .i64 (k : Int) ∧ s = .int .i64 (f : Int) ∧ f ≤ 64 * k ∧ Hid (f = freeN (ws.take k))) (fun _ i => L - (intOf i).toNat)
  case atStart => exact ⟨0, 0, by omega, rfl, rfl, by omega, by show _ = _; simp [freeN]⟩
  case round =>
    obtain ⟨k, f, hk, rfl, rfl, hf, HF⟩ := hrel
    by_cases hlt : k < L
    · have hck := unhide HC k hlt
      have hwk := unhide HWD k hlt
      have hft := freeN_take (ws := ws) (k := k) (by rw [← HL.out]; exact hlt)
      obtain ⟨x, hx⟩ : ∃ x, x = ws.getD k 0 := ⟨_, rfl⟩
      rw [← hx] at hck hwk hft
      have HO := hide (fun W : World => ones_calls x hwk W)
      have hpx := pc_le 64 x
      obtain ⟨p, hp⟩ : ∃ p, p = pc 64 x := ⟨_, rfl⟩
      rw [← hp] at HO hpx hft
      have HFT := hide hft
      clear hx hp hft
      go_wp2_with fail
      refine (unhide HO w).mono ?_
      rintro e w1 ⟨rfl, hw1⟩
      obtain rfl := hw1.symm
      clear hw1
      go_wp2
      go_roundw
      case rel => exact ⟨k + 1, f + p, by omega, by go_num, by go_num, by omega, by show _ = _; rw [HFT.out, HF.out]⟩
      case measure => simp [intOf]; omega
    · have hke : k = L := by omega
      have hfe : f = freeN ws := by
        have := HF.out
        rw [hke, HL.out, List.take_length] at this
        exact this
      have HFE := hide hfe
      clear hke hfe
      go_wp2
      go_ret
      exact ⟨by rw [← HFE.out]; rfl, rfl⟩
set_option maxHeartbeats 1000000 in
theorem lowest_calls {w : World} {B g gw fr to_ : Nat} {ws : List Nat} (h : Sp w B g gw fr to_ ws) (hT : Tz w) (i x : Nat) (hi : i ≤ 1024) (hx0 : x ≠ 0) (hx : x < 18446744073709551616) (hc64 : Lib.ctz 64 x < 64) :
    Calls Tryz.prog 76 #[.pointer (some ⟨g, 0, none⟩), .int .i64 (i : Int), .int .u64 (x : Int)] w fun e w' => e = .returned (.int .i64 ((fr + i * 64 + Lib.ctz 64 x : Nat) : Int)) ∧ Below w.heap.size w w' := by
  obtain ⟨c, c0, _⟩ := h.view
  have hr := h.rng
  have HSS : Hid (∀ W, Below w.heap.size w W → Below w.heap.size w W ∧ W.cell? ⟨g, 0, none⟩ = some (.int .i64 (fr : Int))) := fun W hW => ⟨hW, (hW.cell (p := ⟨g, 0, none⟩) (World.block_lt_of_cell? _ _ c0)).trans c0⟩
  have HTZ : Hid (∀ W, Below w.heap.size w W → Calls Tryz.prog 100 #[.int .u64 (x : Int)] W fun e w' => e = .returned (.int .i64 ((Lib.ctz 64 x : Nat) : Int)) ∧ w' = W) := fun W hW => tz_calls x hx0 hx W (fun j hj => by
    have := hT j hj
    exact (hW.cell (p := ⟨2, j, none⟩) (World.block_lt_of_cell? _ _ this)).trans this)
  generalize Lib.ctz 64 x = k at *
  clear h hT
  go_enter Tryz.func76, Tryz.ntmps76
  go_wp2_with fail
  focus (go_region_held3 (fun W => Below w.heap.size w W ∧ W.cell? ⟨g, 0, none⟩ = some (.int .i64 (fr : Int)))
    ((refine unhide HSS _ ?_; repeat (first | assumption | exact Below.refl _ _ | refine Below.drew ?_)))
    (first
      | (go_at_call 100; refine (unhide HTZ _ (Below.drew (Below.refl _ _))).mono ?_; rintro e w2 ⟨rfl, hw2⟩; obtain rfl := hw2.symm)))
  go_wp2
  have e : IntKind.i64.wrap (IntKind.i64.wrap ((fr : Int) + IntKind.i64.wrap ((i : Int) * 64)) + (k : Int)) = ((fr + i * 64 + k : Nat) : Int) := by
    have w0 : ∀ z : Int, 0 ≤ z → z < 9223372036854775808 → IntKind.i64.wrap z = z := fun z h1 h2 => by rw [IntKind.wrap_i64]; omega
    rw [w0 ((i : Int) * 64) (by omega) (by omega), w0 ((fr : Int) + (i : Int) * 64) (by omega) (by omega), w0 _ (by omega) (by omega)]
    omega
  simp only [e]
  go_ret
  exact ⟨rfl, (Below.refl _ _).drew⟩
end Go.Proofs.YtdafiobonhikiaaGreatDoor
