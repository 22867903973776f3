/- The document's Give. -/
import Derived.Test.YtifmfnkpogconaaDoorRsSet
namespace Go.Proofs.YtifmfnkpogconaaDoor
open Go.RowKit

set_option maxRecDepth 100000 in
set_option maxHeartbeats 2000000 in
theorem rgive_out {w : World} {B g gb fr to_ : Nat} {bs : List Bool} (h : Rs w B g gb fr to_ bs) (n : Int) (hn : n < (fr : Int) ∨ (to_ : Int) ≤ n) :
    Calls Tryd.prog 34 #[.pointer (some ⟨g, 0, none⟩), .int .i64 n] w fun e w' => e = .returned (.bool false) ∧ Below w.heap.size w w' := by
  obtain ⟨c, c0, c1, _⟩ := h.view
  have hr := h.rng
  clear h
  by_cases hA : n < (fr : Int)
  · have g1 : decide (n < (fr : Int)) = true := decide_eq_true hA
    clear hn hr
    go_enter Tryd.func34, Tryd.ntmps34
    go_wp2_with fail
    go_quiet (fail)
    go_wp2
    go_ret
    exact ⟨rfl, drewn_below w nq⟩
  · have g1 : decide (n < (fr : Int)) = false := decide_eq_false hA
    have g3 : decide (n ≥ (to_ : Int)) = true := decide_eq_true (by omega)
    have g5 : (to_ : Int) ≤ n := by omega
    have g2 : (fr : Int) ≤ n := by omega
    clear hn hr
    go_enter Tryd.func34, Tryd.ntmps34
    go_wp2_with fail
    go_quiet (fail)
    go_wp2
    go_ret
    exact ⟨rfl, drewn_below w nq⟩
set_option maxRecDepth 100000 in
set_option maxHeartbeats 2000000 in
theorem rgive_in {w : World} {B g gb fr to_ : Nat} {bs : List Bool} (h : Rs w B g gb fr to_ bs) (n : Int) (hn : (fr : Int) ≤ n ∧ n < (to_ : Int)) (a : Nat) (ha : a = (n - (fr : Int)).toNat) (r : Bool) (hr : bs.getD a false = r) :
    Calls Tryd.prog 34 #[.pointer (some ⟨g, 0, none⟩), .int .i64 n] w fun e w' => e = .returned (.bool (!r)) ∧ Rs w' B g gb fr to_ (if r = true then bs else bs.set a true) ∧ w.grownBy w' (some gb) := by
  have hrg := h.rng
  have hl := h.len
  have g6 : (n - (fr : Int)).toNat = a := ha.symm
  have g1 : decide (n < (fr : Int)) = false := decide_eq_false (by omega)
  have g1' : ¬ (n < (fr : Int)) := by omega
  have g2 : decide (n ≥ (to_ : Int)) = false := decide_eq_false (by omega)
  have g2' : ¬ ((to_ : Int) ≤ n) := by omega
  have g3 : IntKind.i64.wrap (n - (fr : Int)) = n - (fr : Int) := by rw [IntKind.wrap_i64]; omega
  have g7 : (0 : Int) ≤ n - (fr : Int) := by omega
  have g8 : n - (fr : Int) < (bs.length : Int) := by omega
  have hla : a < bs.length := by omega
  have HV : Hid (∀ W, Below w.heap.size w W → ∃ c, W.cell? ⟨g, 0, none⟩ = some (.int .i64 (fr : Int)) ∧ W.cell? ⟨g, 1, none⟩ = some (.int .i64 (to_ : Int)) ∧ W.cell? ⟨g, 2, none⟩ = some (.slice (some ⟨gb, 0, none⟩) bs.length c) ∧ bs.length ≤ c ∧ c ≤ 9223372036854775807 ∧ W.cell? ⟨gb, a, none⟩ = some (.bool r) ∧ W.frozen? ⟨gb, a, none⟩ = false) := fun W hW => by
    obtain ⟨c, c0, c1, c2, h1, h2, _, hr', _, h3⟩ := (h.below hW).view
    exact ⟨c, c0, c1, c2, h1, h2, by rw [h3 a hla, hr], hr'.frozenAt _⟩
  have HE : Hid (∀ W, Below w.heap.size w W → Rs (W.setCell ⟨gb, a, none⟩ (.bool true)).drew B g gb fr to_ (bs.set a true) ∧ w.grownBy (W.setCell ⟨gb, a, none⟩ (.bool true)).drew (some gb)) := fun W hW => h.put hW a true
  have HN : Hid (∀ W, Below w.heap.size w W → Rs W B g gb fr to_ bs ∧ w.grownBy W (some gb)) := fun W hW => ⟨h.below hW, ⟨hW.os, hW.tape, hW.output, hW.size, fun k hk _ => hW.block k hk⟩⟩
  obtain ⟨L, hL⟩ : ∃ L, L = bs.length := ⟨_, rfl⟩
  rw [← hL] at HV g8 hla
  obtain ⟨c, c0, c1, c2, h1, h2, h3, h4⟩ := unhide HV w (Below.refl _ _)
  clear h hn hrg hl ha hL hr
  cases r with
  | true =>
    go_enter Tryd.func34, Tryd.ntmps34
    go_wp2_with fail
    go_quiet (fail)
    go_wp2
    go_ret
    exact ⟨rfl, by simpa using unhide HN _ (drewn_below w nq)⟩
  | false =>
    clear c0 c1 c2 h1 h2 h3 h4 c
    obtain ⟨c, c0, c1, c2, h1, h2, h3, h4⟩ := unhide HV w (Below.refl _ _)
    go_enter Tryd.func34, Tryd.ntmps34
    go_wp2_with fail
    go_quiet (fail)
    have hb1 := drewn_below w nq
    generalize w.drewN nq = w1 at hb1 ⊢
    clear c0 c1 c2 h1 h2 h3 h4
    obtain ⟨c, c0, c1, c2, h1, h2, h3, h4⟩ := unhide HV w1 hb1
    have HE' := hide (unhide HE w1 hb1)
    go_wp2_with fail
    go_region
    go_wp2
    go_ret
    exact ⟨rfl, by simpa using unhide HE'⟩
theorem rgive_calls {w : World} {B g gb fr to_ : Nat} {bs : List Bool} (h : Rs w B g gb fr to_ bs) (n : Int) :
    Calls Tryd.prog 34 #[.pointer (some ⟨g, 0, none⟩), .int .i64 n] w fun e w' => e = .returned (.bool (giveRB fr to_ bs n)) ∧ Rs w' B g gb fr to_ (giveR fr to_ bs n) ∧ w.grownBy w' (some gb) := by
  unfold giveR
  by_cases hn : (fr : Int) ≤ n ∧ n < (to_ : Int)
  · refine (rgive_in h n hn _ rfl _ rfl).mono ?_
    rintro e w' ⟨rfl, h1, h2⟩
    unfold giveRB
    rw [decide_eq_true hn, Bool.true_and]
    refine ⟨rfl, ?_, h2⟩
    cases hb : bs.getD (n - (fr : Int)).toNat false <;> rw [hb] at h1 <;> simpa using h1
  · refine (rgive_out h n (by omega)).mono ?_
    rintro e w' ⟨rfl, hb⟩
    unfold giveRB
    rw [decide_eq_false hn, Bool.false_and]
    exact ⟨rfl, by simpa using h.below hb, ⟨hb.os, hb.tape, hb.output, hb.size, fun k hk _ => hb.block k hk⟩⟩
end Go.Proofs.YtifmfnkpogconaaDoor
