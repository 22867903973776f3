/- The document's Has, Claim, Give. -/
import Derived.Test.YtifmfnkpogconaaDoorRsHas
import Derived.Deep.QuietTactic
import Derived.BigQuiet
namespace Go.Proofs.YtifmfnkpogconaaDoor
open Go.RowKit

theorem drewn_below (w : World) (n : Nat) : Below w.heap.size w (w.drewN n) := by
  refine ⟨rfl, by simp, rfl, Nat.le_refl _, fun _ _ => rfl⟩
set_option maxRecDepth 100000 in
set_option maxHeartbeats 2000000 in
theorem rhas_out {w : World} {B g gb fr to_ : Nat} {bs : List Bool} (h : Rs w B g gb fr to_ bs) (n : Int) (hn : n < (fr : Int) ∨ (to_ : Int) ≤ n) :
    Calls Tryd.prog 35 #[.pointer (some ⟨g, 0, none⟩), .int .i64 n] w fun e w' => e = .returned (.bool false) ∧ Below w.heap.size w w' := by
  obtain ⟨c, c0, c1, _⟩ := h.view
  have hr := h.rng
  clear h
  by_cases hA : n < (fr : Int)
  · have g1 : decide (n ≥ (fr : Int)) = false := decide_eq_false (by omega)
    have g2 : ¬ ((fr : Int) ≤ n) := by omega
    clear hn hr
    go_enter Tryd.func35, Tryd.ntmps35
    go_wp2_with fail
    go_quiet (fail)
    go_wp2
    go_ret
    exact ⟨rfl, drewn_below w nq⟩
  · have g1 : decide (n ≥ (fr : Int)) = true := decide_eq_true (by omega)
    have g2 : (fr : Int) ≤ n := by omega
    have g3 : decide (n < (to_ : Int)) = false := decide_eq_false (by omega)
    have g4 : ¬ (n < (to_ : Int)) := by omega
    have g5 : (to_ : Int) ≤ n := by omega
    clear hn hr
    go_enter Tryd.func35, Tryd.ntmps35
    go_wp2_with fail
    go_quiet (fail)
    go_wp2
    go_ret
    exact ⟨rfl, drewn_below w nq⟩
theorem rhas_calls {w : World} {B g gb fr to_ : Nat} {bs : List Bool} (h : Rs w B g gb fr to_ bs) (n : Int) :
    Calls Tryd.prog 35 #[.pointer (some ⟨g, 0, none⟩), .int .i64 n] w fun e w' => e = .returned (.bool (hasR fr to_ bs n)) ∧ Below w.heap.size w w' := by
  by_cases hn : (fr : Int) ≤ n ∧ n < (to_ : Int)
  · obtain ⟨a, rfl⟩ : ∃ a : Nat, n = ((fr + a : Nat) : Int) := ⟨(n - fr).toNat, by omega⟩
    unfold hasR
    rw [decide_eq_true hn, show (((fr + a : Nat) : Int) - (fr : Int)).toNat = a by omega]
    exact rhas_in h a (by omega)
  · unfold hasR
    rw [decide_eq_false hn]
    exact rhas_out h n (by omega)
/-- One is written. -/
theorem Rs.put {w W : World} {B g gb fr to_ : Nat} {bs : List Bool} (h : Rs w B g gb fr to_ bs) (hW : Below w.heap.size w W) (a : Nat) (b : Bool) : Rs (W.setCell ⟨gb, a, none⟩ (.bool b)).drew B g gb fr to_ (bs.set a b) ∧ w.grownBy (W.setCell ⟨gb, a, none⟩ (.bool b)).drew (some gb) := by
  suffices H : Rs (W.setCell ⟨gb, a, none⟩ (.bool b)) B g gb fr to_ (bs.set a b) ∧ w.grownBy (W.setCell ⟨gb, a, none⟩ (.bool b)) (some gb) from
    have hd := (Below.refl (W.setCell ⟨gb, a, none⟩ (.bool b)).heap.size (W.setCell ⟨gb, a, none⟩ (.bool b))).drew
    ⟨H.1.below hd, World.grownBy.trans H.2 ⟨hd.os, hd.tape, hd.output, hd.size, fun k hk _ => hd.block k hk⟩⟩
  obtain ⟨c, _, _, _, _, _, hne, hr, hb, _⟩ := (h.below hW).view
  obtain ⟨s1, s2⟩ := hr.set a (.bool b)
  have e1 : (bV bs).set a (.bool b) = bV (bs.set a b) := by
    unfold bV
    rw [List.map_set]
  rw [e1] at s1
  have hb2 : (W.setCell ⟨gb, a, none⟩ (.bool b)).heap[g]? = some (.cells #[.int .i64 (fr : Int), .int .i64 (to_ : Int), .slice (some ⟨gb, 0, none⟩) bs.length c] 68 (0, 0)) := by
    rw [s2.block g (Array.getElem?_eq_some_iff.1 hb).1 (by simpa using hne)]; exact hb
  refine ⟨⟨⟨c, by rw [List.length_set]; exact hb2, by rw [List.length_set]; exact s1⟩, h.rng, by rw [List.length_set]; exact h.len⟩, ?_⟩
  exact World.grownBy.trans ⟨hW.os, hW.tape, hW.output, hW.size, fun k hk _ => hW.block k hk⟩ s2
/-- What Claim leaves. -/
def claimR (fr to_ : Nat) (bs : List Bool) (n : Int) : List Bool := if hasR fr to_ bs n = true then bs.set (n - (fr : Int)).toNat false else bs
set_option maxRecDepth 100000 in
set_option maxHeartbeats 2000000 in
theorem rclaim_calls {w : World} {B g gb fr to_ : Nat} {bs : List Bool} (h : Rs w B g gb fr to_ bs) (n : Int) :
    Calls Tryd.prog 33 #[.pointer (some ⟨g, 0, none⟩), .int .i64 n] w fun e w' => e = .returned (.bool (hasR fr to_ bs n)) ∧ Rs w' B g gb fr to_ (claimR fr to_ bs n) ∧ w.grownBy w' (some gb) := by
  have HH := hide (rhas_calls h n)
  unfold claimR
  cases hb : hasR fr to_ bs n with
  | false =>
    rw [hb] at HH
    have H := hide h
    clear h hb
    go_enter Tryd.func33, Tryd.ntmps33
    go_wp2_with fail
    refine (unhide HH).mono ?_
    rintro e w1 ⟨rfl, hb1⟩
    go_wp2
    go_ret
    exact ⟨rfl, by simpa using (unhide H).below hb1, ⟨hb1.os, hb1.tape, hb1.output, hb1.size, fun k hk _ => hb1.block k hk⟩⟩
  | true =>
    rw [hb] at HH
    have hn : (fr : Int) ≤ n ∧ n < (to_ : Int) := by
      unfold hasR at hb
      simp only [Bool.and_eq_true, decide_eq_true_eq] at hb
      exact hb.1
    have hr := h.rng
    have hl := h.len
    obtain ⟨a, ha⟩ : ∃ a : Nat, a = (n - (fr : Int)).toNat := ⟨_, rfl⟩
    have g6 : (n - (fr : Int)).toNat = a := ha.symm
    rw [g6]
    have g3 : IntKind.i64.wrap (n - (fr : Int)) = n - (fr : Int) := by rw [IntKind.wrap_i64]; omega
    have g7 : (0 : Int) ≤ n - (fr : Int) := by omega
    have g8 : n - (fr : Int) < (bs.length : Int) := by omega
    have hla : a < bs.length := by omega
    have HV : Hid (∀ W, Below w.heap.size w W → ∃ c, W.cell? ⟨g, 0, none⟩ = some (.int .i64 (fr : Int)) ∧ W.cell? ⟨g, 2, none⟩ = some (.slice (some ⟨gb, 0, none⟩) bs.length c) ∧ bs.length ≤ c ∧ c ≤ 9223372036854775807 ∧ W.cell? ⟨gb, a, none⟩ = some (.bool (bs.getD a false)) ∧ W.frozen? ⟨gb, a, none⟩ = false) := fun W hW => by
      obtain ⟨c, c0, _, c2, h1, h2, _, hr, _, h3⟩ := (h.below hW).view
      exact ⟨c, c0, c2, h1, h2, h3 a hla, hr.frozenAt _⟩
    have HE : Hid (∀ W, Below w.heap.size w W → Rs (W.setCell ⟨gb, a, none⟩ (.bool false)).drew B g gb fr to_ (bs.set a false) ∧ w.grownBy (W.setCell ⟨gb, a, none⟩ (.bool false)).drew (some gb)) := fun W hW => h.put hW a false
    obtain ⟨L, hL⟩ : ∃ L, L = bs.length := ⟨_, rfl⟩
    rw [← hL] at HV g8 hla
    clear h hb hn hr hl ha hL
    go_enter Tryd.func33, Tryd.ntmps33
    go_wp2_with fail
    refine (unhide HH).mono ?_
    rintro e w1 ⟨rfl, hb1⟩
    obtain ⟨c, c0, c2, h1, h2, h3, h4⟩ := unhide HV w1 hb1
    obtain ⟨E1, E2⟩ := unhide HE w1 hb1
    have HE1 := hide E1
    have HE2 := hide E2
    clear E1 E2
    go_wp2_with fail
    go_region
    go_wp2
    go_ret
    exact ⟨rfl, by simpa using unhide HE1, unhide HE2⟩
/-- Was it a number that is not? -/
def giveRB (fr to_ : Nat) (bs : List Bool) (n : Int) : Bool := decide ((fr : Int) ≤ n ∧ n < (to_ : Int)) && !(bs.getD (n - (fr : Int)).toNat false)
/-- What Give leaves. -/
def giveR (fr to_ : Nat) (bs : List Bool) (n : Int) : List Bool := if giveRB fr to_ bs n = true then bs.set (n - (fr : Int)).toNat true else bs
end Go.Proofs.YtifmfnkpogconaaDoor
