/- The document's space in memory; its Has, Claim. -/
import Derived.Test.YtifmfnkpogconaaDoorSpNew
namespace Go.Proofs.YtifmfnkpogconaaDoor
open Go.RowKit

def bV (bs : List Bool) : List Value := bs.map Value.bool
theorem bV_len (bs : List Bool) : (bV bs).length = bs.length := by simp [bV]
/-- The document's space in memory. -/
structure Rs (w : World) (B g gb fr to_ : Nat) (bs : List Bool) : Prop where
  blk : ∃ c, w.heap[g]? = some (.cells #[.int .i64 (fr : Int), .int .i64 (to_ : Int), .slice (some ⟨gb, 0, none⟩) bs.length c] 68 (0, 0)) ∧ Row w B 4 (.slice (some ⟨gb, 0, none⟩) bs.length c) (bV bs)
  rng : fr < to_ ∧ to_ ≤ 65536
  len : bs.length = to_ - fr
theorem Rs.below {w w' : World} {B g gb fr to_ : Nat} {bs : List Bool} (h : Rs w B g gb fr to_ bs) (hb : Below w.heap.size w w') : Rs w' B g gb fr to_ bs := by
  obtain ⟨c, h1, h2⟩ := h.blk
  exact ⟨⟨c, by rw [hb.block g (Array.getElem?_eq_some_iff.1 h1).1]; exact h1, h2.out (Out.of_below (B := 0) (S := 0) hb) fun _ _ => Or.inr (Nat.zero_le _)⟩, h.rng, h.len⟩
theorem Rs.view {w : World} {B g gb fr to_ : Nat} {bs : List Bool} (h : Rs w B g gb fr to_ bs) : ∃ c, w.cell? ⟨g, 0, none⟩ = some (.int .i64 (fr : Int)) ∧ w.cell? ⟨g, 1, none⟩ = some (.int .i64 (to_ : Int)) ∧ w.cell? ⟨g, 2, none⟩ = some (.slice (some ⟨gb, 0, none⟩) bs.length c) ∧ bs.length ≤ c ∧ c ≤ 9223372036854775807 ∧ g ≠ gb ∧
    Row w B 4 (.slice (some ⟨gb, 0, none⟩) bs.length c) (bV bs) ∧ w.heap[g]? = some (.cells #[.int .i64 (fr : Int), .int .i64 (to_ : Int), .slice (some ⟨gb, 0, none⟩) bs.length c] 68 (0, 0)) ∧
    ∀ i, i < bs.length → w.cell? ⟨gb, i, none⟩ = some (.bool (bs.getD i false)) := by
  obtain ⟨c0, h1, h2⟩ := h.blk
  obtain ⟨g3, c3, hv, h3, h4, _, _⟩ := h2.head (by rw [bV_len, h.len]; have := h.rng; omega)
  injection hv with e1 _ e3
  subst e3
  rw [bV_len] at h3
  have hne : g ≠ gb := fun e => by
    subst e
    rcases h2.2 with ⟨hh, _⟩ | ⟨g2, cap, cur, hh, _, hg, _⟩
    · cases hh
    · injection hh with e1 _ _
      injection e1 with e1
      injection e1 with e1
      subst e1
      rw [hg] at h1
      simp only [Option.some.injEq, Obj.cells.injEq] at h1
      exact absurd h1.2.1 (by decide)
  refine ⟨c0, cell_of_row w g 0 _ _ _ h1, by rw [cell_of_row w g 1 _ _ _ h1]; rfl, by rw [cell_of_row w g 2 _ _ _ h1]; rfl, h3, h4, hne, h2, h1, fun i hi => ?_⟩
  rw [h2.cellAt (by rw [bV_len]; exact hi)]
  simp [bV, List.getElem?_map, List.getD_eq_getElem?_getD, List.getElem?_eq_getElem hi]
/-- Is it free? -/
def hasR (fr to_ : Nat) (bs : List Bool) (n : Int) : Bool := decide ((fr : Int) ≤ n ∧ n < (to_ : Int)) && bs.getD (n - (fr : Int)).toNat false
set_option maxRecDepth 100000 in
set_option maxHeartbeats 2000000 in
theorem rhas_in {w : World} {B g gb fr to_ : Nat} {bs : List Bool} (h : Rs w B g gb fr to_ bs) (a : Nat) (ha : a < to_ - fr) :
    Calls Tryd.prog 35 #[.pointer (some ⟨g, 0, none⟩), .int .i64 ((fr + a : Nat) : Int)] w fun e w' => e = .returned (.bool (bs.getD a false)) ∧ Below w.heap.size w w' := by
  obtain ⟨c, c0, c1, c2, hL1, hL2, _, _, _, hc⟩ := h.view
  have hr := h.rng
  have hla : a < bs.length := by rw [h.len]; exact ha
  have hca := hc a hla
  obtain ⟨N, hN⟩ : ∃ N : Int, N = ((fr + a : Nat) : Int) := ⟨_, rfl⟩
  have g1 : decide (N ≥ (fr : Int)) = true := decide_eq_true (by omega)
  have g2 : decide (N < (to_ : Int)) = true := decide_eq_true (by omega)
  have g3 : IntKind.i64.wrap (N - (fr : Int)) = N - (fr : Int) := by rw [IntKind.wrap_i64]; omega
  have g4 : (fr : Int) ≤ N := by omega
  have g5 : N < (to_ : Int) := by omega
  have hai : (a : Int) < (bs.length : Int) := by omega
  have g6 : (N - (fr : Int)).toNat = a := by omega
  have g7 : (0 : Int) ≤ N - (fr : Int) := by omega
  have g8 : N - (fr : Int) < (bs.length : Int) := by omega
  rw [← hN]
  obtain ⟨L, hL⟩ : ∃ L, L = bs.length := ⟨_, rfl⟩
  rw [← hL] at c2 hL1 hla hai g8
  generalize bs.getD a false = r at *
  have HSS : Hid (∀ W, Below w.heap.size w W → Below w.heap.size w W ∧ W.cell? ⟨g, 0, none⟩ = some (.int .i64 (fr : Int)) ∧ W.cell? ⟨g, 1, none⟩ = some (.int .i64 (to_ : Int)) ∧ W.cell? ⟨g, 2, none⟩ = some (.slice (some ⟨gb, 0, none⟩) L c) ∧ W.cell? ⟨gb, a, none⟩ = some (.bool r)) := fun W hW =>
    ⟨hW, (hW.cell (p := ⟨g, 0, none⟩) (World.block_lt_of_cell? _ _ c0)).trans c0, (hW.cell (p := ⟨g, 1, none⟩) (World.block_lt_of_cell? _ _ c1)).trans c1, (hW.cell (p := ⟨g, 2, none⟩) (World.block_lt_of_cell? _ _ c2)).trans c2, (hW.cell (p := ⟨gb, a, none⟩) (World.block_lt_of_cell? _ _ hca)).trans hca⟩
  clear hc h hN hL
  go_enter Tryd.func35, Tryd.ntmps35
  go_wp2_with fail
  focus (go_region_held3 (fun W => Below w.heap.size w W ∧ W.cell? ⟨g, 0, none⟩ = some (.int .i64 (fr : Int)) ∧ W.cell? ⟨g, 1, none⟩ = some (.int .i64 (to_ : Int)) ∧ W.cell? ⟨g, 2, none⟩ = some (.slice (some ⟨gb, 0, none⟩) L c) ∧ W.cell? ⟨gb, a, none⟩ = some (.bool r))
    ((refine unhide HSS _ ?_; repeat (first | assumption | exact Below.refl _ _ | refine Below.drew ?_)))
    (first | fail))
  go_wp2
  go_ret
  exact ⟨rfl, (Below.refl _ _).drew⟩
end Go.Proofs.YtifmfnkpogconaaDoor
