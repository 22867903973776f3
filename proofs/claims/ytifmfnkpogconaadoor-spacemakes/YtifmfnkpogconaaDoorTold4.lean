/- What a space tells of itself, held against the document's. -/
import Derived.Test.YtifmfnkpogconaaDoorTwin
namespace Go.Proofs.YtifmfnkpogconaaDoor
open Go.RowKit

set_option maxRecDepth 100000 in
set_option maxHeartbeats 4000000 in
theorem told_calls {w : World} {B B2 g gw g2 gb fr to_ : Nat} {ws : List Nat} {bs : List Bool} (h : Sp w B g gw fr to_ ws) (h2 : Rs w B2 g2 gb fr to_ bs) (ht : Tw fr to_ ws bs) (hT : Tz w) :
    Calls Tryd.prog 14 #[.pointer (some ⟨g, 0, none⟩), .pointer (some ⟨g2, 0, none⟩)] w fun e w' => e = .returned (.bool true) ∧ Below w.heap.size w w' := by
  have hall := ht.all h
  obtain ⟨l, hl⟩ : ∃ l, l = allF fr 0 ws := ⟨_, rfl⟩
  obtain ⟨m, hm⟩ : ∃ m, m = l.length := ⟨_, rfl⟩
  have hfm : freeN ws = m := by rw [hm, hl, freeN_allF]
  have tr : ∀ {W W' : World}, Below w.heap.size w W → Below W.heap.size W W' → Below w.heap.size w W' := fun h1 h2 => h1.trans (h2.mono h1.size)
  have H1 : Hid (∀ W, Below w.heap.size w W → Calls Tryd.prog 28 #[.pointer (some ⟨g, 0, none⟩)] W fun e w' => e = .returned (.int .i64 (fr : Int)) ∧ Below w.heap.size w w') := fun W hW => (from_calls (h.below hW)).mono fun e w' ⟨e1, e2⟩ => ⟨e1, tr hW e2⟩
  have H2 : Hid (∀ W, Below w.heap.size w W → Calls Tryd.prog 29 #[.pointer (some ⟨g, 0, none⟩)] W fun e w' => e = .returned (.int .i64 (to_ : Int)) ∧ Below w.heap.size w w') := fun W hW => (to_calls (h.below hW)).mono fun e w' ⟨e1, e2⟩ => ⟨e1, tr hW e2⟩
  have H3 : Hid (∀ W, Below w.heap.size w W → Calls Tryd.prog 22 #[.pointer (some ⟨g, 0, none⟩)] W fun e w' => e = .returned (.int .i64 (m : Int)) ∧ Below w.heap.size w w') := fun W hW => (free_calls (h.below hW)).mono fun e w' ⟨e1, e2⟩ => ⟨by rw [← hfm]; exact e1, e2 ▸ hW⟩
  have H4 : Hid (∀ W, Below w.heap.size w W → Calls Tryd.prog 36 #[.pointer (some ⟨g2, 0, none⟩)] W fun e w' => e = .returned (.int .i64 (m : Int)) ∧ Below w.heap.size w w') := fun W hW => (rfree_calls (h2.below hW)).mono fun e w' ⟨e1, e2⟩ => ⟨by rw [hm, hl, ← hall]; exact e1, tr hW e2⟩
  have H5 : Hid (∀ W, Below w.heap.size w W → Calls Tryd.prog 26 #[.pointer (some ⟨g, 0, none⟩)] W fun e w' => ∃ v, e = .returned v ∧ Row w' w.heap.size 3 v (iV l) ∧ Below w.heap.size w w') := fun W hW => (list_calls (h.below hW) (hT.below hW)).mono fun e w' ⟨v, e1, e2, e3⟩ => ⟨v, e1, by rw [hl]; exact e2.mono hW.size, tr hW e3⟩
  have H6 : Hid (∀ W v, Below w.heap.size w W → Row W w.heap.size 3 v (iV l) → Calls Tryd.prog 38 #[.pointer (some ⟨g2, 0, none⟩)] W fun e w' => ∃ v2, e = .returned v2 ∧ Row w' w.heap.size 3 v2 (iV l) ∧ Row w' w.heap.size 3 v (iV l) ∧ Below w.heap.size w w') := fun W v hW hv => (rlist_calls (h2.below hW)).mono fun e w' ⟨v2, e1, e2, e3⟩ => ⟨v2, e1, by rw [hl, ← hall]; exact e2.mono hW.size, hv.out (Out.of_below (B := 0) (S := 0) e3) fun _ _ => Or.inr (Nat.zero_le _), tr hW e3⟩
  have H7 : Hid (∀ W v v2, Below w.heap.size w W → Row W w.heap.size 3 v (iV l) → Row W w.heap.size 3 v2 (iV l) → Calls Tryd.prog 23 #[v, v2] W fun e w' => e = .returned (.bool true) ∧ Below w.heap.size w w') := fun W v v2 hW r1 r2 => (same_calls r1 r2).mono fun e w' ⟨e1, e2⟩ => ⟨e1, tr hW e2⟩
  obtain ⟨c, c0, c1, _⟩ := h2.view
  have HSS : Hid (∀ W, Below w.heap.size w W → Below w.heap.size w W ∧ W.cell? ⟨g2, 0, none⟩ = some (.int .i64 (fr : Int)) ∧ W.cell? ⟨g2, 1, none⟩ = some (.int .i64 (to_ : Int))) := fun W hW =>
    ⟨hW, (hW.cell (p := ⟨g2, 0, none⟩) (World.block_lt_of_cell? _ _ c0)).trans c0, (hW.cell (p := ⟨g2, 1, none⟩) (World.block_lt_of_cell? _ _ c1)).trans c1⟩
  have g1 : ((fr : Int) == (fr : Int)) = true := by simp
  have g2' : ((to_ : Int) == (to_ : Int)) = true := by simp
  have g3 : ((m : Int) == (m : Int)) = true := by simp
  clear h h2 ht hT hall hl hm hfm tr
  go_enter Tryd.func14, Tryd.ntmps14
  go_wp2_with fail
  focus (go_region_held3 (fun W => Below w.heap.size w W ∧ W.cell? ⟨g2, 0, none⟩ = some (.int .i64 (fr : Int)) ∧ W.cell? ⟨g2, 1, none⟩ = some (.int .i64 (to_ : Int)))
    ((refine unhide HSS _ ?_; repeat (first | assumption | exact Below.refl _ _ | refine Below.drew ?_)))
    (first
      | (go_at_call 28; refine (unhide H1 _ (by first | assumption | exact (Below.refl _ _).drew)).mono ?_; rintro e w1 ⟨rfl, hb1⟩)
      | (go_at_call 29; refine (unhide H2 _ (by first | assumption | exact (Below.refl _ _).drew)).mono ?_; rintro e w2 ⟨rfl, hb2⟩)
      | (go_at_call 22; refine (unhide H3 _ (by first | assumption | exact (Below.refl _ _).drew)).mono ?_; rintro e w3 ⟨rfl, hb3⟩)
      | (go_at_call 36; refine (unhide H4 _ (by first | assumption | exact (Below.refl _ _).drew)).mono ?_; rintro e w4 ⟨rfl, hb4⟩)
      | (go_at_call 26; refine (unhide H5 _ (by first | assumption | exact (Below.refl _ _).drew)).mono ?_; rintro e w5 ⟨v5, rfl, hr5, hb5⟩)
      | (go_at_call 38; refine (unhide H6 _ _ (by first | assumption | exact (Below.refl _ _).drew) hr5).mono ?_; rintro e w6 ⟨v6, rfl, hr6, hr56, hb6⟩)
      | (go_at_call 23; refine (unhide H7 _ _ _ (by first | assumption | exact (Below.refl _ _).drew) hr56 hr6).mono ?_; rintro e w7 ⟨rfl, hb7⟩)))
  go_wp2
  go_ret
  exact ⟨rfl, hb7⟩
end Go.Proofs.YtifmfnkpogconaaDoor
