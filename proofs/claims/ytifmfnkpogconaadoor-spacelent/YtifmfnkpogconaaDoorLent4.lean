/- SpaceLent's walk. -/
import Derived.Test.YtifmfnkpogconaaDoorSettle5
namespace Go.Proofs.YtifmfnkpogconaaDoor
open Go.RowKit

/-- The script of SpaceLent. -/
def leOps (q : Int) : List OpI := [⟨7, 0, 0⟩, ⟨7, 0, 0⟩, ⟨2, 0, q⟩, ⟨2, 0, q⟩, ⟨7, 0, 0⟩, ⟨2, 0, 0⟩, ⟨7, 0, 0⟩, ⟨2, 0, 3⟩, ⟨2, 0, 3⟩]
theorem leOps_no (q : Int) (k : Nat) : ¬ (((leOps q).getD k .nul).K = 8) := by
  intro h
  match k with
  | 0 | 1 | 2 | 3 | 4 | 5 | 6 | 7 | 8 => simp [leOps] at h
  | k + 9 => simp [leOps, OpI.nul] at h
set_option maxRecDepth 100000 in
set_option maxHeartbeats 4000000 in
theorem lent_none {w : World} (x y z : Int) (h : x < 0 ∨ y ≤ x ∨ 65536 < y) (hT : Tz w) : Calls Tryd.prog 5 #[.int .i64 x, .int .i64 y, .int .i64 z] w fun e w' => e = .returned (.bool true) ∧ Below w.heap.size w w' := by
  have H1 := hide (made_no (w := w) x y h)
  have HS : Hid (∀ W, Below w.heap.size w W → Calls Tryd.prog 10 #[] W fun e w' => e = .returned (.bool true) ∧ Below w.heap.size w w') := fun W hW => (started_calls (hT.below hW)).mono fun e w' ⟨e1, e2⟩ => ⟨e1, hW.trans (e2.mono hW.size)⟩
  clear hT h
  go_enter Tryd.func5, Tryd.ntmps5
  go_wp2_with fail
  refine (unhide H1).mono ?_
  rintro e w1 ⟨rfl, hb1⟩
  have HS1 := hide (unhide HS w1 hb1)
  clear hb1
  go_wp2_with fail
  refine (unhide HS1).mono ?_
  rintro e w2 ⟨rfl, hb2⟩
  go_wp2
  go_ret
  exact ⟨rfl, hb2⟩
set_option maxRecDepth 100000 in
set_option maxHeartbeats 4000000 in
theorem lent_some {w : World} (fr to_ : Nat) (z : Int) (h1 : fr < to_) (h2 : to_ ≤ 65536) (hT : Tz w) : Calls Tryd.prog 5 #[.int .i64 (fr : Int), .int .i64 (to_ : Int), .int .i64 z] w fun e w' => e = .returned (.bool true) ∧ Below w.heap.size w w' := by
  have hG : 0 < w.heap.size := World.block_lt_of_cell? _ _ (hT 0 (by decide))
  have H1 : Hid (Calls Tryd.prog 9 #[.int .i64 (fr : Int), .int .i64 (to_ : Int)] w fun e w' => ∃ gW, e = .returned (.tuple #[.pointer (some ⟨gW, 0, none⟩), .bool true]) ∧ Hid (MadeAt w' w.heap.size gW fr to_ ∧ Below w.heap.size w w')) := made_calls fr to_ h1 h2 hT
  have H2 : Hid (∀ w1 gW, Hid (MadeAt w1 w.heap.size gW fr to_ ∧ Below w.heap.size w w1) → Calls Tryd.prog 11 #[.pointer (some ⟨gW, 0, none⟩), .agg #[.int .i64 8, .int .i64 0, .int .i64 0]] w1 fun e w' => e = .returned (.bool true) ∧ Hid (Below w.heap.size w w' ∧ ∃ P n U X, Wd w' w.heap.size gW 2 P 1 n U X ∧ Tws 2 P)) := fun w1 gW hm => by
    obtain ⟨hMA, hb1⟩ := hm.out
    obtain ⟨P, hwd, htw, _, _⟩ := hMA.wd h1 hb1.size
    refine (plays_any hwd htw (hT.keep hb1 hG) (by decide) (by decide) (by decide) 8 0 0).mono ?_
    rintro e w' ⟨e1, ⟨P', n', U', X', e2, e3⟩, e4⟩
    exact ⟨e1, hb1.trans (e4.below hb1.size), P', n', U', X', e2, e3⟩
  have HPL : Hid (∀ W, Calls Tryd.prog 15 #[.int .i64 z, .int .i64 9] W fun e w' => e = .returned (.int .i64 ((pl z 9 : Nat) : Int)) ∧ w' = W) := fun W => place4_calls z 9 (by decide) (by decide) W
  generalize pl z 9 = q at *
  have HT := hide hT
  clear hT
  go_enter Tryd.func5, Tryd.ntmps5
  go_wp2_with fail
  refine (unhide H1).mono ?_
  rintro e w1 ⟨gW, rfl, HM⟩
  have H2' := hide (unhide H2 w1 gW HM)
  clear HM H1 H2
  go_wp2_with fail
  refine (unhide H2').mono ?_
  rintro e w2 ⟨rfl, HW2⟩
  go_wp2_with fail
  refine (unhide HPL w2).mono ?_
  rintro e w3 ⟨rfl, hw3⟩
  obtain rfl := hw3.symm
  clear hw3
  go_wp2_with fail
  refine (unhide HPL _).mono ?_
  rintro e w3 ⟨rfl, hw3⟩
  obtain rfl := hw3.symm
  clear hw3
  go_wp2_with fail
  have hO := heap_alloc_new w2 (.cells #[.int .i64 7, .int .i64 0, .int .i64 0, .int .i64 7, .int .i64 0, .int .i64 0, .int .i64 2, .int .i64 0, .int .i64 (q : Int), .int .i64 2, .int .i64 0, .int .i64 (q : Int), .int .i64 7, .int .i64 0, .int .i64 0, .int .i64 2, .int .i64 0, .int .i64 0, .int .i64 7, .int .i64 0, .int .i64 0, .int .i64 2, .int .i64 0, .int .i64 3, .int .i64 2, .int .i64 0, .int .i64 3] 39)
  have hb3 := alloc_below w2 (.cells #[.int .i64 7, .int .i64 0, .int .i64 0, .int .i64 7, .int .i64 0, .int .i64 0, .int .i64 2, .int .i64 0, .int .i64 (q : Int), .int .i64 2, .int .i64 0, .int .i64 (q : Int), .int .i64 7, .int .i64 0, .int .i64 0, .int .i64 2, .int .i64 0, .int .i64 0, .int .i64 7, .int .i64 0, .int .i64 0, .int .i64 2, .int .i64 0, .int .i64 3, .int .i64 2, .int .i64 0, .int .i64 3] 39)
  generalize w2.alloc (.cells #[.int .i64 7, .int .i64 0, .int .i64 0, .int .i64 7, .int .i64 0, .int .i64 0, .int .i64 2, .int .i64 0, .int .i64 (q : Int), .int .i64 2, .int .i64 0, .int .i64 (q : Int), .int .i64 7, .int .i64 0, .int .i64 0, .int .i64 2, .int .i64 0, .int .i64 0, .int .i64 7, .int .i64 0, .int .i64 0, .int .i64 2, .int .i64 0, .int .i64 3, .int .i64 2, .int .i64 0, .int .i64 3] 39) = W3 at *
  obtain ⟨hb2, P, n, U, X, hwd, htw⟩ := HW2.out
  have HBW : Hid (Below w.heap.size w W3) := hb2.trans (hb3.mono hb2.size)
  have HW0 := hide (hwd.below hb3)
  have HT0 := hide htw
  generalize w2.heap.size = gl at *
  have HCL : Hid (∀ W, Ch w.heap.size T4 W3 W → ∀ k, k < 9 → W.cell? ⟨gl, k * 3, none⟩ = some (.int .i64 ((leOps q).getD k .nul).K) ∧ W.cell? ⟨gl, k * 3 + 1, none⟩ = some (.int .i64 ((leOps q).getD k .nul).O) ∧ W.cell? ⟨gl, k * 3 + 2, none⟩ = some (.int .i64 ((leOps q).getD k .nul).N)) := fun W hW k hk => by
    have e := hW.cells hO T4op
    rw [cell_of_row W gl _ _ _ _ e, cell_of_row W gl _ _ _ _ e, cell_of_row W gl _ _ _ _ e]
    rcases (show k = 0 ∨ k = 1 ∨ k = 2 ∨ k = 3 ∨ k = 4 ∨ k = 5 ∨ k = 6 ∨ k = 7 ∨ k = 8 by omega) with rfl | rfl | rfl | rfl | rfl | rfl | rfl | rfl | rfl <;> exact ⟨rfl, rfl, rfl⟩
  have HPY : Hid (∀ W (k : Nat) (j : Nat) (O : Int) (P : Nat → Pr) n U X, Wd W w.heap.size gW 2 P (k + 1) n U X → Tws 2 P → Ch w.heap.size T4 W3 W → k < 18 → Calls Tryd.prog 11 #[.pointer (some ⟨gW, 0, none⟩), .agg #[.int .i64 ((leOps q).getD j .nul).K, .int .i64 O, .int .i64 ((leOps q).getD j .nul).N]] W fun e w' => e = .returned (.bool true) ∧ Hid (∃ P n U X, Wd w' w.heap.size gW 2 P (k + 1 + 1) n U X ∧ Tws 2 P ∧ Ch w.heap.size T4 W3 w')) := fun W k j O P n U X hw hq hc hk => by
    have := plays_any hw hq ((HT.out).keep ((HBW.out).trans (hc.below (HBW.out).size)) hG) (by decide) (by decide) (by omega) ((leOps q).getD j .nul).K O ((leOps q).getD j .nul).N
    rw [if_neg (fun e => leOps_no q j e.1)] at this
    refine this.mono ?_
    rintro e w' ⟨e1, ⟨P', n', U', X', e2, e3⟩, e4⟩
    exact ⟨e1, P', n', U', X', e2, e3, hc.trans e4⟩
  clear HW2 hb2 hb3 hwd htw hO H2'
  go_loopw [10] (fun iv wr => ∃ (k : Nat), k ≤ 18 ∧ iv = .int .i64 (k : Int) ∧ Hid (∃ P n U X, Wd wr w.heap.size gW 2 P (k + 1) n U X ∧ Tws 2 P ∧ Ch w.heap.size T4 W3 wr)) (fun i _ => 18 - (intOf i).toNat)
  case atStart => exact ⟨0, by omega, rfl, P, _, _, _, HW0.out, HT0.out, Ch.refl _ _ _⟩
  case round =>
    obtain ⟨k, hk, rfl, HK⟩ := hrel
    by_cases hlt : k < 18
    · have hc1 := HK.out
      obtain ⟨P, n, U, X, hw, hq, hc⟩ := hc1
      obtain ⟨c0, c1, c2⟩ := unhide HCL wr hc (k % 9) (by omega)
      have HP := fun (W : World) (O : Int) (hb : Below wr.heap.size wr W) => unhide HPY W k (k % 9) O P n U X (hw.below hb) hq (hc.trans (Ch.of_below hb)) hlt
      have HP' := hide HP
      generalize (leOps q).getD (k % 9) .nul = o at *
      obtain ⟨K, O, N⟩ := o
      clear hw hq hc HPY HCL HP
      go_wp2_with fail
      refine (unhide HP' _ _ (alloc_below wr _)).mono ?_
      rintro e w5 ⟨rfl, HQ⟩
      go_wp2
      exact ⟨⟨k + 1, by omega, by go_num, HQ⟩, by simp [intOf]; omega⟩
    · obtain ⟨P, n, U, X, hw, hq, hc⟩ := HK.out
      obtain ⟨gS, cS, gR, cR, q1, q2, q3, q4, hv⟩ := hw.view (by decide)
      have hlow := hw.low
      have hTr := (HT.out).keep ((HBW.out).trans (hc.below (HBW.out).size)) hG
      have hTW : ∀ W, Ch w.heap.size TI wr W → Tz W := fun W hW => hTr.keep (hW.below hlow.2.1) hG
      have HSS : Hid (∀ W, Ch w.heap.size TI wr W → Ch w.heap.size TI wr W ∧ W.cell? ⟨gW, 0, none⟩ = some (.slice (some ⟨gS, 0, none⟩) 2 cS) ∧ W.cell? ⟨gW, 1, none⟩ = some (.slice (some ⟨gR, 0, none⟩) 2 cR) ∧ (W.cell? ⟨gS, 0, none⟩ = some (.pointer (some ⟨(P 0).g, 0, none⟩)) ∧ W.cell? ⟨gR, 0, none⟩ = some (.pointer (some ⟨(P 0).g2, 0, none⟩))) ∧ W.cell? ⟨gS, 1, none⟩ = some (.pointer (some ⟨(P 1).g, 0, none⟩)) ∧ W.cell? ⟨gR, 1, none⟩ = some (.pointer (some ⟨(P 1).g2, 0, none⟩))) := fun W hW => by
        obtain ⟨vS, vR, vL, vK, NN, b1, b2, b3, b4⟩ := hw.blk
        obtain ⟨ss, k1, k2, k3⟩ := b3.s
        obtain ⟨rs, k4, k5, k6⟩ := b3.r
        obtain ⟨e1, e2, e3⟩ := hv wr (Below.refl _ _)
        have evS : vS = .slice (some ⟨gS, 0, none⟩) 2 cS := by
          have := (cell_of_row wr gW 0 _ _ _ b1).symm.trans e1
          simpa using this
        have evR : vR = .slice (some ⟨gR, 0, none⟩) 2 cR := by
          have := (cell_of_row wr gW 1 _ _ _ b1).symm.trans e2
          simpa using this
        subst evS evR
        have eb := hW.cells b1 (by unfold TI; decide)
        have r1 := k2.ch hW (by unfold TI; decide)
        have r2 := k5.ch hW (by unfold TI; decide)
        exact ⟨hW, cell_of_row W gW 0 _ _ _ eb, by rw [cell_of_row W gW 1 _ _ _ eb]; rfl, ⟨by rw [r1.cellAt (by omega), k3 0 (by decide)], by rw [r2.cellAt (by omega), k6 0 (by decide)]⟩, by rw [r1.cellAt (by omega), k3 1 (by decide)], by rw [r2.cellAt (by omega), k6 1 (by decide)]⟩
      have HST : Hid (∀ W, Below wr.heap.size wr W → Calls Tryd.prog 13 #[.pointer (some ⟨gW, 2, none⟩)] W fun e w' => e = .returned (.bool true) ∧ Ch w.heap.size TI wr w') := fun W hW =>
        (settle_calls (hw.below hW) (by omega)).mono fun e w' ⟨e1, e2⟩ => ⟨e1, (Ch.of_below hW).trans e2⟩
      have HTO : ∀ i, i < 2 → ∀ W, Ch w.heap.size TI wr W → Calls Tryd.prog 14 #[.pointer (some ⟨(P i).g, 0, none⟩), .pointer (some ⟨(P i).g2, 0, none⟩)] W fun e w' => e = .returned (.bool true) ∧ Ch w.heap.size TI wr w' := fun i hi W hW =>
        (told_calls ((hw.pr hi).sp.ch hW (by unfold TI; decide) (by unfold TI; decide)) ((hw.pr hi).rs.ch hW (by unfold TI; decide) (by unfold TI; decide)) (hq i hi) (hTW W hW)).mono fun e w' ⟨e1, e2⟩ => ⟨e1, hW.trans (Ch.of_below e2)⟩
      have HT0' := hide (HTO 0 (by decide))
      have HT1' := hide (HTO 1 (by decide))
      have HSD : Hid (∀ W, Ch w.heap.size TI wr W → Calls Tryd.prog 10 #[] W fun e w' => e = .returned (.bool true) ∧ Ch w.heap.size TI wr w') := fun W hW => (started_calls (hTW W hW)).mono fun e w' ⟨e1, e2⟩ => ⟨e1, hW.trans (Ch.of_below e2)⟩
      have HC := hide ((HBW.out).trans (hc.below (HBW.out).size))
      have HLO := hide hlow.2.1
      generalize (P 0).g = g1 at *
      generalize (P 0).g2 = g2 at *
      generalize (P 1).g = g3 at *
      generalize (P 1).g2 = g4 at *
      clear hw hq hc hv hTr hTW HTO HPY HCL HW0 HT0 HK hlow
      go_wp2_with fail
      focus (go_region_held3 (fun W => Ch w.heap.size TI wr W ∧ W.cell? ⟨gW, 0, none⟩ = some (.slice (some ⟨gS, 0, none⟩) 2 cS) ∧ W.cell? ⟨gW, 1, none⟩ = some (.slice (some ⟨gR, 0, none⟩) 2 cR) ∧ (W.cell? ⟨gS, 0, none⟩ = some (.pointer (some ⟨g1, 0, none⟩)) ∧ W.cell? ⟨gR, 0, none⟩ = some (.pointer (some ⟨g2, 0, none⟩))) ∧ W.cell? ⟨gS, 1, none⟩ = some (.pointer (some ⟨g3, 0, none⟩)) ∧ W.cell? ⟨gR, 1, none⟩ = some (.pointer (some ⟨g4, 0, none⟩)))
        ((refine unhide HSS _ ?_; repeat (first | assumption | exact Ch.refl _ _ _ | refine Ch.drew ?_)))
        (first
          | (go_at_call 13; refine (unhide HST _ (by first | assumption | exact (Below.refl _ _).drew)).mono ?_; rintro e w5 ⟨rfl, hc5⟩)
          | (go_at_call 14; with_reducible refine (unhide HT0' _ (by first | assumption | exact (Ch.refl _ _ _).drew)).mono ?_; rintro e w6 ⟨rfl, hc6⟩)
          | (go_at_call 14; with_reducible refine (unhide HT1' _ (by first | assumption | exact (Ch.refl _ _ _).drew)).mono ?_; rintro e w7 ⟨rfl, hc7⟩)
          | (go_at_call 10; refine (unhide HSD _ (by first | assumption | exact (Ch.refl _ _ _).drew)).mono ?_; rintro e w8 ⟨rfl, hc8⟩)))
      go_wp2
      go_ret
      exact ⟨rfl, (HC.out).trans (hc8.below HLO.out)⟩
theorem lent_walk {w : World} (x y z : Int) (hT : Tz w) : Calls Tryd.prog 5 #[.int .i64 x, .int .i64 y, .int .i64 z] w fun e w' => e = .returned (.bool true) ∧ Below w.heap.size w w' := by
  by_cases h : x < 0 ∨ y ≤ x ∨ 65536 < y
  · exact lent_none x y z h hT
  · obtain ⟨a, rfl⟩ : ∃ a : Nat, x = (a : Int) := ⟨x.toNat, by omega⟩
    obtain ⟨b, rfl⟩ : ∃ b : Nat, y = (b : Int) := ⟨y.toNat, by omega⟩
    exact lent_some a b z (by omega) (by omega) hT
end Go.Proofs.YtifmfnkpogconaaDoor
