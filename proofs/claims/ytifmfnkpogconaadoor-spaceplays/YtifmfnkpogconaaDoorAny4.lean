/- plays, of every call; scripts. -/
import Derived.Test.YtifmfnkpogconaaDoorCopy4
namespace Go.Proofs.YtifmfnkpogconaaDoor
open Go.RowKit

theorem eq_nat (K : Int) (c : Int) (h : K ≠ c) : (K == c) = false := by simpa using h
theorem plays_any {w : World} {B gW m t n : Nat} {P : Nat → Pr} {U : Nat → Value} {X : Nat → List Nat} (h : Wd w B gW m P t n U X) (htw : Tws m P) (hT : Tz w) (hm : 0 < m) (hm6 : m ≤ 6) (ht : t ≤ 1000) (K O N : Int) :
    Calls Tryd.prog 11 #[.pointer (some ⟨gW, 0, none⟩), .agg #[.int .i64 K, .int .i64 O, .int .i64 N]] w fun e w' => e = .returned (.bool true) ∧ Left w w' B gW (if K = 8 ∧ m < 6 then m + 1 else m) t := by
  by_cases k8 : K = 8
  · subst k8
    by_cases h6 : m < 6
    · rw [if_pos ⟨rfl, h6⟩]; exact plays_copy h htw hT hm h6 ht O N
    · rw [if_neg (fun e => h6 e.2)]; exact plays_full h htw hT hm hm6 ht O N (by omega)
  · rw [if_neg (fun e => k8 e.1)]
    by_cases k1 : K = 1
    · subst k1; exact plays_take h htw hT hm hm6 ht O N
    by_cases k2 : K = 2
    · subst k2
      by_cases hn : 0 ≤ N ∧ N ≤ ((freeN (P (pl O m)).ws : Nat) : Int)
      · obtain ⟨k, rfl⟩ : ∃ k : Nat, N = (k : Int) := ⟨N.toNat, by omega⟩
        exact plays_all h htw hT hm hm6 ht O _ k (show _ = _ from rfl) (show _ ≤ _ by omega)
      · exact plays_no h htw hT hm hm6 ht O N (show _ ∨ _ by omega)
    by_cases k3 : K = 3
    · subst k3; exact plays_claim h htw hT hm hm6 ht O N
    by_cases k4 : K = 4
    · subst k4; exact plays_give h htw hT hm hm6 ht O N
    by_cases k5 : K = 5
    · subst k5; exact plays_has h htw hT hm hm6 ht O N
    by_cases k6 : K = 6
    · subst k6; exact plays_free h htw hT hm hm6 ht O N
    by_cases k7 : K = 7
    · subst k7; exact plays_list h htw hT hm hm6 ht O N
    by_cases k9 : K = 9
    · subst k9; exact plays_fill h htw hT hm hm6 ht O N
    exact plays_none h htw hT hm hm6 ht K O N (show _ ∧ _ from ⟨eq_nat _ _ k1, eq_nat _ _ k2, eq_nat _ _ k3, eq_nat _ _ k4, eq_nat _ _ k5, eq_nat _ _ k6, eq_nat _ _ k7, eq_nat _ _ k8, eq_nat _ _ k9⟩)
/-- Where the lists of a World lie. -/
theorem Wd.view {w : World} {B gW m t n : Nat} {P : Nat → Pr} {U : Nat → Value} {X : Nat → List Nat} (h : Wd w B gW m P t n U X) (hm : 0 < m) : ∃ gS cS gR cR, m ≤ cS ∧ cS ≤ 9223372036854775807 ∧ m ≤ cR ∧ cR ≤ 9223372036854775807 ∧ ∀ W, Below w.heap.size w W → W.cell? ⟨gW, 0, none⟩ = some (.slice (some ⟨gS, 0, none⟩) m cS) ∧ W.cell? ⟨gW, 1, none⟩ = some (.slice (some ⟨gR, 0, none⟩) m cR) ∧ ∀ i, i < m → W.cell? ⟨gS, i, none⟩ = some (.pointer (some ⟨(P i).g, 0, none⟩)) ∧ W.cell? ⟨gR, i, none⟩ = some (.pointer (some ⟨(P i).g2, 0, none⟩)) := by
  obtain ⟨vS, vR, vL, vK, NN, h1, h2, h3, h4⟩ := h.blk
  obtain ⟨ss, k1, k2, k3⟩ := h3.s
  obtain ⟨rs, k4, k5, k6⟩ := h3.r
  obtain ⟨gS, cS, hvS, q1, q2, _, hgS⟩ := k2.head (by omega)
  obtain ⟨gR, cR, hvR, q3, q4, _, hgR⟩ := k5.head (by omega)
  rw [k1] at hvS q1
  rw [k4] at hvR q3
  subst hvS hvR
  refine ⟨gS, cS, gR, cR, q1, q2, q3, q4, fun W hW => ?_⟩
  have e : W.heap[gW]? = _ := (hW.block gW (Array.getElem?_eq_some_iff.1 h1).1).trans h1
  refine ⟨cell_of_row W gW 0 _ _ _ e, by rw [cell_of_row W gW 1 _ _ _ e]; rfl, fun i hi => ⟨?_, ?_⟩⟩
  · rw [(k2.below hW).cellAt (by rw [k1]; exact hi), k3 _ hi]
  · rw [(k5.below hW).cellAt (by rw [k4]; exact hi), k6 _ hi]
/-- A call of a script. -/
structure OpI where
  K : Int
  O : Int
  N : Int
def OpI.nul : OpI := ⟨0, 0, 0⟩
structure IsOps (w : World) (v : Value) (os : List OpI) : Prop where
  val : ∃ a cap, v = .slice a os.length cap ∧ os.length ≤ cap ∧ cap ≤ 9223372036854775807 ∧
    (0 < os.length → ∃ b off, a = some ⟨b, off, none⟩ ∧ ∀ j, j < os.length → w.cell? ⟨b, off + j * 3, none⟩ = some (.int .i64 (os.getD j .nul).K) ∧ w.cell? ⟨b, off + j * 3 + 1, none⟩ = some (.int .i64 (os.getD j .nul).O) ∧ w.cell? ⟨b, off + j * 3 + 2, none⟩ = some (.int .i64 (os.getD j .nul).N))
/-- The script of started. -/
def stOps : List OpI := [⟨1, 0, 0⟩, ⟨1, 0, 0⟩, ⟨4, 0, 3⟩, ⟨2, 0, 4⟩, ⟨2, 0, 3⟩, ⟨1, 0, 0⟩, ⟨4, 0, 9⟩, ⟨2, 0, -1⟩, ⟨2, 0, 0⟩]
theorem stOps_no (k : Nat) : ¬ ((stOps.getD k .nul).K = 8) := by
  intro h
  match k with
  | 0 | 1 | 2 | 3 | 4 | 5 | 6 | 7 | 8 => simp [stOps] at h
  | k + 9 => simp [stOps, OpI.nul] at h
set_option maxRecDepth 100000 in
set_option maxHeartbeats 4000000 in
theorem started_calls {w : World} (hT : Tz w) : Calls Tryd.prog 10 #[] w fun e w' => e = .returned (.bool true) ∧ Below w.heap.size w w' := by
  have hG : 0 < w.heap.size := World.block_lt_of_cell? _ _ (hT 0 (by decide))
  have H1 : Hid (Calls Tryd.prog 9 #[.int .i64 3, .int .i64 7] w fun e w' => ∃ gW, e = .returned (.tuple #[.pointer (some ⟨gW, 0, none⟩), .bool true]) ∧ Hid (MadeAt w' w.heap.size gW 3 7 ∧ Below w.heap.size w w')) := made_calls 3 7 (by decide) (by decide) hT
  have HT := hide hT
  clear hT
  go_enter Tryd.func10, Tryd.ntmps10
  go_wp2_with fail
  refine (unhide H1).mono ?_
  rintro e w1 ⟨gW, rfl, HM⟩
  go_wp2_with fail
  have hO := heap_alloc_new w1 (.cells #[.int .i64 1, .int .i64 0, .int .i64 0, .int .i64 1, .int .i64 0, .int .i64 0, .int .i64 4, .int .i64 0, .int .i64 3, .int .i64 2, .int .i64 0, .int .i64 4, .int .i64 2, .int .i64 0, .int .i64 3, .int .i64 1, .int .i64 0, .int .i64 0, .int .i64 4, .int .i64 0, .int .i64 9, .int .i64 2, .int .i64 0, .int .i64 (-1), .int .i64 2, .int .i64 0, .int .i64 0] 39)
  have hb2 := alloc_below w1 (.cells #[.int .i64 1, .int .i64 0, .int .i64 0, .int .i64 1, .int .i64 0, .int .i64 0, .int .i64 4, .int .i64 0, .int .i64 3, .int .i64 2, .int .i64 0, .int .i64 4, .int .i64 2, .int .i64 0, .int .i64 3, .int .i64 1, .int .i64 0, .int .i64 0, .int .i64 4, .int .i64 0, .int .i64 9, .int .i64 2, .int .i64 0, .int .i64 (-1), .int .i64 2, .int .i64 0, .int .i64 0] 39)
  generalize w1.alloc (.cells #[.int .i64 1, .int .i64 0, .int .i64 0, .int .i64 1, .int .i64 0, .int .i64 0, .int .i64 4, .int .i64 0, .int .i64 3, .int .i64 2, .int .i64 0, .int .i64 4, .int .i64 2, .int .i64 0, .int .i64 3, .int .i64 1, .int .i64 0, .int .i64 0, .int .i64 4, .int .i64 0, .int .i64 9, .int .i64 2, .int .i64 0, .int .i64 (-1), .int .i64 2, .int .i64 0, .int .i64 0] 39) = W2 at *
  obtain ⟨hMA, hb1⟩ := HM.out
  have hbw : Below w.heap.size w W2 := hb1.trans (hb2.mono hb1.size)
  obtain ⟨P, hwd, htw, _, _⟩ := hMA.wd (by decide) hb1.size
  have HW0 := hide (hwd.below hb2)
  have HT0 := hide (show Tws 1 P from htw)
  have HBW := hide hbw
  generalize w1.heap.size = gl at *
  have HCL : Hid (∀ W, Ch w.heap.size T4 W2 W → ∀ k, k < 9 → W.cell? ⟨gl, k * 3, none⟩ = some (.int .i64 (stOps.getD k .nul).K) ∧ W.cell? ⟨gl, k * 3 + 1, none⟩ = some (.int .i64 (stOps.getD k .nul).O) ∧ W.cell? ⟨gl, k * 3 + 2, none⟩ = some (.int .i64 (stOps.getD k .nul).N)) := fun W hW k hk => by
    have e := hW.cells hO T4op
    rw [cell_of_row W gl _ _ _ _ e, cell_of_row W gl _ _ _ _ e, cell_of_row W gl _ _ _ _ e]
    rcases (show k = 0 ∨ k = 1 ∨ k = 2 ∨ k = 3 ∨ k = 4 ∨ k = 5 ∨ k = 6 ∨ k = 7 ∨ k = 8 by omega) with rfl | rfl | rfl | rfl | rfl | rfl | rfl | rfl | rfl <;> exact ⟨rfl, rfl, rfl⟩
  have HPY : Hid (∀ W (k : Nat) (P : Nat → Pr) n U X, Wd W w.heap.size gW 1 P k n U X → Tws 1 P → Ch w.heap.size T4 W2 W → k < 9 → Calls Tryd.prog 11 #[.pointer (some ⟨gW, 0, none⟩), .agg #[.int .i64 (stOps.getD k .nul).K, .int .i64 (stOps.getD k .nul).O, .int .i64 (stOps.getD k .nul).N]] W fun e w' => e = .returned (.bool true) ∧ Hid (∃ P n U X, Wd w' w.heap.size gW 1 P (k + 1) n U X ∧ Tws 1 P ∧ Ch w.heap.size T4 W2 w')) := fun W k P n U X hw hq hc hk => by
    have := plays_any hw hq ((HT.out).keep ((HBW.out).trans (hc.below (HBW.out).size)) hG) (by decide) (by decide) (by omega) (stOps.getD k .nul).K (stOps.getD k .nul).O (stOps.getD k .nul).N
    rw [if_neg (fun e => stOps_no k e.1)] at this
    refine this.mono ?_
    rintro e w' ⟨e1, ⟨P', n', U', X', e2, e3⟩, e4⟩
    exact ⟨e1, P', n', U', X', e2, e3, hc.trans e4⟩
  clear HM hMA hb1 hb2 hbw hwd htw hO
  go_loopw [4] (fun iv wr => ∃ (k : Nat), k ≤ 9 ∧ iv = .int .i64 (k : Int) ∧ Hid (∃ P n U X, Wd wr w.heap.size gW 1 P k n U X ∧ Tws 1 P ∧ Ch w.heap.size T4 W2 wr)) (fun i _ => 9 - (intOf i).toNat)
  case atStart => exact ⟨0, by omega, rfl, P, _, _, _, HW0.out, HT0.out, Ch.refl _ _ _⟩
  case round =>
    obtain ⟨k, hk, rfl, HK⟩ := hrel
    by_cases hlt : k < 9
    · have hc1 := HK.out
      obtain ⟨P, n, U, X, hw, hq, hc⟩ := hc1
      obtain ⟨c0, c1, c2⟩ := unhide HCL wr hc k hlt
      have HP := hide (unhide HPY wr k P n U X hw hq hc hlt)
      generalize stOps.getD k .nul = o at *
      obtain ⟨K, O, N⟩ := o
      clear hw hq hc HPY HCL
      go_wp2_with fail
      refine (unhide HP).mono ?_
      rintro e w3 ⟨rfl, HQ⟩
      go_wp2
      exact ⟨⟨k + 1, by omega, by go_num, HQ⟩, by simp [intOf]; omega⟩
    · obtain ⟨P, n, U, X, hw, hq, hc⟩ := HK.out
      obtain ⟨gS, cS, gR, cR, q1, q2, q3, q4, hv⟩ := hw.view (by decide)
      have HSS : Hid (∀ W, Below wr.heap.size wr W → Below wr.heap.size wr W ∧ W.cell? ⟨gW, 0, none⟩ = some (.slice (some ⟨gS, 0, none⟩) 1 cS) ∧ W.cell? ⟨gW, 1, none⟩ = some (.slice (some ⟨gR, 0, none⟩) 1 cR) ∧ W.cell? ⟨gS, 0, none⟩ = some (.pointer (some ⟨(P 0).g, 0, none⟩)) ∧ W.cell? ⟨gR, 0, none⟩ = some (.pointer (some ⟨(P 0).g2, 0, none⟩))) := fun W hW => by
        obtain ⟨e1, e2, e3⟩ := hv W hW
        exact ⟨hW, e1, e2, e3 0 (by decide)⟩
      have hTr := (HT.out).keep ((HBW.out).trans (hc.below (HBW.out).size)) hG
      have HTO : Hid (∀ W, Below wr.heap.size wr W → Calls Tryd.prog 14 #[.pointer (some ⟨(P 0).g, 0, none⟩), .pointer (some ⟨(P 0).g2, 0, none⟩)] W fun e w' => e = .returned (.bool true) ∧ Below wr.heap.size wr w') := fun W hW =>
        (told_calls ((hw.below hW).pr (by decide)).sp ((hw.below hW).pr (by decide)).rs (hq 0 (by decide)) (hTr.below hW)).mono fun e w' ⟨e1, e2⟩ => ⟨e1, hW.trans (e2.mono hW.size)⟩
      have HC := hide ((HBW.out).trans (hc.below (HBW.out).size))
      have hzw := hc.size
      have hzb := (HBW.out).size
      generalize (P 0).g = g1 at *
      generalize (P 0).g2 = g2 at *
      clear hw hq hc hv hTr HPY HCL HW0 HT0 HK
      go_wp2_with fail
      focus (go_region_held3 (fun W => Below wr.heap.size wr W ∧ W.cell? ⟨gW, 0, none⟩ = some (.slice (some ⟨gS, 0, none⟩) 1 cS) ∧ W.cell? ⟨gW, 1, none⟩ = some (.slice (some ⟨gR, 0, none⟩) 1 cR) ∧ W.cell? ⟨gS, 0, none⟩ = some (.pointer (some ⟨g1, 0, none⟩)) ∧ W.cell? ⟨gR, 0, none⟩ = some (.pointer (some ⟨g2, 0, none⟩)))
        ((refine unhide HSS _ ?_; repeat (first | assumption | exact Below.refl _ _ | refine Below.drew ?_)))
        (first
          | (go_at_call 14; refine (unhide HTO _ (by first | assumption | exact (Below.refl _ _).drew)).mono ?_; rintro e w3 ⟨rfl, hb3⟩)))
      go_wp2
      go_ret
      exact ⟨rfl, (HC.out).trans (hb3.mono (Nat.le_trans hzb hzw))⟩
end Go.Proofs.YtifmfnkpogconaaDoor
