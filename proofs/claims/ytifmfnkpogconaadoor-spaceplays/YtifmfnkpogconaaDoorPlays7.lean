/- SpacePlays' walk. -/
import Derived.Test.YtifmfnkpogconaaDoorPlays6
import Derived.Deep.DeepCutAuto
namespace Go.Proofs.YtifmfnkpogconaaDoor
open Go.RowKit

/-- Where the lists of a World lie, behind Settle too. -/
theorem Wd.viewI {w : World} {B gW m t n : Nat} {P : Nat → Pr} {U : Nat → Value} {X : Nat → List Nat} (h : Wd w B gW m P t n U X) (hm : 0 < m) : ∃ gS cS gR cR, m ≤ cS ∧ cS ≤ 9223372036854775807 ∧ m ≤ cR ∧ cR ≤ 9223372036854775807 ∧ ∀ W, Ch B TI w W → W.cell? ⟨gW, 0, none⟩ = some (.slice (some ⟨gS, 0, none⟩) m cS) ∧ W.cell? ⟨gW, 1, none⟩ = some (.slice (some ⟨gR, 0, none⟩) m cR) ∧ ∀ i, i < m → W.cell? ⟨gS, i, none⟩ = some (.pointer (some ⟨(P i).g, 0, none⟩)) ∧ W.cell? ⟨gR, i, none⟩ = some (.pointer (some ⟨(P i).g2, 0, none⟩)) := by
  obtain ⟨vS, vR, vL, vK, NN, h1, h2, h3, h4⟩ := h.blk
  obtain ⟨ss, k1, k2, k3⟩ := h3.s
  obtain ⟨rs, k4, k5, k6⟩ := h3.r
  obtain ⟨gS, cS, hvS, q1, q2, _, hgS⟩ := k2.head (by omega)
  obtain ⟨gR, cR, hvR, q3, q4, _, hgR⟩ := k5.head (by omega)
  rw [k1] at hvS q1
  rw [k4] at hvR q3
  subst hvS hvR
  refine ⟨gS, cS, gR, cR, q1, q2, q3, q4, fun W hW => ?_⟩
  have e := hW.cells h1 (by unfold TI; decide)
  refine ⟨cell_of_row W gW 0 _ _ _ e, by rw [cell_of_row W gW 1 _ _ _ e]; rfl, fun i hi => ⟨?_, ?_⟩⟩
  · rw [(k2.ch hW (by unfold TI; decide)).cellAt (by rw [k1]; exact hi), k3 _ hi]
  · rw [(k5.ch hW (by unfold TI; decide)).cellAt (by rw [k4]; exact hi), k6 _ hi]
theorem grown_drew {a w : World} {row : Option Nat} (h : a.grownBy w row) : a.grownBy w.drew row := ⟨h.os, h.tape, h.output, h.size, h.block⟩
set_option maxRecDepth 100000 in
set_option maxHeartbeats 4000000 in
theorem plays_some {w : World} (fr to_ : Nat) {v : Value} {os : List OpI} (h1 : fr < to_) (h2 : to_ ≤ 65536) (ho : IsOps w v os) (hT : Tz w) : Calls Tryd.prog 4 #[.int .i64 (fr : Int), .int .i64 (to_ : Int), v] w fun e w' => e = .returned (.bool true) ∧ Below w.heap.size w w' := by
  have hG : 0 < w.heap.size := World.block_lt_of_cell? _ _ (hT 0 (by decide))
  obtain ⟨i0, hi0', hz0, hz1, hz2⟩ := info_part infoPS
  obtain ⟨j0, hj0, hy0, hy1, hy2⟩ := info_part infoPR
  obtain ⟨mid, hmid⟩ : ∃ mid, mid = (fr + to_ + 1) / 2 := ⟨_, rfl⟩
  have hm1 : fr < mid := by omega
  have hm2 : mid ≤ 65536 := by omega
  have H1 : Hid (Calls Tryd.prog 9 #[.int .i64 (fr : Int), .int .i64 (to_ : Int)] w fun e w' => ∃ gW, e = .returned (.tuple #[.pointer (some ⟨gW, 0, none⟩), .bool true]) ∧ Hid (MadeAt w' w.heap.size gW fr to_ ∧ Below w.heap.size w w')) := made_calls fr to_ h1 h2 hT
  have H2 : Hid (∀ w1 gW, Hid (MadeAt w1 w.heap.size gW fr to_ ∧ Below w.heap.size w w1) → Calls Tryd.prog 9 #[.int .i64 (fr : Int), .int .i64 (((fr : Int) + (to_ : Int) + 1) / 2)] w1 fun e w2 => ∃ gV, e = .returned (.tuple #[.pointer (some ⟨gV, 0, none⟩), .bool true]) ∧ Hid (MadeAt w1 w.heap.size gW fr to_ ∧ Below w.heap.size w w1 ∧ MadeAt w2 w1.heap.size gV fr mid ∧ Below w1.heap.size w1 w2)) := fun w1 gW hm => by
    obtain ⟨hMA, hb1⟩ := hm.out
    have e : ((fr : Int) + (to_ : Int) + 1) / 2 = (mid : Int) := by omega
    rw [e]
    exact (made_calls fr mid hm1 hm2 (hT.below hb1)).mono fun e w' ⟨gV, e1, e2, e3⟩ => ⟨gV, e1, hMA, hb1, e2, e3⟩
  obtain ⟨av, cv, hv, hvc, hvm, hvo⟩ := ho.val
  subst hv
  obtain ⟨L, hL⟩ : ∃ L, L = os.length := ⟨_, rfl⟩
  rw [← hL] at hvc hvo ⊢
  have HVO := hide hvo
  have HT := hide hT
  clear hT ho hL hmid
  have hfi : (0 : Int) ≤ (fr : Int) + (to_ : Int) + 1 := by omega
  go_enter Tryd.func4, Tryd.ntmps4
  go_wp2_with fail
  refine (unhide H1).mono ?_
  rintro e w1 ⟨gW, rfl, HM⟩
  have H2' := hide (unhide H2 w1 gW HM)
  clear HM H1 H2
  go_wp2_with fail
  refine (unhide H2').mono ?_
  rintro e w2 ⟨gV, rfl, HM2⟩
  obtain ⟨hMA, hb1, hMB, hb2⟩ := HM2.out
  have hz12 := hb2.size
  have hzw := hb1.size
  obtain ⟨gS, gR, vs, vr, g, g2, gw, gb, P, hwd, htw, e1, rS, rR, e2, e3, e4, hvr, hne, hgB, hsp, hrs, vL, vK, hprs, hbk, rfl, rfl⟩ := both_at hMA h1 hzw hb2 hMB
  have c1 := cell_of_row w2 gW 0 _ _ _ e1
  have c2 : w2.cell? ⟨gV, 0, none⟩ = some (.slice (some ⟨vs, 0, none⟩) 1 1) := cell_of_row w2 gV 0 _ _ _ e2
  have hAl1 : ∀ o, (w2.alloc o).cell? ⟨gW, 0, none⟩ = some (.slice (some ⟨gS, 0, none⟩) 1 1) := fun o => ((alloc_below w2 o).cell (p := ⟨gW, 0, none⟩) (World.block_lt_of_cell? _ _ c1)).trans c1
  have HF3 : Hid (∀ w3 v3, w2.grownBy w3 (Value.slice (some ⟨gS, 0, none⟩) 1 1).ownBlock → (w3.frozen? ⟨gW, 0, none⟩ = false ∧ w3.cell? ⟨gW, 0, none⟩ = some (.slice (some ⟨gS, 0, none⟩) 1 1)) ∧ Hid ((w3.setCell ⟨gW, 0, none⟩ v3).heap[gW]? = some (.cells #[v3, .slice (some ⟨gR, 0, none⟩) 1 1, .slice none 0 0, .slice none 0 0, .int .i64 0] 34 (0, 0)) ∧ Ch w.heap.size TC1 w2 (w3.setCell ⟨gW, 0, none⟩ v3) ∧ Ch w.heap.size (fun t => t = 34) w3 (w3.setCell ⟨gW, 0, none⟩ v3) ∧ (w3.setCell ⟨gW, 0, none⟩ v3).heap[gV]? = some (.cells #[.slice (some ⟨vs, 0, none⟩) 1 1, .slice (some ⟨vr, 0, none⟩) 1 1, .slice none 0 0, .slice none 0 0, .int .i64 0] 34 (0, 0)))) := fun w3 v3 hg => by
    have q1 : Ch w.heap.size (fun t => t = 35) w2 w3 := Ch.of_row rS (Nat.le_refl _) hg rfl
    have q2 := q1.cells e1 (by decide)
    have q3 : Ch w.heap.size (fun t => t = 34) w3 (w3.setCell ⟨gW, 0, none⟩ v3) := Ch.of_grown (grown_set1 w3 gW 0 v3) hgB q2 rfl
    have q4 := q1.cells e2 (by decide)
    exact ⟨⟨frozen_of_row w3 gW 0 _ _ q2, cell_of_row w3 gW 0 _ _ _ q2⟩, cells_of_set v3 q2, (q1.mono (Nat.le_refl _) fun t ht => Or.inr ht).trans (q3.mono (Nat.le_refl _) fun t ht => Or.inl ht), q3, ((grown_set1 w3 gW 0 v3).block gV (Array.getElem?_eq_some_iff.1 q4).1 (fun e => by injection e with e; exact hne e.symm)).trans q4⟩
  have HRS0 := hide rS
  have hzB : w.heap.size ≤ w2.heap.size := Nat.le_trans hzw hz12
  have HE := hide (And.intro e1 (And.intro e2 e4))
  have HRR := hide rR
  have HSP := hide hsp
  have HRS := hide hrs
  have HWD := hide hwd
  have HTW := hide htw
  have HPR := hide hprs
  have HBK := hide hbk
  have HB1 := hide hb1
  have HB2 := hide hb2
  clear HM2 hMA hMB hsp hrs hwd htw hprs hbk rS rR hb1 hb2 H2' e1 e2 e4
  go_wp2_with fail
  go_cut [6] (fun a wc => a = .bool false ∧ Hid (∃ v3, wc.heap[gW]? = some (.cells #[v3, .slice (some ⟨gR, 0, none⟩) 1 1, .slice none 0 0, .slice none 0 0, .int .i64 0] 34 (0, 0)) ∧ Ch w.heap.size TC1 w2 wc ∧ Row wc w.heap.size 35 v3 [.pointer (some ⟨(P 0).g, 0, none⟩), .pointer (some ⟨g, 0, none⟩)] ∧ wc.heap[gV]? = some (.cells #[.slice (some ⟨vs, 0, none⟩) 1 1, .slice (some ⟨vr, 0, none⟩) 1 1, .slice none 0 0, .slice none 0 0, .int .i64 0] 34 (0, 0))))
  case first =>
    focus (go_region_law (first
      | (refine step_append_lies _ (by rfl) _ _ _ (by rfl) w.heap.size 35 i0 _ 1 8 Tryd.underlying28 hi0' hz0 hz1 hz2 rfl (by omega) _ 1 _ (by rfl) (World.ownsRow.alloc HRS0.out _) ⟨w2.heap.size, 0, none⟩ 1 1 [.pointer (some ⟨g, 0, none⟩)] (by rfl) (by rfl) (cell_one_new w2 _ _) (by simp [Value.oneCell']) (by omega) (by unfold maxLen; omega) (by omega) (by simp; omega) (w2.heap.size + 1) (by simp) ?_; intro g6 c6 w6 hr6 hg6 hat6 hlt6; obtain ⟨⟨hf66, hc66⟩, HX6⟩ := unhide HF3 w6 (.slice (some ⟨g6, 0, none⟩) 2 c6) ((grown_drew (World.grownBy_alloc w2 _ _)).trans hg6))))
    all_goals (
      go_wp2
      go_meet
      obtain ⟨x1, x2, x3, x4⟩ := HX6.out
      have hrow : Row w6 w.heap.size 35 (.slice (some ⟨g6, 0, none⟩) 2 c6) [.pointer (some ⟨(P 0).g, 0, none⟩), .pointer (some ⟨g, 0, none⟩)] := hr6
      first
      | exact ⟨rfl, _, x1, x2, hrow.ch x3 (by decide), x4⟩
      | exact ⟨rfl, _, x1, x2.drew, hrow.ch x3.drew (by decide), x4⟩)
  case rest =>
    obtain ⟨rfl, HX⟩ := hcut
    obtain ⟨v3, x1, x2, x3, x4⟩ := HX.out
    obtain ⟨_, _, e4⟩ := HE.out
    have y1 : wc.cell? ⟨gW, 1, none⟩ = some (.slice (some ⟨gR, 0, none⟩) 1 1) := by rw [cell_of_row wc gW 1 _ _ _ x1]; rfl
    have y2 : wc.cell? ⟨gV, 1, none⟩ = some (.slice (some ⟨vr, 0, none⟩) 1 1) := by rw [cell_of_row wc gV 1 _ _ _ x4]; rfl
    have y3 : wc.cell? ⟨vr, 0, none⟩ = some (.pointer (some ⟨g2, 0, none⟩)) := cell_of_row wc vr 0 _ _ _ (x2.cells e4 (by unfold TC1; decide))
    have hAl2 : ∀ o, (wc.alloc o).cell? ⟨gW, 1, none⟩ = some (.slice (some ⟨gR, 0, none⟩) 1 1) := fun o => ((alloc_below wc o).cell (p := ⟨gW, 1, none⟩) (World.block_lt_of_cell? _ _ y1)).trans y1
    have rR := (HRR.out).ch x2 (by unfold TC1; decide)
    have hzc : w.heap.size ≤ wc.heap.size := Nat.le_trans hzB x2.size
    have HF5 : Hid (∀ w5 v5, wc.grownBy w5 (Value.slice (some ⟨gR, 0, none⟩) 1 1).ownBlock → Row w5 w.heap.size 36 v5 [.pointer (some ⟨(P 0).g2, 0, none⟩), .pointer (some ⟨g2, 0, none⟩)] → (w5.frozen? ⟨gW, 1, none⟩ = false ∧ w5.cell? ⟨gW, 1, none⟩ = some (.slice (some ⟨gR, 0, none⟩) 1 1)) ∧ Hid (∃ P n U X, Wd (w5.setCell ⟨gW, 1, none⟩ v5) w.heap.size gW 2 P 0 n U X ∧ Tws 2 P ∧ Below w.heap.size w (w5.setCell ⟨gW, 1, none⟩ v5))) := fun w5 v5 hg hr5 => by
      have q1 : Ch w.heap.size (fun t => t = 36) wc w5 := Ch.of_row rR (Nat.le_refl _) hg rfl
      have q2 := q1.cells x1 (by decide)
      have q3 : Ch w.heap.size (fun t => t = 34) w5 (w5.setCell ⟨gW, 1, none⟩ v5) := Ch.of_grown (grown_set1 w5 gW 1 v5) hgB q2 rfl
      have q4 : Ch w.heap.size TC wc (w5.setCell ⟨gW, 1, none⟩ v5) := (q1.mono (Nat.le_refl _) fun t ht => Or.inr (Or.inr ht)).trans (q3.mono (Nat.le_refl _) fun t ht => Or.inl ht)
      have q5 : Ch w.heap.size TC w2 (w5.setCell ⟨gW, 1, none⟩ v5) := (x2.mono (Nat.le_refl _) fun t ht => ht.imp_right Or.inl).trans q4
      have q6 : Ch w.heap.size TC w1 (w5.setCell ⟨gW, 1, none⟩ v5) := (Ch.of_below HB2.out).trans q5
      refine ⟨⟨frozen_of_row w5 gW 1 _ _ q2, by rw [cell_of_row w5 gW 1 _ _ _ q2]; rfl⟩, upd P 1 ⟨g, gw, g2, gb, fr, mid, newW (mid - fr), List.replicate (mid - fr) true⟩, 0, (fun _ => .slice none 0 0), (fun _ => []), ?_, ?_, (HB1.out).trans (q6.below hzw)⟩
      · refine (HWD.out).push (N := 0) (ss := [.pointer (some ⟨(P 0).g, 0, none⟩)]) (rs := [.pointer (some ⟨(P 0).g2, 0, none⟩)]) (by omega) HPR.out HBK.out q6 (cells_of_set v5 q2) rfl ?_ rfl ?_ ((x3.ch q1 (by decide)).ch q3 (by decide)) (hr5.ch q3 (by decide)) ⟨((HSP.out).ch q5 (by unfold TC; decide) (by unfold TC; decide)).mono hzw, ((HRS.out).ch q5 (by unfold TC; decide) (by unfold TC; decide)).mono hzw⟩ ((HSP.out).words).1 ((HRS.out).words).1
        · intro i hi
          obtain rfl : i = 0 := by omega
          rfl
        · intro i hi
          obtain rfl : i = 0 := by omega
          rfl
      · intro i hi
        by_cases e : i = 1
        · subst e; rw [upd_same]; exact Tw.new hm1
        · rw [upd_other _ _ e]; exact HTW.out i (by omega)
    have HRR2 := hide rR
    clear x1 x2 x3 x4 e4 rR HX HWD HTW HPR HBK HSP HRS HRR HE HB2 HRS0 HF3 hAl1 e3 c1 c2
    go_wp2_with fail
    go_cut [6] (fun a wd => a = .bool false ∧ Hid (∃ P n U X, Wd wd w.heap.size gW 2 P 0 n U X ∧ Tws 2 P ∧ Below w.heap.size w wd))
    case first =>
      focus (go_region_law (first
        | (refine step_append_lies _ (by rfl) _ _ _ (by rfl) w.heap.size 36 j0 _ 1 8 Tryd.underlying29 hj0 hy0 hy1 hy2 rfl (by omega) _ 1 _ (by rfl) (World.ownsRow.alloc HRR2.out _) ⟨wc.heap.size, 0, none⟩ 1 1 [.pointer (some ⟨g2, 0, none⟩)] (by rfl) (by rfl) (cell_one_new wc _ _) (by simp [Value.oneCell']) (by omega) (by unfold maxLen; omega) (by omega) (by simp; omega) (wc.heap.size + 1) (by simp) ?_; intro g6 c6 w6 hr6 hg6 hat6 hlt6; obtain ⟨⟨hf66, hc66⟩, HX6⟩ := unhide HF5 w6 (.slice (some ⟨g6, 0, none⟩) 2 c6) ((grown_drew (World.grownBy_alloc wc _ _)).trans hg6) hr6)))
      all_goals (
        go_wp2
        go_meet
        first
        | exact ⟨rfl, HX6⟩
        | (obtain ⟨P', n', U', X', z1, z2, z3⟩ := HX6.out
           exact ⟨rfl, P', n', U', X', z1.below (Below.refl _ _).drew, z2, z3.drew⟩))
    case rest =>
      obtain ⟨rfl, HX⟩ := hcut
      have HCL : Hid (∀ W, Below w.heap.size w W → ∀ k, k < L → ∃ b off, av = some ⟨b, off, none⟩ ∧ W.cell? ⟨b, off + k * 3, none⟩ = some (.int .i64 (os.getD k .nul).K) ∧ W.cell? ⟨b, off + k * 3 + 1, none⟩ = some (.int .i64 (os.getD k .nul).O) ∧ W.cell? ⟨b, off + k * 3 + 2, none⟩ = some (.int .i64 (os.getD k .nul).N)) := fun W hW k hk => by
        obtain ⟨b, off, e1, e2⟩ := HVO.out (by omega)
        obtain ⟨f1, f2, f3⟩ := e2 k hk
        exact ⟨b, off, e1, (hW.cell (p := ⟨b, _, none⟩) (World.block_lt_of_cell? _ _ f1)).trans f1, (hW.cell (p := ⟨b, _, none⟩) (World.block_lt_of_cell? _ _ f2)).trans f2, (hW.cell (p := ⟨b, _, none⟩) (World.block_lt_of_cell? _ _ f3)).trans f3⟩
      have HPY : Hid (∀ W (k m : Nat) (P : Nat → Pr) n U X (K O N : Int), Wd W w.heap.size gW m P k n U X → Tws m P → 0 < m → m ≤ 6 → Below w.heap.size w W → k < 400 → Calls Tryd.prog 11 #[.pointer (some ⟨gW, 0, none⟩), .agg #[.int .i64 K, .int .i64 O, .int .i64 N]] W fun e w' => e = .returned (.bool true) ∧ Hid (∃ m P n U X, Wd w' w.heap.size gW m P (k + 1) n U X ∧ Tws m P ∧ 0 < m ∧ m ≤ 6 ∧ Below w.heap.size w w')) := fun W k m P n U X K O N hw hq hm0 hm6 hb hk => by
        refine (plays_any hw hq ((HT.out).keep hb hG) hm0 hm6 (by omega) K O N).mono ?_
        rintro e w' ⟨e1, ⟨P', n', U', X', e2, e3⟩, e4⟩
        refine ⟨e1, _, P', n', U', X', e2, e3, ?_, ?_, hb.trans (e4.below hb.size)⟩
        · split <;> omega
        · split <;> omega
      have HUN : Hid (∀ W (k : Nat), k ≤ 400 → Hid (∃ m P n U X, Wd W w.heap.size gW m P k n U X ∧ Tws m P ∧ 0 < m ∧ m ≤ 6 ∧ Below w.heap.size w W) → Calls Tryd.prog 12 #[.pointer (some ⟨gW, 2, none⟩)] W fun e w' => e = .returned (.bool true) ∧ Hid (∃ m P n U X, Wd w' w.heap.size gW m P k n U X ∧ Tws m P ∧ 0 < m ∧ m ≤ 6 ∧ Below w.heap.size w w')) := fun W k hk hq => by
        obtain ⟨m, P, n, U, X, z1, z2, z3, z4, z5⟩ := hq.out
        exact (untouched_calls z1 (by omega)).mono fun e w' ⟨e1, e2⟩ => ⟨e1, m, P, n, U, X, z1.below e2, z2, z3, z4, z5.trans (e2.mono z5.size)⟩
      clear HF5 HRR2 hAl2 y1 y2 y3
      go_wp2_with fail
      go_loopw [11] (fun iv wr => ∃ (k : Nat), k ≤ L ∧ k ≤ 400 ∧ iv = .int .i64 (k : Int) ∧ Hid (∃ m P n U X, Wd wr w.heap.size gW m P k n U X ∧ Tws m P ∧ 0 < m ∧ m ≤ 6 ∧ Below w.heap.size w wr)) (fun i _ => 400 - (intOf i).toNat)
      case atStart =>
        obtain ⟨P', n', U', X', z1, z2, z3⟩ := HX.out
        exact ⟨0, by omega, by omega, rfl, 2, P', n', U', X', z1, z2, by decide, by decide, z3⟩
      case round =>
        obtain ⟨k, hkL, hk4, rfl, HK⟩ := hrel
        by_cases hlt : k < L ∧ k < 400
        · obtain ⟨hlt1, hlt2⟩ := hlt
          obtain ⟨m, P', n', U', X', z1, z2, z3, z4, z5⟩ := HK.out
          obtain ⟨b, off, rfl, f1, f2, f3⟩ := unhide HCL wr z5 k hlt1
          generalize os.getD k .nul = o at *
          obtain ⟨K, O, N⟩ := o
          have HP := hide (unhide HPY wr k m P' n' U' X' K O N z1 z2 z3 z4 z5 hlt2)
          have hlI : (k : Int) < (L : Int) := by omega
          have hl4 : (k : Int) < 400 := by omega
          clear z1 z2 z3 z4 z5 HX HK
          go_wp2_with fail
          refine (unhide HP).mono ?_
          rintro e w5 ⟨rfl, HQ⟩
          go_wp2_with fail
          refine (unhide HUN w5 (k + 1) (by omega) HQ).mono ?_
          rintro e w6 ⟨rfl, HQ6⟩
          go_wp2
          exact ⟨⟨k + 1, by omega, by omega, by go_num, HQ6⟩, by simp [intOf]; omega⟩
        · obtain ⟨m, P', n', U', X', z1, z2, z3, z4, z5⟩ := HK.out
          obtain ⟨gS2, cS2, gR2, cR2, q1, q2, q3, q4, hvw⟩ := z1.viewI z3
          have hTr := (HT.out).keep z5 hG
          have hTW : ∀ W, Ch w.heap.size TI wr W → Tz W := fun W hW => hTr.keep (hW.below z5.size) hG
          have HST := hide (settle_calls z1 (by omega))
          have HVW := hide hvw
          have HTO : Hid (∀ i, i < m → ∀ W, Ch w.heap.size TI wr W → Calls Tryd.prog 14 #[.pointer (some ⟨(P' i).g, 0, none⟩), .pointer (some ⟨(P' i).g2, 0, none⟩)] W fun e w' => e = .returned (.bool true) ∧ Ch w.heap.size TI wr w') := fun i hi W hW =>
            (told_calls ((z1.pr hi).sp.ch hW (by unfold TI; decide) (by unfold TI; decide)) ((z1.pr hi).rs.ch hW (by unfold TI; decide) (by unfold TI; decide)) (z2 i hi) (hTW W hW)).mono fun e w' ⟨e1, e2⟩ => ⟨e1, hW.trans (Ch.of_below e2)⟩
          have HSD : Hid (∀ W, Ch w.heap.size TI wr W → Calls Tryd.prog 10 #[] W fun e w' => e = .returned (.bool true) ∧ Below w.heap.size w w') := fun W hW => (started_calls (hTW W hW)).mono fun e w' ⟨e1, e2⟩ => ⟨e1, (z5.trans (hW.below z5.size)).trans (e2.mono (Nat.le_trans z5.size hW.size))⟩
          have hcond : ((L : Int) ≤ (k : Int)) ∨ ((k : Int) < (L : Int) ∧ (400 : Int) ≤ (k : Int)) := by omega
          clear z1 z2 z5 hvw hTr hTW HX HK HPY HUN HCL HVO hvo HT HB1 hlt
          generalize wr = w6 at *
          rcases hcond with hcd | ⟨hcd, hcd2⟩
          all_goals (
            go_wp2_with fail
            refine (unhide HST).mono ?_
            rintro e w7 ⟨rfl, hc7⟩
            have HC7 := hide hc7
            clear hc7
            go_wp2_with fail
            go_loopw [12] (fun jv W => ∃ (j : Nat), j ≤ m ∧ jv = .int .i64 (j : Int) ∧ Hid (Ch w.heap.size TI w6 W)) (fun j _ => m - (intOf j).toNat)
            case atStart => exact ⟨0, by omega, rfl, HC7⟩
            case round =>
              obtain ⟨j, hjm, rfl, HCj⟩ := hrel
              obtain ⟨c1, c2, c34⟩ := unhide HVW wr HCj.out
              by_cases hjlt : j < m
              · obtain ⟨c3, c4⟩ := c34 j hjlt
                have HTj := hide (unhide HTO j hjlt)
                have HSS : Hid (∀ W, Ch w.heap.size TI w6 W → Ch w.heap.size TI w6 W ∧ W.cell? ⟨gW, 0, none⟩ = some (.slice (some ⟨gS2, 0, none⟩) m cS2) ∧ W.cell? ⟨gW, 1, none⟩ = some (.slice (some ⟨gR2, 0, none⟩) m cR2) ∧ W.cell? ⟨gS2, j, none⟩ = some (.pointer (some ⟨(P' j).g, 0, none⟩)) ∧ W.cell? ⟨gR2, j, none⟩ = some (.pointer (some ⟨(P' j).g2, 0, none⟩))) := fun W hW => by
                  obtain ⟨d1, d2, d3⟩ := unhide HVW W hW
                  exact ⟨hW, d1, d2, d3 j hjlt⟩
                generalize (P' j).g = ga at *
                generalize (P' j).g2 = gb2 at *
                have hjI : (j : Int) < (m : Int) := by omega
                have hCw := HCj.out
                clear c34 HVW HTO HST HSD HCj HC7
                go_wp2_with fail
                focus (go_region_held3 (fun W => Ch w.heap.size TI w6 W ∧ W.cell? ⟨gW, 0, none⟩ = some (.slice (some ⟨gS2, 0, none⟩) m cS2) ∧ W.cell? ⟨gW, 1, none⟩ = some (.slice (some ⟨gR2, 0, none⟩) m cR2) ∧ W.cell? ⟨gS2, j, none⟩ = some (.pointer (some ⟨ga, 0, none⟩)) ∧ W.cell? ⟨gR2, j, none⟩ = some (.pointer (some ⟨gb2, 0, none⟩)))
                  ((refine unhide HSS _ ?_; repeat (first | assumption | refine Ch.drew ?_)))
                  (first
                    | (go_at_call 14; refine (unhide HTj _ (by first | assumption | exact hCw.drew)).mono ?_; rintro e w8 ⟨rfl, hc8⟩)))
                go_wp2
                exact ⟨⟨j + 1, by omega, by go_num, hc8⟩, by simp [intOf]; omega⟩
              · have HS9 := hide (unhide HSD wr HCj.out)
                clear c34 HVW HTO HST HSD HCj HC7
                go_wp2_with fail
                refine (unhide HS9).mono ?_
                rintro e w9 ⟨rfl, hb9⟩
                go_wp2
                go_ret
                exact ⟨rfl, hb9⟩)
theorem splays_walk {w : World} (x y : Int) {v : Value} {os : List OpI} (ho : IsOps w v os) (hT : Tz w) : Calls Tryd.prog 4 #[.int .i64 x, .int .i64 y, v] w fun e w' => e = .returned (.bool true) ∧ Below w.heap.size w w' := by
  by_cases h : x < 0 ∨ y ≤ x ∨ 65536 < y
  · exact plays_none' x y v h hT
  · obtain ⟨a, rfl⟩ : ∃ a : Nat, x = (a : Int) := ⟨x.toNat, by omega⟩
    obtain ⟨b, rfl⟩ : ∃ b : Nat, y = (b : Int) := ⟨y.toNat, by omega⟩
    exact plays_some a b (by omega) (by omega) ho hT
end Go.Proofs.YtifmfnkpogconaaDoor
