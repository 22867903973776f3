/- plays: Copy. -/
import Derived.Test.YtifmfnkpogconaaDoorPlays5
import Derived.Deep.AppendLies
namespace Go.Proofs.YtifmfnkpogconaaDoor
open Go.RowKit

theorem infoPS : (Tryd.prog.info? 35).map (fun i => (i.zero, i.size, i.bytes)) = some (some (.pointer none), 1, 8) := by kernel_rfl
theorem infoPR : (Tryd.prog.info? 36).map (fun i => (i.zero, i.size, i.bytes)) = some (some (.pointer none), 1, 8) := by kernel_rfl
section
variable {ops : Array Oper} {o : Oper} {a : Act} {Q : Exit → Act → World → Prop} {w : World} {K : Act → World → Prop} {E : Prop}
theorem step_call1 (hgd : o.guard = none) (f : Nat) (hf : ∀ (v : Value) (W : World), (callFunc f #[v]).run Tryd.prog W = .ok (.enter f #[v]) W) (x : Operand) (ts : Array TypeId) (ho : o.op = .call { callee := .value (.func f), args := #[x], argTypes := ts }) {v : Value} (hx : a.eval x = v) {R : Value → World → Prop}
    (hc : Calls Tryd.prog f #[v] w fun e w2 => ∃ r, e = .returned r ∧ R r w2) (hk : ∀ r w', R r w' → K (a.put o.dst r) w') : if Region.wanted o (yielded ops a.tmps) = true then Oper.wp Tryd.prog o a w K Q else E := by
  rw [if_pos (by simp [Region.wanted, hgd])]
  have hrun : (execOp a.eval o).run Tryd.prog w = .ok (.enter f #[v]) w := by
    have h1 := hf v w
    unfold execOp
    have hfv : a.eval (.func f) = .func (.func f) #[] #[] := rfl
    simp [ho, hx, hfv, resolve, invoke, Deferred.ofValue, h1]
  unfold Oper.wp
  rw [hrun]
  refine hc.mono ?_
  rintro e w2 ⟨r, rfl, h⟩
  exact hk r w2 h
end
theorem rcopy_enter (v : Value) (W : World) : (callFunc 37 #[v]).run Tryd.prog W = .ok (.enter 37 #[v]) W := by kernel_rfl
/-- What Copy changes. -/
def TC1 (t : TypeId) : Prop := t = 34 ∨ t = 35
def TC (t : TypeId) : Prop := t = 34 ∨ t = 35 ∨ t = 36
theorem T4C {t : TypeId} (h : TC t) : T4 t := by
  unfold TC at h; unfold T4
  rcases h with h | h | h
  · exact Or.inl h
  · exact Or.inr (Or.inr (Or.inr (Or.inr (Or.inl h))))
  · exact Or.inr (Or.inr (Or.inr (Or.inr (Or.inr h))))
theorem Sp.mono {w : World} {B B' g gw fr to_ : Nat} {ws : List Nat} (h : Sp w B g gw fr to_ ws) (hb : B' ≤ B) : Sp w B' g gw fr to_ ws := by
  obtain ⟨c, h1, h2⟩ := h.blk
  exact ⟨⟨c, h1, h2.mono hb⟩, h.rng, h.len, h.wd, h.top⟩
theorem Wd.push {w w' : World} {B gW m t n N : Nat} {P : Nat → Pr} {U : Nat → Value} {X : Nat → List Nat} {vS vR vS' vR' vL vK : Value} {ss rs : List Value} {p : Pr} (h : Wd w B gW m P t n U X) (hN : N ≤ 65540 * t) (h3 : Prs w B vS vR m P) (h4 : Bk w B vL vK n U X)
    (hc : Ch B TC w w') (hblk : w'.heap[gW]? = some (.cells #[vS', vR', vL, vK, .int .i64 (N : Int)] 34 (0, 0))) (k1 : ss.length = m) (k3 : ∀ i, i < m → ss[i]? = some (.pointer (some ⟨(P i).g, 0, none⟩))) (k4 : rs.length = m) (k6 : ∀ i, i < m → rs[i]? = some (.pointer (some ⟨(P i).g2, 0, none⟩)))
    (hS : Row w' B 35 vS' (ss ++ [.pointer (some ⟨p.g, 0, none⟩)])) (hR : Row w' B 36 vR' (rs ++ [.pointer (some ⟨p.g2, 0, none⟩)])) (hp : PrAt w' B p) (hw : w.heap.size ≤ p.gw) (hb : w.heap.size ≤ p.gb) : Wd w' B gW (m + 1) (upd P m p) t n U X := by
  have old : ∀ i, i < m → (P i).gw < w.heap.size ∧ (P i).gb < w.heap.size := fun i hi => by
    obtain ⟨_, _, _, e1⟩ := (h3.pr i hi).sp.words
    obtain ⟨_, _, _, e2⟩ := (h3.pr i hi).rs.words
    exact ⟨(Array.getElem?_eq_some_iff.1 e1).1, (Array.getElem?_eq_some_iff.1 e2).1⟩
  refine ⟨⟨vS', vR', vL, vK, N, hblk, hN, ⟨⟨_, by simp [k1], hS, fun i hi => ?_⟩, ⟨_, by simp [k4], hR, fun i hi => ?_⟩, fun i hi => ?_, fun i j hi hj hne => ?_⟩, h4.ch hc (by unfold TC; decide) (by unfold TC; decide)⟩, h.low.1, Nat.le_trans h.low.2.1 hc.size, h.low.2.2⟩
  · by_cases e : i = m
    · subst e; rw [upd_same, List.getElem?_append_right (by omega), k1, Nat.sub_self]; rfl
    · rw [upd_other _ _ e, List.getElem?_append_left (by omega)]; exact k3 i (by omega)
  · by_cases e : i = m
    · subst e; rw [upd_same, List.getElem?_append_right (by omega), k4, Nat.sub_self]; rfl
    · rw [upd_other _ _ e, List.getElem?_append_left (by omega)]; exact k6 i (by omega)
  · by_cases e : i = m
    · subst e; rw [upd_same]; exact hp
    · rw [upd_other _ _ e]; exact (h3.pr i (by omega)).ch hc (by unfold TC; decide) (by unfold TC; decide) (by unfold TC; decide) (by unfold TC; decide)
  · by_cases e : i = m
    · subst e
      rw [upd_same, upd_other _ _ (fun e => hne e.symm)]
      have := old j (by omega)
      omega
    · rw [upd_other _ _ e]
      have := old i (by omega)
      by_cases e2 : j = m
      · subst e2; rw [upd_same]; omega
      · rw [upd_other _ _ e2]; exact h3.apart i j (by omega) (by omega) hne
set_option maxRecDepth 100000 in
set_option maxHeartbeats 4000000 in
theorem plays_copy {w : World} {B gW m t n : Nat} {P : Nat → Pr} {U : Nat → Value} {X : Nat → List Nat} (h : Wd w B gW m P t n U X) (htw : Tws m P) (hT : Tz w) (hm : 0 < m) (hm6 : m < 6) (_ht : t ≤ 1000) (O N : Int) :
    Calls Tryd.prog 11 #[.pointer (some ⟨gW, 0, none⟩), .agg #[.int .i64 8, .int .i64 O, .int .i64 N]] w fun e w' => e = .returned (.bool true) ∧ Left w w' B gW (m + 1) t := by
  obtain ⟨vS, vR, vL, vK, NN, h1, h2, h3, h4⟩ := h.blk
  obtain ⟨ss, k1, k2, k3⟩ := h3.s
  obtain ⟨rs, k4, k5, k6⟩ := h3.r
  have hi : pl O m < m := pl_lt hm
  have HI := hide hi
  obtain ⟨gS, cS, hvS, q1, q2, _, hgS⟩ := k2.head (by omega)
  obtain ⟨gR, cR, hvR, q3, q4, _, hgR⟩ := k5.head (by omega)
  rw [k1] at hvS q1
  rw [k4] at hvR q3
  subst hvS hvR
  have HC : Hid (∀ W, Below w.heap.size w W → W.cell? ⟨gW, 0, none⟩ = some (.slice (some ⟨gS, 0, none⟩) m cS) ∧ W.cell? ⟨gW, 1, none⟩ = some (.slice (some ⟨gR, 0, none⟩) m cR) ∧ W.cell? ⟨gS, pl O m, none⟩ = some (.pointer (some ⟨(P (pl O m)).g, 0, none⟩)) ∧ W.cell? ⟨gR, pl O m, none⟩ = some (.pointer (some ⟨(P (pl O m)).g2, 0, none⟩))) := fun W hW => by
    have e : W.heap[gW]? = _ := (hW.block gW (Array.getElem?_eq_some_iff.1 h1).1).trans h1
    refine ⟨cell_of_row W gW 0 _ _ _ e, by rw [cell_of_row W gW 1 _ _ _ e]; rfl, ?_, ?_⟩
    · rw [(k2.below hW).cellAt (by rw [k1]; exact hi), k3 _ hi]
    · rw [(k5.below hW).cellAt (by rw [k4]; exact hi), k6 _ hi]
  have hb0 := alloc_below w (.cells #[.int .i64 8, .int .i64 O, .int .i64 N] 39)
  have hO := heap_alloc_new w (.cells #[.int .i64 8, .int .i64 O, .int .i64 N] 39)
  have HPL : Hid (∀ W, Calls Tryd.prog 15 #[.int .i64 O, .int .i64 (m : Int)] W fun e w' => e = .returned (.int .i64 ((pl O m : Nat) : Int)) ∧ w' = W) := fun W => place4_calls O m hm (by omega) W
  have hiI : ((pl O m : Nat) : Int) < (m : Int) := by omega
  have hi0 : (0 : Int) ≤ ((pl O m : Nat) : Int) := by omega
  have H := hide h
  have HT := hide hT
  have HTW := hide htw
  clear h1 h2 h3 h4 k1 k2 k3 k4 k5 k6 hi h hT htw
  go_enter Tryd.func11, Tryd.ntmps11
  go_wp2_with fail
  generalize w.alloc (.cells #[.int .i64 8, .int .i64 O, .int .i64 N] 39) = W0 at *
  obtain ⟨c0, c1, c2, c3⟩ := unhide HC W0 hb0
  have d0 : W0.cell? ⟨w.heap.size, 0, none⟩ = some (.int .i64 8) := cell_of_row W0 _ 0 _ _ _ hO
  have d1 : W0.cell? ⟨w.heap.size, 1, none⟩ = some (.int .i64 O) := by rw [cell_of_row W0 _ 1 _ _ _ hO]; rfl
  generalize hgO : w.heap.size = gO at *
  have HGO := hide hgO
  have HO := hide hO
  have HB0 := hide hb0
  clear hb0 hO hgO
  go_quiet ((go_at_call 15; exact Calls.quiet_of_same (unhide HPL _)))
  have hbq : Below gO w (W0.drewN nq) := (HB0.out).trans ((drewn_below W0 nq).mono (by rw [← HGO.out]; exact (show w.heap.size ≤ W0.heap.size by have := (HB0.out).size; omega)))
  obtain ⟨c0', c1', c2', c3'⟩ := unhide HC _ hbq
  have hO' := (((drewn_below W0 nq).block gO (Array.getElem?_eq_some_iff.1 HO.out).1).trans HO.out)
  clear c0 c1 c2 c3 d0 d1
  generalize W0.drewN nq = W at *
  rw [← HGO.out] at hbq
  have d0 : W.cell? ⟨gO, 0, none⟩ = some (.int .i64 8) := cell_of_row W _ 0 _ _ _ hO'
  have d2 : W.cell? ⟨gO, 2, none⟩ = some (.int .i64 N) := by rw [cell_of_row W _ 2 _ _ _ hO']; rfl
  have HOW := hide hO'
  have HB := hide hbq
  have h := (H.out).below hbq
  have hT := (HT.out).below hbq
  have htw := HTW.out
  clear hO' hbq HB0 H HT HO
  generalize pl O m = i at *
  have hi := HI.out
  obtain ⟨i0, hi0', hz0, hz1, hz2⟩ := info_part infoPS
  obtain ⟨j0, hj0, hy0, hy1, hy2⟩ := info_part infoPR
  obtain ⟨vS, vR, vL, vK, NN, b1, b2, b3, b4⟩ := h.blk
  obtain ⟨ss, k1, k2, k3⟩ := b3.s
  obtain ⟨rs, k4, k5, k6⟩ := b3.r
  have evS : vS = .slice (some ⟨gS, 0, none⟩) m cS := by
    have := (cell_of_row W gW 0 _ _ _ b1).symm.trans c0'
    simpa using this
  have evR : vR = .slice (some ⟨gR, 0, none⟩) m cR := by
    have := (cell_of_row W gW 1 _ _ _ b1).symm.trans c1'
    simpa using this
  subst evS evR
  have H1 := hide (spCopy_calls (h.pr hi).sp)
  have hlow := h.low
  have HF1 : Hid (∀ w1, Below W.heap.size W w1 → w1.heap[gW]? = some (.cells #[.slice (some ⟨gS, 0, none⟩) m cS, .slice (some ⟨gR, 0, none⟩) m cR, vL, vK, .int .i64 (NN : Int)] 34 (0, 0)) ∧ w1.cell? ⟨gW, 0, none⟩ = some (.slice (some ⟨gS, 0, none⟩) m cS) ∧ Row w1 B 35 (.slice (some ⟨gS, 0, none⟩) m cS) ss ∧ B ≤ w1.heap.size) := fun w1 hb => by
    have e : w1.heap[gW]? = _ := (hb.block gW (Array.getElem?_eq_some_iff.1 b1).1).trans b1
    exact ⟨e, cell_of_row w1 gW 0 _ _ _ e, k2.below hb, Nat.le_trans hlow.2.1 hb.size⟩
  have HF3 : Hid (∀ w1 w3 v3, w1.heap[gW]? = some (.cells #[.slice (some ⟨gS, 0, none⟩) m cS, .slice (some ⟨gR, 0, none⟩) m cR, vL, vK, .int .i64 (NN : Int)] 34 (0, 0)) → Row w1 B 35 (.slice (some ⟨gS, 0, none⟩) m cS) ss → w1.grownBy w3 (Value.slice (some ⟨gS, 0, none⟩) m cS).ownBlock → (w3.frozen? ⟨gW, 0, none⟩ = false ∧ w3.cell? ⟨gW, 0, none⟩ = some (.slice (some ⟨gS, 0, none⟩) m cS)) ∧ Hid ((w3.setCell ⟨gW, 0, none⟩ v3).heap[gW]? = some (.cells #[v3, .slice (some ⟨gR, 0, none⟩) m cR, vL, vK, .int .i64 (NN : Int)] 34 (0, 0)) ∧ Ch B TC1 w1 (w3.setCell ⟨gW, 0, none⟩ v3) ∧ Ch B (fun t => t = 34) w3 (w3.setCell ⟨gW, 0, none⟩ v3))) := fun w1 w3 v3 e hr hg => by
    have c1 : Ch B (fun t => t = 35) w1 w3 := Ch.of_row hr (Nat.le_refl _) hg rfl
    have e2 := c1.cells e (by decide)
    have c2 : Ch B (fun t => t = 34) w3 (w3.setCell ⟨gW, 0, none⟩ v3) := Ch.of_grown (grown_set1 w3 gW 0 v3) hlow.1 e2 rfl
    exact ⟨⟨frozen_of_row w3 gW 0 _ _ e2, cell_of_row w3 gW 0 _ _ _ e2⟩, cells_of_set v3 e2, (c1.mono (Nat.le_refl _) fun t ht => Or.inr ht).trans (c2.mono (Nat.le_refl _) fun t ht => Or.inl ht), c2⟩
  have K1 := hide k1
  have K3 := hide k3
  have K4 := hide k4
  have K5 := hide k5
  have K6 := hide k6
  have HN := hide b2
  have B3 := hide b3
  have B4 := hide b4
  have HH := hide h
  have m6 : (m : Int) < 6 := by omega
  clear h hT htw b1 b2 b3 b4 k1 k2 k3 k4 k5 k6
  go_wp2_with fail
  refine (unhide H1).mono ?_
  rintro e w1 ⟨g1, gw1, rfl, hsp1, hg1, hb1⟩
  obtain ⟨e1, e2, hS1, hB1⟩ := unhide HF1 w1 hb1
  have HSP := hide hsp1
  have HB1 := hide hb1
  clear hsp1 hb1
  go_wp2_with (at_builtin; refine wpList_append_own_at _ rfl _ _ 28 rfl B 35 i0 (.pointer none) 1 8 Tryd.underlying28 hi0' hz0 hz1 hz2 rfl (by decide) _ _ _ rfl (World.ownsRow.alloc hS1 _) ⟨w1.heap.size, 0, none⟩ 1 1 [.pointer (some ⟨g1, 0, none⟩)] rfl rfl (cell_one_new _ _ _) (by intro u hu; simp at hu; subst hu; rfl) (by have := K1.out; unfold maxLen; omega) (by have := K1.out; omega) (by simp; omega) ?_; intro v3 w3 hS3 hgr3 _ hat3; obtain ⟨a3, c3, rfl⟩ := owns_slice hS3; have hG3 := (World.grownBy_alloc w1 _ _).trans hgr3; obtain ⟨⟨hfr3, hco3⟩, HX3⟩ := unhide HF3 w1 w3 (.slice a3 (ss.length + 1) c3) e1 hS1 hG3)
  obtain ⟨e4, ch4, ch4w⟩ := HX3.out
  have hS3r : Row w3 B 35 (.slice a3 (ss.length + 1) c3) (ss ++ [.pointer (some ⟨g1, 0, none⟩)]) := by unfold Row; rw [List.length_append]; exact hS3
  have HS4 := hide (hS3r.ch ch4w (by decide))
  have HE4 := hide e4
  have HC4 : Hid (Ch B TC w1 (w3.setCell ⟨gW, 0, none⟩ (.slice a3 (ss.length + 1) c3))) := ch4.mono (Nat.le_refl _) fun t ht => ht.imp_right Or.inl
  have HSP4 := hide ((HSP.out).ch ch4 (by unfold TC1; decide) (by unfold TC1; decide))
  have c41 : (w3.setCell ⟨gW, 0, none⟩ (.slice a3 (ss.length + 1) c3)).cell? ⟨gW, 1, none⟩ = some (.slice (some ⟨gR, 0, none⟩) m cR) := by rw [cell_of_row _ gW 1 _ _ _ e4]; rfl
  have HR4 := hide (((K5.out).below HB1.out).ch ch4 (by unfold TC1; decide))
  have HRS := hide ((((HH.out).pr hi).rs.below HB1.out).ch ch4 (by unfold TC1; decide) (by unfold TC1; decide))
  have hB4 : B ≤ (w3.setCell ⟨gW, 0, none⟩ (.slice a3 (ss.length + 1) c3)).heap.size := Nat.le_trans hB1 ch4.size
  generalize hv3 : Value.slice a3 (ss.length + 1) c3 = v3 at *
  clear hv3
  generalize w3.setCell ⟨gW, 0, none⟩ v3 = W4 at *
  clear e4 ch4 ch4w hS3r hS3 hgr3 hat3 hG3 hfr3 hco3 HX3 HF3 HF1 e1 e2 hS1 H1
  have HCP : Hid (∀ W', Below W4.heap.size W4 W' → Calls Tryd.prog 37 #[.pointer (some ⟨(P i).g2, 0, none⟩)] W' fun e w5 => ∃ r, e = .returned r ∧ ∃ g5 gb5, r = .pointer (some ⟨g5, 0, none⟩) ∧ Hid (Rs w5 W4.heap.size g5 gb5 (P i).fr (P i).to_ (P i).bs ∧ W4.heap.size ≤ g5) ∧ Below W4.heap.size W4 w5) := fun W' hW =>
    (rcopy_calls ((HRS.out).below hW)).mono fun e w5 ⟨g5, gb5, q1, q2, q3, q4⟩ => ⟨_, q1, g5, gb5, rfl, ⟨q2.mono hW.size, Nat.le_trans hW.size q3⟩, hW.trans (q4.mono hW.size)⟩
  have HK5 : Hid (∀ w5, Below W4.heap.size W4 w5 → w5.cell? ⟨gW, 1, none⟩ = some (.slice (some ⟨gR, 0, none⟩) m cR) ∧ Row w5 B 36 (.slice (some ⟨gR, 0, none⟩) m cR) rs ∧ B ≤ w5.heap.size ∧ ∀ o, (w5.alloc o).cell? ⟨gW, 1, none⟩ = some (.slice (some ⟨gR, 0, none⟩) m cR)) := fun w5 hb =>
    ⟨(hb.cell (p := ⟨gW, 1, none⟩) (World.block_lt_of_cell? _ _ c41)).trans c41, (HR4.out).below hb, Nat.le_trans hB4 hb.size, fun o => by
      have e1 := (hb.cell (p := ⟨gW, 1, none⟩) (World.block_lt_of_cell? _ _ c41)).trans c41
      exact ((alloc_below w5 o).cell (p := ⟨gW, 1, none⟩) (World.block_lt_of_cell? _ _ e1)).trans e1⟩
  have HK6 : Hid (∀ w5 w6 v6, Below W4.heap.size W4 w5 → w5.grownBy w6 (Value.slice (some ⟨gR, 0, none⟩) m cR).ownBlock → w6.cell? ⟨gW, 1, none⟩ = some (.slice (some ⟨gR, 0, none⟩) m cR) ∧ w6.frozen? ⟨gW, 1, none⟩ = false ∧ Hid ((w6.setCell ⟨gW, 1, none⟩ v6).heap[gW]? = some (.cells #[v3, v6, vL, vK, .int .i64 (NN : Int)] 34 (0, 0)) ∧ Ch B TC w5 (w6.setCell ⟨gW, 1, none⟩ v6) ∧ Ch B (fun t => t = 34) w6 (w6.setCell ⟨gW, 1, none⟩ v6))) := fun w5 w6 v6 hb hg => by
    have e5 : w5.heap[gW]? = _ := (hb.block gW (Array.getElem?_eq_some_iff.1 HE4.out).1).trans HE4.out
    have c1 : Ch B (fun t => t = 36) w5 w6 := Ch.of_row ((HR4.out).below hb) (Nat.le_refl _) hg rfl
    have e6 := c1.cells e5 (by decide)
    have c2 : Ch B (fun t => t = 34) w6 (w6.setCell ⟨gW, 1, none⟩ v6) := Ch.of_grown (grown_set1 w6 gW 1 v6) hlow.1 e6 rfl
    exact ⟨by rw [cell_of_row w6 gW 1 _ _ _ e6]; rfl, frozen_of_row w6 gW 1 _ _ e6, cells_of_set v6 e6, (c1.mono (Nat.le_refl _) fun t ht => Or.inr (Or.inr ht)).trans (c2.mono (Nat.le_refl _) fun t ht => Or.inl ht), c2⟩
  focus (go_region_law (first
    | (refine step_call1 (by rfl) 37 rcopy_enter _ _ (by rfl) (by rfl) (unhide HCP _ (Below.drew (Below.refl _ _))) ?_; rintro r5 w5 ⟨g5, gb5, rfl, HQ5, hb5⟩; obtain ⟨hc55, hR5, hB5, hc56'⟩ := unhide HK5 w5 hb5; have hc56 := hc56' (.cells #[.pointer (some ⟨g5, 0, none⟩)] 36); clear hc56')
    | (refine step_append_lies _ (by rfl) _ _ _ (by rfl) B 36 j0 _ 1 8 Tryd.underlying29 hj0 hy0 hy1 hy2 rfl (by omega) _ rs.length _ (by rfl) (World.ownsRow.alloc hR5 _) ⟨w5.heap.size, 0, none⟩ 1 1 [.pointer (some ⟨g5, 0, none⟩)] (by rfl) (by rfl) (cell_one_new _ _ _) (by simp [Value.oneCell']) (by omega) (by have := K4.out; unfold maxLen; omega) (by have := K4.out; omega) (by simp; omega) (w5.heap.size + 1) (by simp) ?_; intro g6 c6 w6 hr6 hg6 hat6 hlt6; obtain ⟨hc66, hf66, HX6⟩ := unhide HK6 w5 w6 (.slice (some ⟨g6, 0, none⟩) (rs.length + 1) c6) hb5 ((World.grownBy_alloc w5 _ _).trans hg6))))
  all_goals (
    go_wp2
    go_ret
    obtain ⟨e7, ch7, ch7w⟩ := HX6.out
    have hR6 : Row w6 B 36 (.slice (some ⟨g6, 0, none⟩) (rs.length + 1) c6) (rs ++ [.pointer (some ⟨g5, 0, none⟩)]) := by unfold Row; rw [List.length_append]; exact hr6
    have c45 : Ch B TC W4 (w6.setCell ⟨gW, 1, none⟩ (.slice (some ⟨g6, 0, none⟩) (rs.length + 1) c6)) := (Ch.of_below hb5).trans ch7
    have cW : Ch B TC W (w6.setCell ⟨gW, 1, none⟩ (.slice (some ⟨g6, 0, none⟩) (rs.length + 1) c6)) := ((Ch.of_below HB1.out).trans HC4.out).trans c45
    have hS7 : Row (w6.setCell ⟨gW, 1, none⟩ (.slice (some ⟨g6, 0, none⟩) (rs.length + 1) c6)) B 35 v3 (ss ++ [.pointer (some ⟨g1, 0, none⟩)]) := by
      have c1 : Ch B (fun t => t = 36) w5 w6 := Ch.of_row hR5 (Nat.le_refl _) ((World.grownBy_alloc w5 _ _).trans hg6) rfl
      exact ((((HS4.out).below hb5).ch c1 (by decide)).ch ch7w (by decide))
    have hsz1 := (HB1.out).size
    have hsz4 := (HC4.out).size
    have hw := (HH.out).push (p := ⟨g1, gw1, g5, gb5, (P i).fr, (P i).to_, (P i).ws, (P i).bs⟩) HN.out B3.out B4.out cW e7 K1.out (unhide K3) K4.out (unhide K6) hS7 (hR6.ch ch7w (by decide)) ⟨((HSP4.out).ch c45 (by unfold TC; decide) (by unfold TC; decide)).mono hlow.2.1, ((HQ5.out).1.ch ch7 (by unfold TC; decide) (by unfold TC; decide)).mono hB4⟩ ((HSP.out).words).1 (Nat.le_trans (by omega) ((HQ5.out).1.words).1)
    refine ⟨rfl, ⟨upd P m ⟨g1, gw1, g5, gb5, (P i).fr, (P i).to_, (P i).ws, (P i).bs⟩, n, U, X, ?_, fun j hj => ?_⟩, ?_⟩
    · first
      | exact hw.more
      | exact (hw.below ((Below.refl _ _).drew)).more
    · by_cases e : j = m
      · subst e; rw [upd_same]; exact HTW.out i hi
      · rw [upd_other _ _ e]; exact HTW.out j (by omega)
    · first
      | exact (Ch.of_below HB.out).trans (cW.mono (Nat.le_refl _) fun t => T4C)
      | exact ((Ch.of_below HB.out).trans (cW.mono (Nat.le_refl _) fun t => T4C)).drew)
set_option maxRecDepth 100000 in
set_option maxHeartbeats 4000000 in
theorem plays_full {w : World} {B gW m t n : Nat} {P : Nat → Pr} {U : Nat → Value} {X : Nat → List Nat} (h : Wd w B gW m P t n U X) (htw : Tws m P) (hT : Tz w) (hm : 0 < m) (hm6 : m ≤ 6) (_ht : t ≤ 1000) (O N : Int) (hm66 : 6 ≤ m) :
    Calls Tryd.prog 11 #[.pointer (some ⟨gW, 0, none⟩), .agg #[.int .i64 8, .int .i64 O, .int .i64 N]] w fun e w' => e = .returned (.bool true) ∧ Left w w' B gW m t := by
  obtain ⟨vS, vR, vL, vK, NN, h1, h2, h3, h4⟩ := h.blk
  obtain ⟨ss, k1, k2, k3⟩ := h3.s
  obtain ⟨rs, k4, k5, k6⟩ := h3.r
  have hi : pl O m < m := pl_lt hm
  have HI := hide hi
  obtain ⟨gS, cS, hvS, q1, q2, _, hgS⟩ := k2.head (by omega)
  obtain ⟨gR, cR, hvR, q3, q4, _, hgR⟩ := k5.head (by omega)
  rw [k1] at hvS q1
  rw [k4] at hvR q3
  subst hvS hvR
  have HC : Hid (∀ W, Below w.heap.size w W → W.cell? ⟨gW, 0, none⟩ = some (.slice (some ⟨gS, 0, none⟩) m cS) ∧ W.cell? ⟨gW, 1, none⟩ = some (.slice (some ⟨gR, 0, none⟩) m cR) ∧ W.cell? ⟨gS, pl O m, none⟩ = some (.pointer (some ⟨(P (pl O m)).g, 0, none⟩)) ∧ W.cell? ⟨gR, pl O m, none⟩ = some (.pointer (some ⟨(P (pl O m)).g2, 0, none⟩))) := fun W hW => by
    have e : W.heap[gW]? = _ := (hW.block gW (Array.getElem?_eq_some_iff.1 h1).1).trans h1
    refine ⟨cell_of_row W gW 0 _ _ _ e, by rw [cell_of_row W gW 1 _ _ _ e]; rfl, ?_, ?_⟩
    · rw [(k2.below hW).cellAt (by rw [k1]; exact hi), k3 _ hi]
    · rw [(k5.below hW).cellAt (by rw [k4]; exact hi), k6 _ hi]
  have hb0 := alloc_below w (.cells #[.int .i64 8, .int .i64 O, .int .i64 N] 39)
  have hO := heap_alloc_new w (.cells #[.int .i64 8, .int .i64 O, .int .i64 N] 39)
  have HPL : Hid (∀ W, Calls Tryd.prog 15 #[.int .i64 O, .int .i64 (m : Int)] W fun e w' => e = .returned (.int .i64 ((pl O m : Nat) : Int)) ∧ w' = W) := fun W => place4_calls O m hm (by omega) W
  have hiI : ((pl O m : Nat) : Int) < (m : Int) := by omega
  have hi0 : (0 : Int) ≤ ((pl O m : Nat) : Int) := by omega
  have H := hide h
  have HT := hide hT
  have HTW := hide htw
  clear h1 h2 h3 h4 k1 k2 k3 k4 k5 k6 hi h hT htw
  go_enter Tryd.func11, Tryd.ntmps11
  go_wp2_with fail
  generalize w.alloc (.cells #[.int .i64 8, .int .i64 O, .int .i64 N] 39) = W0 at *
  obtain ⟨c0, c1, c2, c3⟩ := unhide HC W0 hb0
  have d0 : W0.cell? ⟨w.heap.size, 0, none⟩ = some (.int .i64 8) := cell_of_row W0 _ 0 _ _ _ hO
  have d1 : W0.cell? ⟨w.heap.size, 1, none⟩ = some (.int .i64 O) := by rw [cell_of_row W0 _ 1 _ _ _ hO]; rfl
  generalize hgO : w.heap.size = gO at *
  have HGO := hide hgO
  have HO := hide hO
  have HB0 := hide hb0
  clear hb0 hO hgO
  go_quiet ((go_at_call 15; exact Calls.quiet_of_same (unhide HPL _)))
  have hbq : Below gO w (W0.drewN nq) := (HB0.out).trans ((drewn_below W0 nq).mono (by rw [← HGO.out]; exact (show w.heap.size ≤ W0.heap.size by have := (HB0.out).size; omega)))
  obtain ⟨c0', c1', c2', c3'⟩ := unhide HC _ hbq
  have hO' := (((drewn_below W0 nq).block gO (Array.getElem?_eq_some_iff.1 HO.out).1).trans HO.out)
  clear c0 c1 c2 c3 d0 d1
  generalize W0.drewN nq = W at *
  rw [← HGO.out] at hbq
  have d0 : W.cell? ⟨gO, 0, none⟩ = some (.int .i64 8) := cell_of_row W _ 0 _ _ _ hO'
  have d2 : W.cell? ⟨gO, 2, none⟩ = some (.int .i64 N) := by rw [cell_of_row W _ 2 _ _ _ hO']; rfl
  have HOW := hide hO'
  have HB := hide hbq
  have h := (H.out).below hbq
  have hT := (HT.out).below hbq
  have htw := HTW.out
  clear hO' hbq HB0 H HT HO
  generalize pl O m = i at *
  have hi := HI.out
  have h' := hide h.more
  clear h hT htw
  have m6 : ¬ ((m : Int) < 6) := by omega
  have m7 : decide ((m : Int) < 6) = false := decide_eq_false m6
  go_wp2
  go_ret
  exact ⟨rfl, ⟨P, n, U, X, h'.out, HTW.out⟩, Ch.of_below HB.out⟩
end Go.Proofs.YtifmfnkpogconaaDoor
