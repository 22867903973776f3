/- chain's statements: one Step of a writer in hand. chain's statements: a writer begun. -/
import Derived.Test.YtdalbalphagmfaaGreatDoorSN
namespace Go.Proofs.YtdalbalphagmfaaGreatDoor
open Go.RowKit Go.Maps

theorem bacts_enter (v u z q : Value) (W : World) : (callFunc 28 #[v, u, z, q]).run Tryz.prog W = .ok (.enter 28 #[v, u, z, q]) W := by kernel_rfl
theorem holds_enter (v : Value) (W : World) : (callFunc 32 #[v]).run Tryz.prog W = .ok (.enter 32 #[v]) W := by kernel_rfl
section
variable {w w2 w3 : World} {gx ga ca n p gl gm B0 B ph pw gn cn k gB cB gK cK j gA : Nat} {us usB : List Value} {ims : List (List Int)} {V V' : Nat → Value} {D : AD} {s r rv rv' : Value} {bs : List Int} {ks : List Nat}
theorem Ig.put6 (h : Ig w B0 (.slice (some ⟨ga, 0, none⟩) n ca) us ims) (hn : ims.length = n) {x : Nat} (hx : x < n) {a : Option Addr} {c : Nat} {sc : List Int} (hv : IsB w (.slice a 512 c) sc) (hty : ∀ b, blkOf (.slice a 512 c) = some b → Ty w b 5) (hs : IsSec sc) :
 (∃ u, w.cell? ⟨ga, x, none⟩ = some u) ∧ w.frozen? ⟨ga, x, none⟩ = false ∧ Ig (w.setCell ⟨ga, x, none⟩ (.slice a 512 c)) B0 (.slice (some ⟨ga, 0, none⟩) n ca) (us.set x (.slice a 512 c)) (ims.set x sc) := by
 have hl := h.len
 have hxu : x < us.length := by omega
 obtain ⟨_, cl, ml, hga⟩ := row_blk h.own (g := ga) rfl
 have hu : Up (fun b => b = ga) w (w.setCell ⟨ga, x, none⟩ (.slice a 512 c)) := up_set
 have hne : ∀ b, Ty w b 5 → ¬ b = ga := fun b ⟨c1, m1, h1⟩ e => blk_unlike h1 hga (by decide) e
 refine ⟨⟨us[x], by rw [Row.cellAt h.own hxu]; exact List.getElem?_eq_getElem hxu⟩, Row.frozenAt h.own x, (Row.set h.own x _).1, by rw [List.length_set, List.length_set]; exact hl, fun i hi => ?_, fun y hy => ?_⟩
 · rw [List.length_set] at hi
   by_cases e : i = x
   · subst e
     refine ⟨a, c, List.getElem?_set_self hxu, ?_, fun b hb => (hty b hb).up hu (hne b (hty b hb))⟩
     rw [List.getD_eq_getElem?_getD, List.getElem?_set_self (by omega)]
     exact hv.up hu (fun b hb => hne b (hty b hb))
   · obtain ⟨a1, c1, q1, q2, q3⟩ := h.each i hi
     refine ⟨a1, c1, by rw [List.getElem?_set_ne (fun q => e q.symm)]; exact q1, ?_, fun b hb => (q3 b hb).up hu (hne b (q3 b hb))⟩
     rw [List.getD_eq_getElem?_getD, List.getElem?_set_ne (fun q => e q.symm), ← List.getD_eq_getElem?_getD]
     exact q2.up hu (fun b hb => hne b (q3 b hb))
 · rcases List.mem_or_eq_of_mem_set hy with hy | hy
   · exact h.secs y hy
   · rw [hy]; exact hs
/-- What a Step leaves, and what is stored behind it. -/
theorem step_facts (hA : Arr w2 gx 47 [.pointer (some ⟨p, 0, none⟩), s, .slice (some ⟨ga, 0, none⟩) n ca, r]) (hI : Ig w2 B0 (.slice (some ⟨ga, 0, none⟩) n ca) us ims) (hnl : ims.length = n) (hD : Dk w2 p gl gm V D) (hH : Hd w2 B ph p pw gn cn rv bs ks k gB cB usB gK cK j) (hj : j < k) (hks : ∀ x ∈ ks, x < n) (hab : ga ≠ gB) (hfa : ∀ b, Fw pw gn rv b → b ≠ ga ∧ b ≠ ph) {AC : List Value} (hAc : Arr w2 gA 80 AC)
 {D' : AD} (hD3 : Dk w3 p gl gm V' D') (hbk : ∀ b, blkOf rv' = some b → blkOf rv = some b) (hW3 : Wr w3 p pw gn cn rv' bs ks (j + 1)) (hU : Up (fun b => b = pw ∨ Ft p gl gm V b) w2 w3) :
 ∃ ra rc u, (∀ W, Below w3.heap.size w3 W → W.cell? ⟨gx, 2, none⟩ = some (.slice (some ⟨ga, 0, none⟩) n ca) ∧ W.cell? ⟨ph, 2, none⟩ = some (.slice (some ⟨gK, 0, none⟩) k cK) ∧ W.cell? ⟨ph, 37, none⟩ = some (.int .i64 (j : Int)) ∧ W.cell? ⟨ph, 1, none⟩ = some (.slice (some ⟨gB, 0, none⟩) k cB) ∧ W.cell? ⟨gK, j, none⟩ = some (.int .i64 ((ks.getD j 0 : Nat) : Int)) ∧ W.cell? ⟨gB, j, none⟩ = some (.slice ra 512 rc) ∧ W.cell? ⟨ga, ks.getD j 0, none⟩ = some u ∧ W.frozen? ⟨ga, ks.getD j 0, none⟩ = false) ∧
  ∀ W w4, Below w3.heap.size w3 W → W.setCell ⟨ga, ks.getD j 0, none⟩ (.slice ra 512 rc) = w4 → (w4.cell? ⟨gx, 2, none⟩ = some (.slice (some ⟨ga, 0, none⟩) n ca) ∧ w4.cell? ⟨ph, 2, none⟩ = some (.slice (some ⟨gK, 0, none⟩) k cK) ∧ w4.cell? ⟨ph, 37, none⟩ = some (.int .i64 (j : Int)) ∧ w4.cell? ⟨ph, 1, none⟩ = some (.slice (some ⟨gB, 0, none⟩) k cB) ∧ w4.cell? ⟨gK, j, none⟩ = some (.int .i64 ((ks.getD j 0 : Nat) : Int)) ∧ w4.cell? ⟨gB, j, none⟩ = some (.slice ra 512 rc)) ∧ w4.cell? ⟨ph, 37, none⟩ = some (.int .i64 (j : Int)) ∧ w4.frozen? ⟨ph, 37, none⟩ = false ∧ ∀ w5, w4.setCell ⟨ph, 37, none⟩ (.int .i64 ((j + 1 : Nat) : Int)) = w5 →
   Arr w5 gx 47 [.pointer (some ⟨p, 0, none⟩), s, .slice (some ⟨ga, 0, none⟩) n ca, r] ∧ (∃ us', Ig w5 B0 (.slice (some ⟨ga, 0, none⟩) n ca) us' (ims.set (ks.getD j 0) (sectK bs ks j))) ∧ Dk w5 p gl gm V' D' ∧ Hd w5 B ph p pw gn cn rv' bs ks k gB cB usB gK cK (j + 1) ∧ Arr w5 gA 80 AC ∧ Up (fun b => b = pw ∨ Ft p gl gm V b ∨ b = ga ∨ b = ph) w2 w5 := by
 have hpw : Ty w2 pw 136 := hH.ww.arr.ty
 have hne : ∀ {b : Nat} {t : TypeId}, Ty w2 b t → t ≠ 136 → t ≠ 123 → t ≠ 119 → ¬ (b = pw ∨ Ft p gl gm V b) := fun hb h1 h2 h3 e => by
  rcases e with e | e
  · exact h1 (hb.one (e ▸ hpw))
  · rcases hD.ty e hb with e | e
    · exact h2 e
    · exact h3 e
 obtain ⟨_, cga, mga, hga⟩ := row_blk hI.own (g := ga) rfl
 obtain ⟨_, cgB, mgB, hgB⟩ := row_blk hH.bb.own (g := gB) rfl
 obtain ⟨_, cgK, mgK, hgK⟩ := row_blk hH.kk (g := gK) rfl
 have hA3 := hA.up hU (hne hA.ty (by decide) (by decide) (by decide))
 have hP3 := hH.arr.up hU (hne hH.arr.ty (by decide) (by decide) (by decide))
 have hAc3 := hAc.up hU (hne hAc.ty (by decide) (by decide) (by decide))
 have hu8 : ∀ b, Ty w2 b 5 → ¬ (b = pw ∨ Ft p gl gm V b) := fun b hb => hne hb (by decide) (by decide) (by decide)
 have hI3 := hI.up hU (fun b hb => by cases hb; exact hne ⟨cga, mga, hga⟩ (by decide) (by decide) (by decide)) hu8
 have hB3 := hH.bb.up hU (fun b hb => by cases hb; exact hne ⟨cgB, mgB, hgB⟩ (by decide) (by decide) (by decide)) hu8
 have hK3 : Row w3 B 3 (.slice (some ⟨gK, 0, none⟩) k cK) (iV ks) := owns_up hH.kk hU (fun b hb => by cases hb; exact hne ⟨cgK, mgK, hgK⟩ (by decide) (by decide) (by decide))
 have hkl := hH.kl
 have hxn : ks.getD j 0 < n := hks _ (getD_mem (by omega))
 obtain ⟨ra, rc, q1, q2, q3⟩ := hB3.at (j := j) (by rw [List.length_map, List.length_range]; exact hj)
 have erow : ((List.range k).map (sectK bs ks)).getD j [] = sectK bs ks j := by rw [List.getD_eq_getElem?_getD, List.getElem?_map, List.getElem?_range hj]; rfl
 rw [erow] at q2
 have hsec := sectK_is hH.ww.byt ks j
 obtain ⟨⟨u, hu⟩, hfz, _⟩ := hI3.put6 hnl hxn q2 q3 hsec
 have hRl : (refV (shaOf bs) ((ks.getD 0 0 : Nat) : Int) (bs.length : Int)).length = 34 := refV_len (shaOf_len bs) _ _
 refine ⟨ra, rc, u, fun W hW => ?_, fun W w4 hW h4 => ?_⟩
 · have hP := hP3.below hW
   obtain ⟨⟨u2, hu2⟩, hfz2, _⟩ := (hI3.below hW).put6 hnl hxn (q2.below hW) (fun b hb => (q3 b hb).up (F := fun _ => False) (Up.of_below hW) (fun h => h)) hsec
   refine ⟨arr_cell (hA3.below hW) rfl, arr_cell hP rfl, arr_cell hP (handV_37 hRl), arr_cell hP rfl, bkeptC hW ?_, bkeptC hW q1, bkeptC hW hu, hfz2⟩
   rw [hK3.cellAt (by rw [iV_len]; omega)]
   exact iV_at (by omega)
 · have hF0 : Up (fun _ => False) w3 W := Up.of_below hW
   obtain ⟨_, _, hI4⟩ := (hI3.below hW).put6 hnl hxn (q2.below hW) (fun b hb => (q3 b hb).up hF0 (fun h => h)) hsec
   rw [h4] at hI4
   have hga3 : Ty W ga 26 := by
    obtain ⟨_, c, m, h⟩ := row_blk (hI3.below hW).own (g := ga) rfl
    exact ⟨c, m, h⟩
   have u4 : Up (fun b => b = ga) W w4 := by rw [← h4]; exact up_set
   have ng : ∀ {b : Nat} {t : TypeId}, Ty W b t → t ≠ 26 → ¬ b = ga := fun hb ht e => ht (hb.one (e ▸ hga3))
   have hA4 := (hA3.below hW).up u4 (ng (hA3.below hW).ty (by decide))
   have hP4 := (hP3.below hW).up u4 (ng (hP3.below hW).ty (by decide))
   have hAc4 := (hAc3.below hW).up u4 (ng (hAc3.below hW).ty (by decide))
   have hB4 := (hB3.below hW).up u4 (fun b hb e => by cases hb; exact hab e.symm) (fun b hb => ng hb (by decide))
   have hK4 : Row w4 B 3 (.slice (some ⟨gK, 0, none⟩) k cK) (iV ks) := owns_up (owns_up hK3 hF0 (fun _ _ h => h)) u4 (fun b hb => by
    obtain ⟨_, c, m, h⟩ := row_blk (owns_up hK3 hF0 (fun _ _ h => h)) hb
    exact ng ⟨c, m, h⟩ (by decide))
   have hD4 := (hD3.below hW).up u4 (fun b hb e => by rcases (hD3.below hW).ty hb (e ▸ hga3) with e | e <;> exact absurd e (by decide))
   have hW3' : Wr W p pw gn cn rv' bs ks (j + 1) := hW3.up hF0 (fun _ _ h => h)
   have hfb : ∀ b, Fw pw gn rv' b → Fw pw gn rv b := fun b hb => by
    rcases hb with hb | hb | hb
    · exact Or.inl hb
    · exact Or.inr (Or.inl hb)
    · exact Or.inr (Or.inr (hbk b hb))
   have hW4 : Wr w4 p pw gn cn rv' bs ks (j + 1) := hW3'.up u4 (fun b hb => (hfa b (hfb b hb)).1)
   have hcb : w4.cell? ⟨gB, j, none⟩ = some (.slice ra 512 rc) := u4.cell (bkeptC hW q1) (fun e => hab e.symm)
   have hck : w4.cell? ⟨gK, j, none⟩ = some (.int .i64 ((ks.getD j 0 : Nat) : Int)) := by
    rw [hK4.cellAt (by rw [iV_len]; omega)]
    exact iV_at (by omega)
   refine ⟨⟨arr_cell hA4 rfl, arr_cell hP4 rfl, arr_cell hP4 (handV_37 hRl), arr_cell hP4 rfl, hck, hcb⟩, arr_cell hP4 (handV_37 hRl), hP4.frozen 37, fun w5 h5 => ?_⟩
   have u5 : Up (fun b => b = ph) w4 w5 := by rw [← h5]; exact up_set
   have np : ∀ {b : Nat} {t : TypeId}, Ty w4 b t → t ≠ 40 → ¬ b = ph := fun hb ht e => ht (hb.one (e ▸ hP4.ty))
   have hP5 : Arr w5 ph 40 (handV pw gB k cB gK cK (refV (shaOf bs) ((ks.getD 0 0 : Nat) : Int) (bs.length : Int)) (j + 1)) := by
    rw [← h5, ← handV_set hRl (j := j)]
    exact hP4.set 37 _
   refine ⟨hA4.up u5 (np hA4.ty (by decide)), ⟨_, hI4.up u5 (fun b hb => ?_) (fun b hb => np hb (by decide))⟩, hD4.up u5 (fun b hb e => by rcases hD4.ty hb (e ▸ hP4.ty) with e | e <;> exact absurd e (by decide)), ⟨hP5, hW4.up u5 (fun b hb => (hfa b (hfb b hb)).2), hB4.up u5 (fun b hb => ?_) (fun b hb => np hb (by decide)), owns_up hK4 u5 (fun b hb => ?_), hkl⟩, hAc4.up u5 (np hAc4.ty (by decide)), ?_⟩
   · obtain ⟨_, c, m, h⟩ := row_blk hI4.own hb
     exact np ⟨c, m, h⟩ (by decide)
   · obtain ⟨_, c, m, h⟩ := row_blk hB4.own hb
     exact np ⟨c, m, h⟩ (by decide)
   · obtain ⟨_, c, m, h⟩ := row_blk hK4 hb
     exact np ⟨c, m, h⟩ (by decide)
   · have v1 : Up (fun b => b = pw ∨ Ft p gl gm V b ∨ b = ga ∨ b = ph) w2 w3 := hU.mono (fun b h => h.elim Or.inl (fun h => Or.inr (Or.inl h)))
     have v2 : Up (fun b => b = pw ∨ Ft p gl gm V b ∨ b = ga ∨ b = ph) w2 W := v1.trans hF0 (fun _ h => h.elim)
     exact (v2.trans u4 (fun b h => Or.inl (Or.inr (Or.inr (Or.inl h))))).trans u5 (fun b h => Or.inl (Or.inr (Or.inr (Or.inr h))))
set_option maxRecDepth 100000 in
set_option maxHeartbeats 8000000 in
/-- A Step that writes. -/
theorem bstep_more (hA : Arr w gx 47 [.pointer (some ⟨p, 0, none⟩), s, .slice (some ⟨ga, 0, none⟩) n ca, r]) (hI : Ig w B0 (.slice (some ⟨ga, 0, none⟩) n ca) us ims) (hnl : ims.length = n) (hD : Dk w p gl gm V D) (hDn : D.la.length = n) (hH : Hd w B ph p pw gn cn rv bs ks k gB cB usB gK cK j) (hj : j < k) (hks : ∀ x ∈ ks, x < n) (hab : ga ≠ gB) (hfa : ∀ b, Fw pw gn rv b → b ≠ ga ∧ b ≠ ph) (hX : ∀ b, Fw pw gn rv b → ¬ Ft p gl gm V b) (hT : TT w) (hn2 : n ≤ 65536)
 (hw0 : 0 ≤ D.wt) (hw1 : D.wt ≤ 1000000000) (hwl : ∀ x, (D.wr x).length ≤ 1000000000) (hr0 : 0 ≤ D.rd) (hr1 : D.rd ≤ 1000000000) :
 Calls Tryz.prog 10 #[.pointer (some ⟨gx, 0, none⟩), .pointer (some ⟨ph, 0, none⟩)] w fun e w' => e = .returned (.bool true) ∧ ∃ rv' V' us', Arr w' gx 47 [.pointer (some ⟨p, 0, none⟩), s, .slice (some ⟨ga, 0, none⟩) n ca, r] ∧ Ig w' B0 (.slice (some ⟨ga, 0, none⟩) n ca) us' (ims.set (ks.getD j 0) (sectK bs ks j)) ∧ Dk w' p gl gm V' (D.write (ks.getD j 0) (sectK bs ks j)) ∧ Hd w' B ph p pw gn cn rv' bs ks k gB cB usB gK cK (j + 1) ∧ (∀ b, Ft p gl gm V' b → Ft p gl gm V b ∨ w.heap.size ≤ b) ∧ (∀ b, blkOf rv' = some b → blkOf rv = some b) ∧ Up (fun b => b = pw ∨ Ft p gl gm V b ∨ b = ga ∨ b = ph) w w' := by
 obtain ⟨x, hx⟩ : ∃ x, ks.getD j 0 = x := ⟨_, rfl⟩
 obtain ⟨j1, hj1⟩ : ∃ j1, j + 1 = j1 := ⟨_, rfl⟩
 obtain ⟨dn, hdd⟩ : ∃ dn, decide (j1 = k) = dn := ⟨_, rfl⟩
 have hdn : ((j1 : Int) == (k : Int)) = dn := by
  rw [← hdd, Bool.eq_iff_iff]
  simp
  omega
 obtain ⟨rd, hrd⟩ : ∃ rd, D.rd = rd := ⟨_, rfl⟩
 obtain ⟨wt, hwt⟩ : ∃ wt, D.wt = wt := ⟨_, rfl⟩
 obtain ⟨fl, hfl⟩ : ∃ fl, D.fl = fl := ⟨_, rfl⟩
 have hblk := hD.blk
 rw [hrd, hwt, hfl] at hblk
 have HAC := hide (acts_calls (arr_cell hblk rfl) (arr_cell hblk rfl) (arr_cell hblk rfl))
 have hcx := arr_cell hA (j := 0) rfl
 have hkl := hH.kl
 have HST : Hid (∀ W, Below w.heap.size w W → Calls Tryz.prog 39 #[.pointer (some ⟨pw, 0, none⟩)] W fun e w' => ∃ rv' V', e = .returned (.tuple #[.bool dn, .int .i64 0]) ∧ Dk w' p gl gm V' (D.write x (sectK bs ks j)) ∧ Wr w' p pw gn cn rv' bs ks j1 ∧ (∀ b, Ft p gl gm V' b → Ft p gl gm V b ∨ W.heap.size ≤ b) ∧ (∀ b, blkOf rv' = some b → blkOf rv = some b) ∧ Up (fun b => b = pw ∨ Ft p gl gm V b) W w') := hide (fun W hW => by
  have h := wstep_calls (hD.below hW) (hH.below hW).ww hX (by omega) (fun y hy => by rw [hDn]; exact hks y hy) hw0 (by omega) (by have := hwl (ks.getD j 0); omega) (hT.below hW).tab
  rw [hx, hkl, hj1, hdd] at h
  exact h)
 have HFA : Hid (∀ w2 w3 gA AC V' rv', Below w.heap.size w w2 → Arr w2 gA 80 AC → Dk w3 p gl gm V' (D.write x (sectK bs ks j)) → (∀ b, blkOf rv' = some b → blkOf rv = some b) → Wr w3 p pw gn cn rv' bs ks j1 → Up (fun b => b = pw ∨ Ft p gl gm V b) w2 w3 →
  ∃ ra rc u, (∀ W, Below w3.heap.size w3 W → W.cell? ⟨gx, 2, none⟩ = some (.slice (some ⟨ga, 0, none⟩) n ca) ∧ W.cell? ⟨ph, 2, none⟩ = some (.slice (some ⟨gK, 0, none⟩) k cK) ∧ W.cell? ⟨ph, 37, none⟩ = some (.int .i64 (j : Int)) ∧ W.cell? ⟨ph, 1, none⟩ = some (.slice (some ⟨gB, 0, none⟩) k cB) ∧ W.cell? ⟨gK, j, none⟩ = some (.int .i64 (x : Int)) ∧ W.cell? ⟨gB, j, none⟩ = some (.slice ra 512 rc) ∧ W.cell? ⟨ga, x, none⟩ = some u ∧ W.frozen? ⟨ga, x, none⟩ = false) ∧
  ∀ W w4, Below w3.heap.size w3 W → W.setCell ⟨ga, x, none⟩ (.slice ra 512 rc) = w4 → (w4.cell? ⟨gx, 2, none⟩ = some (.slice (some ⟨ga, 0, none⟩) n ca) ∧ w4.cell? ⟨ph, 2, none⟩ = some (.slice (some ⟨gK, 0, none⟩) k cK) ∧ w4.cell? ⟨ph, 37, none⟩ = some (.int .i64 (j : Int)) ∧ w4.cell? ⟨ph, 1, none⟩ = some (.slice (some ⟨gB, 0, none⟩) k cB) ∧ w4.cell? ⟨gK, j, none⟩ = some (.int .i64 (x : Int)) ∧ w4.cell? ⟨gB, j, none⟩ = some (.slice ra 512 rc)) ∧ w4.cell? ⟨ph, 37, none⟩ = some (.int .i64 (j : Int)) ∧ w4.frozen? ⟨ph, 37, none⟩ = false ∧ ∀ w5, w4.setCell ⟨ph, 37, none⟩ (.int .i64 (j1 : Int)) = w5 →
   Arr w5 gx 47 [.pointer (some ⟨p, 0, none⟩), s, .slice (some ⟨ga, 0, none⟩) n ca, r] ∧ (∃ us', Ig w5 B0 (.slice (some ⟨ga, 0, none⟩) n ca) us' (ims.set x (sectK bs ks j))) ∧ Dk w5 p gl gm V' (D.write x (sectK bs ks j)) ∧ Hd w5 B ph p pw gn cn rv' bs ks k gB cB usB gK cK j1 ∧ Arr w5 gA 80 AC ∧ Up (fun b => b = pw ∨ Ft p gl gm V b ∨ b = ga ∨ b = ph) w2 w5) := hide (fun w2 w3 gA AC V' rv' hb hAc h1 h3 h4 h5 => by
  have h := step_facts (hA.below hb) (hI.below hb) hnl (hD.below hb) (hH.below hb) hj hks hab hfa hAc h1 h3 (by rw [hj1]; exact h4) h5
  rw [hx, hj1] at h
  exact h)
 have hxn : x < n := by rw [← hx]; exact hks _ (getD_mem (by omega))
 have HW1 : Hid (IntKind.i64.wrap (wt + 1) = wt + 1 ∧ IntKind.i64.wrap (rd + 0) = rd ∧ (D.write x (sectK bs ks j)).rd = rd ∧ (D.write x (sectK bs ks j)).wt = wt + 1 ∧ (D.write x (sectK bs ks j)).fl = fl) := hide ⟨by rw [IntKind.wrap_i64]; omega, by rw [IntKind.wrap_i64]; omega, hrd, by show D.wt + 1 = _; rw [hwt], hfl⟩
 have hgB := (hH.bb.shape (by rw [List.length_map, List.length_range]; omega))
 obtain ⟨_, _, hve, _, hcB1, hcB2⟩ := hgB
 injection hve with e1 e2 e3
 subst e3
 have hca : n ≤ ca ∧ ca ≤ 9223372036854775807 := by
  obtain ⟨_, _, hve, _, h1, h2⟩ := hI.shape (by omega)
  injection hve with _ _ e3
  subst e3
  exact ⟨by omega, h2⟩
 have hcK : k ≤ cK ∧ cK ≤ 9223372036854775807 := by
  rcases hH.kk.2 with ⟨hv, _⟩ | ⟨g', cap, cur, hv, _, _, q1, q2, _⟩
  · cases hv
  · injection hv with _ _ e3
    subst e3
    rw [iV_len, hkl] at q1
    exact ⟨by omega, by unfold maxLen at q2; omega⟩
 rw [List.length_map, List.length_range] at hcB1
 have hk9 : k ≤ 2185 := by have := hH.ww.pos; omega
 have hxp := hH.cells.1
 obtain ⟨hca1, hca2⟩ := hca
 obtain ⟨hcK1, hcK2⟩ := hcK
 have hxpB : ∀ W, Below w.heap.size w W → W.cell? ⟨ph, 0, none⟩ = some (.pointer (some ⟨pw, 0, none⟩)) := fun W hW => bkeptC hW hxp
 have HXP := hide hxpB
 have ej1 : IntKind.i64.wrap ((j : Int) + 1) = (j1 : Int) := by rw [IntKind.wrap_i64]; omega
 rw [hx, hj1]
 clear hA hI hnl hD hDn hH hks hab hfa hX hT hblk hkl hw0 hw1 hwl hr0 hr1 e1 e2 hx hrd hwt hfl hxpB hxp hj1 hdd
 go_enter Tryz.func10, Tryz.ntmps10
 go_wp2_with fail
 refine (unhide HAC).mono ?_
 rintro e w1 ⟨rfl, hb1⟩
 obtain ⟨gA, hgA⟩ : ∃ gA, w1.heap.size = gA := ⟨_, rfl⟩
 have hA3 := Arr.new w1 [.int .i64 0, .int .i64 0, .int .i64 0] 80
 rw [hgA] at hA3
 have hiA : (Tryz.prog.info? 80).map (·.size) = some [Value.int .i64 rd, .int .i64 wt, .int .i64 fl].length := by kernel_rfl
 have h1A : ∀ u ∈ [Value.int .i64 rd, .int .i64 wt, .int .i64 fl], u.oneCell' = true := by simp [Value.oneCell']
 have HB2 : Hid (∀ w2, Wrote (w1.alloc (.cells #[.int .i64 0, .int .i64 0, .int .i64 0] 80)) w2 gA → Below w.heap.size w w2) := hide (fun w2 hW2 => hW2.below _ _ (hb1.alloc hb1.size _) (by rw [← hgA]; exact hb1.size))
 have HGA := hide hgA
 clear HAC hb1 hgA
 go_wp2_with (first
  | (refine wpList_storeArr2 (cs' := [Value.int .i64 rd, .int .i64 wt, .int .i64 fl]) rfl (.tmp 5) (.tmp 13) 80 rfl rfl rfl hA3 hiA rfl h1A ?_; intro w2 hAc2 hWr2
     have hb2 := unhide HB2 w2 hWr2
     have hxp := unhide HXP w2 hb2
     have HST2 := hide (unhide HST w2 hb2)
     have HAC2 := hide hAc2
     have HBB2 := hide hb2
     clear hAc2 hWr2 hb2 hA3)
  | rw [HGA.out])
 refine (unhide HST2).mono ?_
 rintro e w3 ⟨rv', V', rfl, hD3, hW3, hFt3, hbk3, hU3⟩
 obtain ⟨ra, rc, u, hc3, hq4⟩ := unhide HFA w2 w3 gA _ V' rv' HBB2.out HAC2.out hD3 hbk3 hW3 hU3
 have HC3 := hide hc3
 have HQ4 := hide hq4
 have HFT := hide (And.intro hFt3 hbk3)
 have hjI : (j : Int) < (k : Int) := by omega
 have hxI : (x : Int) < (n : Int) := by omega
 clear hD3 hW3 hFt3 hbk3 hU3 HFA HST HST2 HAC2 hc3 hq4
 have hx3 : Below w3.heap.size w3 w3.drew := (Below.refl _ _).drew
 go_wp2_with fail
 refine wp_region_held_drew (S := fun W => W.cell? ⟨ph, 2, none⟩ = some (.slice (some ⟨gK, 0, none⟩) k cK) ∧ W.cell? ⟨ph, 37, none⟩ = some (.int .i64 (j : Int))) (by kernel_rfl) (⟨(unhide HC3 _ hx3).2.1, (unhide HC3 _ hx3).2.2.1⟩) (fun hHeld => ?_)
 refine wpAnyH_take (i := 0) (v := .pointer (some ⟨ph, 0, none⟩)) rfl (by kernel_rfl) (by kernel_rfl) (by kernel_rfl) (fun _ _ _ h => h) (Or.inl ⟨by rfl, fun w hSw => by obtain ⟨hS1, hS2⟩ := hSw; go_simp⟩) (by assumption) ?_
 simp only [fGa, fGz, Act.put, fSa, fSz, fSs]
 refine wpAnyH_take (i := 1) (v := .pointer (some ⟨ph, 0, none⟩)) rfl (by kernel_rfl) (by kernel_rfl) (by kernel_rfl) (fun _ _ _ h => h) (Or.inl ⟨by rfl, fun w hSw => by obtain ⟨hS1, hS2⟩ := hSw; go_simp⟩) (by assumption) ?_
 simp only [fGa, fGs, fGz, Act.put, fSa, fSz, fSs]
 refine wpAnyH_take (i := 2) (v := .pointer (some ⟨ph, 37, none⟩)) rfl (by kernel_rfl) (by kernel_rfl) (by kernel_rfl) (fun _ _ _ h => h) (Or.inl ⟨by rfl, fun w hSw => by obtain ⟨hS1, hS2⟩ := hSw; go_simp⟩) (by assumption) ?_
 simp only [fGa, fGs, fGz, Act.put, fSa, fSz, fSs]
 refine wpAnyH_take (i := 3) (v := .int .i64 (j : Int)) rfl (by kernel_rfl) (by kernel_rfl) (by kernel_rfl) (fun _ _ _ h => h) (Or.inl ⟨by rfl, fun w hSw => by obtain ⟨hS1, hS2⟩ := hSw; go_simp⟩) (by assumption) ?_
 simp only [fGa, fGs, fGz, Act.put, fSa, fSz, fSs]
 refine wpAnyH_take (i := 4) (v := .pointer (some ⟨ph, 0, none⟩)) rfl (by kernel_rfl) (by kernel_rfl) (by kernel_rfl) (fun _ _ _ h => h) (Or.inl ⟨by rfl, fun w hSw => by obtain ⟨hS1, hS2⟩ := hSw; go_simp⟩) (by assumption) ?_
 simp only [fGa, fGs, fGz, Act.put, fSa, fSz, fSs]
 refine wpAnyH_take (i := 5) (v := .pointer (some ⟨ph, 0, none⟩)) rfl (by kernel_rfl) (by kernel_rfl) (by kernel_rfl) (fun _ _ _ h => h) (Or.inl ⟨by rfl, fun w hSw => by obtain ⟨hS1, hS2⟩ := hSw; go_simp⟩) (by assumption) ?_
 simp only [fGa, fGs, fGz, Act.put, fSa, fSz, fSs]
 refine wpAnyH_take (i := 6) (v := .pointer (some ⟨ph, 2, none⟩)) rfl (by kernel_rfl) (by kernel_rfl) (by kernel_rfl) (fun _ _ _ h => h) (Or.inl ⟨by rfl, fun w hSw => by obtain ⟨hS1, hS2⟩ := hSw; go_simp⟩) (by assumption) ?_
 simp only [fGa, fGs, fGz, Act.put, fSa, fSz, fSs]
 refine wpAnyH_take (i := 7) (v := .slice (some ⟨gK, 0, none⟩) k cK) rfl (by kernel_rfl) (by kernel_rfl) (by kernel_rfl) (fun _ _ _ h => h) (Or.inl ⟨by rfl, fun w hSw => by obtain ⟨hS1, hS2⟩ := hSw; go_simp⟩) (by assumption) ?_
 simp only [fGa, fGs, fGz, Act.put, fSa, fSz, fSs]
 refine wpAnyH_take (i := 8) (v := .int .i64 (k : Int)) rfl (by kernel_rfl) (by kernel_rfl) (by kernel_rfl) (fun _ _ _ h => h) (Or.inl ⟨by rfl, fun w hSw => by obtain ⟨hS1, hS2⟩ := hSw; go_simp⟩) (by assumption) ?_
 simp only [fGa, fGs, fGz, Act.put, fSa, fSz, fSs]
 refine wpAnyH_take (i := 9) (v := .bool true) rfl (by kernel_rfl) (by kernel_rfl) (by kernel_rfl) (fun _ _ _ h => h) (Or.inl ⟨by rfl, fun w hSw => by obtain ⟨hS1, hS2⟩ := hSw; go_simp⟩) (by assumption) ?_
 simp only [fGa, fGs, fGz, Act.put, fSa, fSz, fSs]
 refine wpAnyH_done (by kernel_rfl) ?_ _
 go_wp2_with fail
 have hx3d : Below w3.heap.size w3 w3.drew.drew := hx3.trans ((Below.refl _ _).drew : Below w3.drew.heap.size w3.drew w3.drew.drew)
 obtain ⟨_, _, _, _, _, _, hcu, hcf⟩ := unhide HC3 _ hx3d
 refine wp_region_held_drew (S := fun W => W.cell? ⟨gx, 2, none⟩ = some (.slice (some ⟨ga, 0, none⟩) n ca) ∧ W.cell? ⟨ph, 2, none⟩ = some (.slice (some ⟨gK, 0, none⟩) k cK) ∧ W.cell? ⟨ph, 37, none⟩ = some (.int .i64 (j : Int)) ∧ W.cell? ⟨ph, 1, none⟩ = some (.slice (some ⟨gB, 0, none⟩) k cB) ∧ W.cell? ⟨gK, j, none⟩ = some (.int .i64 (x : Int)) ∧ W.cell? ⟨gB, j, none⟩ = some (.slice ra 512 rc)) (by kernel_rfl) (by obtain ⟨q1, q2, q3, q4, q5, q6, _, _⟩ := unhide HC3 _ hx3d; exact ⟨q1, q2, q3, q4, q5, q6⟩) (fun hHeld => ?_)
 refine wpAnyH_take (i := 0) (v := .pointer (some ⟨gx, 0, none⟩)) rfl (by kernel_rfl) (by kernel_rfl) (by kernel_rfl) (fun _ _ _ h => h) (Or.inl ⟨by rfl, fun w hSw => by obtain ⟨hS1, hS2, hS3, hS4, hS5, hS6⟩ := hSw; go_simp⟩) (by assumption) ?_
 simp only [fGa, fGz, Act.put, fSa, fSz, fSs]
 refine wpAnyH_take (i := 1) (v := .pointer (some ⟨gx, 0, none⟩)) rfl (by kernel_rfl) (by kernel_rfl) (by kernel_rfl) (fun _ _ _ h => h) (Or.inl ⟨by rfl, fun w hSw => by obtain ⟨hS1, hS2, hS3, hS4, hS5, hS6⟩ := hSw; go_simp⟩) (by assumption) ?_
 simp only [fGa, fGs, fGz, Act.put, fSa, fSz, fSs]
 refine wpAnyH_take (i := 2) (v := .pointer (some ⟨gx, 2, none⟩)) rfl (by kernel_rfl) (by kernel_rfl) (by kernel_rfl) (fun _ _ _ h => h) (Or.inl ⟨by rfl, fun w hSw => by obtain ⟨hS1, hS2, hS3, hS4, hS5, hS6⟩ := hSw; go_simp⟩) (by assumption) ?_
 simp only [fGa, fGs, fGz, Act.put, fSa, fSz, fSs]
 refine wpAnyH_take (i := 3) (v := .slice (some ⟨ga, 0, none⟩) n ca) rfl (by kernel_rfl) (by kernel_rfl) (by kernel_rfl) (fun _ _ _ h => h) (Or.inl ⟨by rfl, fun w hSw => by obtain ⟨hS1, hS2, hS3, hS4, hS5, hS6⟩ := hSw; go_simp⟩) (by assumption) ?_
 simp only [fGa, fGs, fGz, Act.put, fSa, fSz, fSs]
 refine wpAnyH_take (i := 4) (v := .pointer (some ⟨ph, 0, none⟩)) rfl (by kernel_rfl) (by kernel_rfl) (by kernel_rfl) (fun _ _ _ h => h) (Or.inl ⟨by rfl, fun w hSw => by obtain ⟨hS1, hS2, hS3, hS4, hS5, hS6⟩ := hSw; go_simp⟩) (by assumption) ?_
 simp only [fGa, fGs, fGz, Act.put, fSa, fSz, fSs]
 refine wpAnyH_take (i := 5) (v := .pointer (some ⟨ph, 0, none⟩)) rfl (by kernel_rfl) (by kernel_rfl) (by kernel_rfl) (fun _ _ _ h => h) (Or.inl ⟨by rfl, fun w hSw => by obtain ⟨hS1, hS2, hS3, hS4, hS5, hS6⟩ := hSw; go_simp⟩) (by assumption) ?_
 simp only [fGa, fGs, fGz, Act.put, fSa, fSz, fSs]
 refine wpAnyH_take (i := 6) (v := .pointer (some ⟨ph, 2, none⟩)) rfl (by kernel_rfl) (by kernel_rfl) (by kernel_rfl) (fun _ _ _ h => h) (Or.inl ⟨by rfl, fun w hSw => by obtain ⟨hS1, hS2, hS3, hS4, hS5, hS6⟩ := hSw; go_simp⟩) (by assumption) ?_
 simp only [fGa, fGs, fGz, Act.put, fSa, fSz, fSs]
 refine wpAnyH_take (i := 7) (v := .slice (some ⟨gK, 0, none⟩) k cK) rfl (by kernel_rfl) (by kernel_rfl) (by kernel_rfl) (fun _ _ _ h => h) (Or.inl ⟨by rfl, fun w hSw => by obtain ⟨hS1, hS2, hS3, hS4, hS5, hS6⟩ := hSw; go_simp⟩) (by assumption) ?_
 simp only [fGa, fGs, fGz, Act.put, fSa, fSz, fSs]
 refine wpAnyH_take (i := 8) (v := .pointer (some ⟨ph, 0, none⟩)) rfl (by kernel_rfl) (by kernel_rfl) (by kernel_rfl) (fun _ _ _ h => h) (Or.inl ⟨by rfl, fun w hSw => by obtain ⟨hS1, hS2, hS3, hS4, hS5, hS6⟩ := hSw; go_simp⟩) (by assumption) ?_
 simp only [fGa, fGs, fGz, Act.put, fSa, fSz, fSs]
 refine wpAnyH_take (i := 9) (v := .pointer (some ⟨ph, 0, none⟩)) rfl (by kernel_rfl) (by kernel_rfl) (by kernel_rfl) (fun _ _ _ h => h) (Or.inl ⟨by rfl, fun w hSw => by obtain ⟨hS1, hS2, hS3, hS4, hS5, hS6⟩ := hSw; go_simp⟩) (by assumption) ?_
 simp only [fGa, fGs, fGz, Act.put, fSa, fSz, fSs]
 refine wpAnyH_take (i := 10) (v := .pointer (some ⟨ph, 37, none⟩)) rfl (by kernel_rfl) (by kernel_rfl) (by kernel_rfl) (fun _ _ _ h => h) (Or.inl ⟨by rfl, fun w hSw => by obtain ⟨hS1, hS2, hS3, hS4, hS5, hS6⟩ := hSw; go_simp⟩) (by assumption) ?_
 simp only [fGa, fGs, fGz, Act.put, fSa, fSz, fSs]
 refine wpAnyH_take (i := 11) (v := .int .i64 (j : Int)) rfl (by kernel_rfl) (by kernel_rfl) (by kernel_rfl) (fun _ _ _ h => h) (Or.inl ⟨by rfl, fun w hSw => by obtain ⟨hS1, hS2, hS3, hS4, hS5, hS6⟩ := hSw; go_simp⟩) (by assumption) ?_
 simp only [fGa, fGs, fGz, Act.put, fSa, fSz, fSs]
 refine wpAnyH_take (i := 12) (v := .pointer (some ⟨gK, j, none⟩)) rfl (by kernel_rfl) (by kernel_rfl) (by kernel_rfl) (fun _ _ _ h => h) (Or.inl ⟨by rfl, fun w hSw => by obtain ⟨hS1, hS2, hS3, hS4, hS5, hS6⟩ := hSw; go_simp⟩) (by assumption) ?_
 simp only [fGa, fGs, fGz, Act.put, fSa, fSz, fSs]
 refine wpAnyH_take (i := 13) (v := .int .i64 (x : Int)) rfl (by kernel_rfl) (by kernel_rfl) (by kernel_rfl) (fun _ _ _ h => h) (Or.inl ⟨by rfl, fun w hSw => by obtain ⟨hS1, hS2, hS3, hS4, hS5, hS6⟩ := hSw; go_simp⟩) (by assumption) ?_
 simp only [fGa, fGs, fGz, Act.put, fSa, fSz, fSs]
 refine wpAnyH_take (i := 14) (v := .pointer (some ⟨ph, 0, none⟩)) rfl (by kernel_rfl) (by kernel_rfl) (by kernel_rfl) (fun _ _ _ h => h) (Or.inl ⟨by rfl, fun w hSw => by obtain ⟨hS1, hS2, hS3, hS4, hS5, hS6⟩ := hSw; go_simp⟩) (by assumption) ?_
 simp only [fGa, fGs, fGz, Act.put, fSa, fSz, fSs]
 refine wpAnyH_take (i := 15) (v := .pointer (some ⟨ph, 0, none⟩)) rfl (by kernel_rfl) (by kernel_rfl) (by kernel_rfl) (fun _ _ _ h => h) (Or.inl ⟨by rfl, fun w hSw => by obtain ⟨hS1, hS2, hS3, hS4, hS5, hS6⟩ := hSw; go_simp⟩) (by assumption) ?_
 simp only [fGa, fGs, fGz, Act.put, fSa, fSz, fSs]
 refine wpAnyH_take (i := 16) (v := .pointer (some ⟨ph, 1, none⟩)) rfl (by kernel_rfl) (by kernel_rfl) (by kernel_rfl) (fun _ _ _ h => h) (Or.inl ⟨by rfl, fun w hSw => by obtain ⟨hS1, hS2, hS3, hS4, hS5, hS6⟩ := hSw; go_simp⟩) (by assumption) ?_
 simp only [fGa, fGs, fGz, Act.put, fSa, fSz, fSs]
 refine wpAnyH_take (i := 17) (v := .slice (some ⟨gB, 0, none⟩) k cB) rfl (by kernel_rfl) (by kernel_rfl) (by kernel_rfl) (fun _ _ _ h => h) (Or.inl ⟨by rfl, fun w hSw => by obtain ⟨hS1, hS2, hS3, hS4, hS5, hS6⟩ := hSw; go_simp⟩) (by assumption) ?_
 simp only [fGa, fGs, fGz, Act.put, fSa, fSz, fSs]
 refine wpAnyH_take (i := 18) (v := .pointer (some ⟨ph, 0, none⟩)) rfl (by kernel_rfl) (by kernel_rfl) (by kernel_rfl) (fun _ _ _ h => h) (Or.inl ⟨by rfl, fun w hSw => by obtain ⟨hS1, hS2, hS3, hS4, hS5, hS6⟩ := hSw; go_simp⟩) (by assumption) ?_
 simp only [fGa, fGs, fGz, Act.put, fSa, fSz, fSs]
 refine wpAnyH_take (i := 19) (v := .pointer (some ⟨ph, 0, none⟩)) rfl (by kernel_rfl) (by kernel_rfl) (by kernel_rfl) (fun _ _ _ h => h) (Or.inl ⟨by rfl, fun w hSw => by obtain ⟨hS1, hS2, hS3, hS4, hS5, hS6⟩ := hSw; go_simp⟩) (by assumption) ?_
 simp only [fGa, fGs, fGz, Act.put, fSa, fSz, fSs]
 refine wpAnyH_take (i := 20) (v := .pointer (some ⟨ph, 37, none⟩)) rfl (by kernel_rfl) (by kernel_rfl) (by kernel_rfl) (fun _ _ _ h => h) (Or.inl ⟨by rfl, fun w hSw => by obtain ⟨hS1, hS2, hS3, hS4, hS5, hS6⟩ := hSw; go_simp⟩) (by assumption) ?_
 simp only [fGa, fGs, fGz, Act.put, fSa, fSz, fSs]
 refine wpAnyH_take (i := 21) (v := .int .i64 (j : Int)) rfl (by kernel_rfl) (by kernel_rfl) (by kernel_rfl) (fun _ _ _ h => h) (Or.inl ⟨by rfl, fun w hSw => by obtain ⟨hS1, hS2, hS3, hS4, hS5, hS6⟩ := hSw; go_simp⟩) (by assumption) ?_
 simp only [fGa, fGs, fGz, Act.put, fSa, fSz, fSs]
 refine wpAnyH_take (i := 22) (v := .pointer (some ⟨gB, j, none⟩)) rfl (by kernel_rfl) (by kernel_rfl) (by kernel_rfl) (fun _ _ _ h => h) (Or.inl ⟨by rfl, fun w hSw => by obtain ⟨hS1, hS2, hS3, hS4, hS5, hS6⟩ := hSw; go_simp⟩) (by assumption) ?_
 simp only [fGa, fGs, fGz, Act.put, fSa, fSz, fSs]
 refine wpAnyH_take (i := 23) (v := .slice (ra) 512 rc) rfl (by kernel_rfl) (by kernel_rfl) (by kernel_rfl) (fun _ _ _ h => h) (Or.inl ⟨by rfl, fun w hSw => by obtain ⟨hS1, hS2, hS3, hS4, hS5, hS6⟩ := hSw; go_simp⟩) (by assumption) ?_
 simp only [fGa, fGs, fGz, Act.put, fSa, fSz, fSs]
 refine wpAnyH_take (i := 24) (v := .pointer (some ⟨ga, x, none⟩)) rfl (by kernel_rfl) (by kernel_rfl) (by kernel_rfl) (fun _ _ _ h => h) (Or.inl ⟨by rfl, fun w hSw => by obtain ⟨hS1, hS2, hS3, hS4, hS5, hS6⟩ := hSw; go_simp⟩) (by assumption) ?_
 simp only [fGa, fGs, fGz, Act.put, fSa, fSz, fSs]
 refine wpAnyH_ready (rs := [25]) (by kernel_rfl) (by simp) (AllReadyH.cons rfl (fun K hK => ?_) AllReadyH.nil)
 refine step_storeBs (v := .slice ra 512 rc) (by rfl) (.tmp 56) (.tmp 55) rfl rfl rfl rfl hcu hcf ?_
 refine hK.out _ _ ((unhide HQ4 _ _ hx3d rfl).1) (fun hJ1 => ?_)
 clear hK K
 simp only [fGa, fGs, fGz, Act.put]
 refine wpAnyH_done (by kernel_rfl) ?_ _
 clear hHeld hJ1
 obtain ⟨w4, hw4⟩ : ∃ w4, w3.drew.drew.setCell ⟨ga, x, none⟩ (.slice ra 512 rc) = w4 := ⟨_, rfl⟩
 obtain ⟨_, hc4, hf4, hq5⟩ := unhide HQ4 _ w4 hx3d hw4
 obtain ⟨w5, hw5⟩ : ∃ w5, w4.setCell ⟨ph, 37, none⟩ (.int .i64 (j1 : Int)) = w5 := ⟨_, rfl⟩
 have HQ5 := hide (hq5 w5 hw5)
 have HW5 := hide hw5
 rw [hw4]
 clear hw4 hw5 hq5 HQ4 HC3 hcu hcf hx3 hx3d
 go_wp2_with fail
 rw [HW5.out]
 obtain ⟨hA5, hI5, hD5, hH5, hAc5, hU5⟩ := HQ5.out
 have HS8 : Hid (∀ W, Below w5.heap.size w5 W → W.rangeAt gA 0 [Value.int .i64 rd, .int .i64 wt, .int .i64 fl] ∧ W.cell? ⟨ph, 37, none⟩ = some (.int .i64 (j1 : Int)) ∧ W.cell? ⟨ph, 2, none⟩ = some (.slice (some ⟨gK, 0, none⟩) k cK)) := hide (fun W hW => by
  obtain ⟨_, _, c3, c4, _⟩ := (hH5.below hW).cells
  exact ⟨arr_range (ds := []) (by rw [List.append_nil]; exact hAc5.below hW), c4, c3⟩)
 have HA8 : Hid (∀ W, Below w5.heap.size w5 W → Calls Tryz.prog 28 #[.pointer (some ⟨gx, 0, none⟩), .agg [Value.int .i64 rd, .int .i64 wt, .int .i64 fl].toArray, .int .i64 0, .int .i64 1] W fun e w' => e = .returned (.bool true) ∧ Below W.heap.size W w') := hide (fun W hW => by
  have hblk := (hD5.below hW).blk
  obtain ⟨q1, q2, q3, q4, q5⟩ := HW1.out
  rw [q3, q4, q5] at hblk
  exact bacts_calls (arr_cell (hA5.below hW) rfl) (arr_cell hblk rfl) (arr_cell hblk rfl) (arr_cell hblk rfl) q2 q1)
 have HH8 : Hid (∀ W, Below w5.heap.size w5 W → Calls Tryz.prog 32 #[.pointer (some ⟨ph, 0, none⟩)] W fun e w' => e = .returned (.bool true) ∧ Below W.heap.size W w') := hide (fun W hW => holds_calls (hH5.below hW))
 have HFI : Hid (∀ W, Below w5.heap.size w5 W → ∃ rv' V' us', Arr W gx 47 [.pointer (some ⟨p, 0, none⟩), s, .slice (some ⟨ga, 0, none⟩) n ca, r] ∧ Ig W B0 (.slice (some ⟨ga, 0, none⟩) n ca) us' (ims.set x (sectK bs ks j)) ∧ Dk W p gl gm V' (D.write x (sectK bs ks j)) ∧ Hd W B ph p pw gn cn rv' bs ks k gB cB usB gK cK j1 ∧ (∀ b, Ft p gl gm V' b → Ft p gl gm V b ∨ w.heap.size ≤ b) ∧ (∀ b, blkOf rv' = some b → blkOf rv = some b) ∧ Up (fun b => b = pw ∨ Ft p gl gm V b ∨ b = ga ∨ b = ph) w W) := hide (fun W hW => by
  obtain ⟨us', hI5⟩ := hI5
  have hb2 := HBB2.out
  refine ⟨rv', V', us', hA5.below hW, hI5.below hW, hD5.below hW, hH5.below hW, fun b hb => ?_, HFT.out.2, ?_⟩
  · rcases HFT.out.1 b hb with h | h
    · exact Or.inl h
    · exact Or.inr (Nat.le_trans hb2.size h)
  · refine ((Up.of_below hb2).trans hU5 (fun b h => Or.inl h)).then_below hW)
 clear hA5 hI5 hD5 hH5 hAc5 hU5 HQ5 hc4 hf4 HW1 HFT HBB2 HXP hxp hcx
 have hy0 : Below w5.heap.size w5 w5.drew := (Below.refl _ _).drew
 refine wp_region_held_drew (S := fun W => W.rangeAt gA 0 [Value.int .i64 rd, .int .i64 wt, .int .i64 fl] ∧ W.cell? ⟨ph, 37, none⟩ = some (.int .i64 (j1 : Int)) ∧ W.cell? ⟨ph, 2, none⟩ = some (.slice (some ⟨gK, 0, none⟩) k cK)) (by kernel_rfl) (unhide HS8 _ hy0) (fun hHeld => ?_)
 refine wpAnyH_take (i := 0) (v := .pointer (some ⟨gx, 0, none⟩)) rfl (by kernel_rfl) (by kernel_rfl) (by kernel_rfl) (fun _ _ _ h => h) (Or.inl ⟨by rfl, fun w hSw => by obtain ⟨hS1, hS2, hS3⟩ := hSw; go_simp⟩) (by assumption) ?_
 simp only [fGa, fGz, Act.put, fSa, fSz, fSs]
 refine wpAnyH_take (i := 1) (v := .agg ([Value.int .i64 rd, .int .i64 wt, .int .i64 fl]).toArray) rfl (by kernel_rfl) (by kernel_rfl) (by kernel_rfl) (fun _ _ _ h => h) (yieldsIf_load_mid (by rfl) _ _ rfl _ _ rfl _ _ (fun w hSw => hSw.1) Tryz.underlying80 rfl hiA) (by assumption) ?_
 simp only [fGa, fGs, fGz, Act.put, fSa, fSz, fSs]
 refine wpAnyH_take (i := 2) (v := .int .i64 1) rfl (by kernel_rfl) (by kernel_rfl) (by kernel_rfl) (fun _ _ _ h => h) (Or.inl ⟨by rfl, fun w hSw => by obtain ⟨hS1, hS2, hS3⟩ := hSw; go_simp⟩) (by assumption) ?_
 simp only [fGa, fGs, fGz, Act.put, fSa, fSz, fSs]
 refine wpAnyH_ready (rs := [3]) (by kernel_rfl) (by simp) (AllReadyH.cons rfl (fun K hK => ?_) AllReadyH.nil)
 refine step_call4C (by rfl) 28 bacts_enter (.tmp 64) (.tmp 65) (.const (.int .i64 0)) (.tmp 66) _ rfl rfl rfl rfl rfl (unhide HA8 _ hy0) ?_
 rintro e wa ⟨rfl, hba⟩
 have hy1 : Below w5.heap.size w5 wa := hy0.trans (hba.mono hy0.size)
 refine ⟨_, rfl, ?_⟩
 refine hK.out _ _ (unhide HS8 _ hy1) (fun hK1 => ?_)
 clear hK K
 simp only [fGa, fGs, fGz, Act.put, fSa, fSz, fSs]
 refine wpAnyH_take (i := 4) (v := .bool true) rfl (by kernel_rfl) (by kernel_rfl) (by kernel_rfl) (fun _ _ _ h => h) (Or.inl ⟨by rfl, fun w hSw => by obtain ⟨hS1, hS2, hS3⟩ := hSw; go_simp⟩) (by assumption) ?_
 simp only [fGa, fGs, fGz, Act.put, fSa, fSz, fSs]
 refine wpAnyH_take (i := 5) (v := .bool dn) rfl (by kernel_rfl) (by kernel_rfl) (by kernel_rfl) (fun _ _ _ h => h) (Or.inl ⟨by rfl, fun w hSw => by obtain ⟨hS1, hS2, hS3⟩ := hSw; go_simp⟩) (by assumption) ?_
 simp only [fGa, fGs, fGz, Act.put, fSa, fSz, fSs]
 refine wpAnyH_take (i := 6) (v := .pointer (some ⟨ph, 0, none⟩)) rfl (by kernel_rfl) (by kernel_rfl) (by kernel_rfl) (fun _ _ _ h => h) (Or.inl ⟨by rfl, fun w hSw => by obtain ⟨hS1, hS2, hS3⟩ := hSw; go_simp⟩) (by assumption) ?_
 simp only [fGa, fGs, fGz, Act.put, fSa, fSz, fSs]
 refine wpAnyH_take (i := 7) (v := .pointer (some ⟨ph, 0, none⟩)) rfl (by kernel_rfl) (by kernel_rfl) (by kernel_rfl) (fun _ _ _ h => h) (Or.inl ⟨by rfl, fun w hSw => by obtain ⟨hS1, hS2, hS3⟩ := hSw; go_simp⟩) (by assumption) ?_
 simp only [fGa, fGs, fGz, Act.put, fSa, fSz, fSs]
 refine wpAnyH_take (i := 8) (v := .pointer (some ⟨ph, 37, none⟩)) rfl (by kernel_rfl) (by kernel_rfl) (by kernel_rfl) (fun _ _ _ h => h) (Or.inl ⟨by rfl, fun w hSw => by obtain ⟨hS1, hS2, hS3⟩ := hSw; go_simp⟩) (by assumption) ?_
 simp only [fGa, fGs, fGz, Act.put, fSa, fSz, fSs]
 refine wpAnyH_take (i := 9) (v := .int .i64 (j1 : Int)) rfl (by kernel_rfl) (by kernel_rfl) (by kernel_rfl) (fun _ _ _ h => h) (Or.inl ⟨by rfl, fun w hSw => by obtain ⟨hS1, hS2, hS3⟩ := hSw; go_simp⟩) (by assumption) ?_
 simp only [fGa, fGs, fGz, Act.put, fSa, fSz, fSs]
 refine wpAnyH_take (i := 10) (v := .pointer (some ⟨ph, 0, none⟩)) rfl (by kernel_rfl) (by kernel_rfl) (by kernel_rfl) (fun _ _ _ h => h) (Or.inl ⟨by rfl, fun w hSw => by obtain ⟨hS1, hS2, hS3⟩ := hSw; go_simp⟩) (by assumption) ?_
 simp only [fGa, fGs, fGz, Act.put, fSa, fSz, fSs]
 refine wpAnyH_take (i := 11) (v := .pointer (some ⟨ph, 0, none⟩)) rfl (by kernel_rfl) (by kernel_rfl) (by kernel_rfl) (fun _ _ _ h => h) (Or.inl ⟨by rfl, fun w hSw => by obtain ⟨hS1, hS2, hS3⟩ := hSw; go_simp⟩) (by assumption) ?_
 simp only [fGa, fGs, fGz, Act.put, fSa, fSz, fSs]
 refine wpAnyH_take (i := 12) (v := .pointer (some ⟨ph, 2, none⟩)) rfl (by kernel_rfl) (by kernel_rfl) (by kernel_rfl) (fun _ _ _ h => h) (Or.inl ⟨by rfl, fun w hSw => by obtain ⟨hS1, hS2, hS3⟩ := hSw; go_simp⟩) (by assumption) ?_
 simp only [fGa, fGs, fGz, Act.put, fSa, fSz, fSs]
 refine wpAnyH_take (i := 13) (v := .slice (some ⟨gK, 0, none⟩) k cK) rfl (by kernel_rfl) (by kernel_rfl) (by kernel_rfl) (fun _ _ _ h => h) (Or.inl ⟨by rfl, fun w hSw => by obtain ⟨hS1, hS2, hS3⟩ := hSw; go_simp⟩) (by assumption) ?_
 simp only [fGa, fGs, fGz, Act.put, fSa, fSz, fSs]
 refine wpAnyH_take (i := 14) (v := .int .i64 (k : Int)) rfl (by kernel_rfl) (by kernel_rfl) (by kernel_rfl) (fun _ _ _ h => h) (Or.inl ⟨by rfl, fun w hSw => by obtain ⟨hS1, hS2, hS3⟩ := hSw; go_simp⟩) (by assumption) ?_
 simp only [fGa, fGs, fGz, Act.put, fSa, fSz, fSs]
 refine wpAnyH_take (i := 15) (v := .bool dn) rfl (by kernel_rfl) (by kernel_rfl) (by kernel_rfl) (fun _ _ _ h => h) (Or.inl ⟨by rfl, fun w hSw => by obtain ⟨hS1, hS2, hS3⟩ := hSw; go_simp⟩) (by assumption) ?_
 simp only [fGa, fGs, fGz, Act.put, fSa, fSz, fSs]
 refine wpAnyH_take (i := 16) (v := .bool true) rfl (by kernel_rfl) (by kernel_rfl) (by kernel_rfl) (fun _ _ _ h => h) (Or.inl ⟨by rfl, fun w hSw => by obtain ⟨hS1, hS2, hS3⟩ := hSw; go_simp⟩) (by assumption) ?_
 simp only [fGa, fGs, fGz, Act.put, fSa, fSz, fSs]
 refine wpAnyH_take (i := 17) (v := .bool true) rfl (by kernel_rfl) (by kernel_rfl) (by kernel_rfl) (fun _ _ _ h => h) (Or.inl ⟨by rfl, fun w hSw => by obtain ⟨hS1, hS2, hS3⟩ := hSw; go_simp⟩) (by assumption) ?_
 simp only [fGa, fGs, fGz, Act.put, fSa, fSz, fSs]
 refine wpAnyH_take (i := 18) (v := .bool true) rfl (by kernel_rfl) (by kernel_rfl) (by kernel_rfl) (fun _ _ _ h => h) (Or.inl ⟨by rfl, fun w hSw => by obtain ⟨hS1, hS2, hS3⟩ := hSw; go_simp⟩) (by assumption) ?_
 simp only [fGa, fGs, fGz, Act.put, fSa, fSz, fSs]
 refine wpAnyH_take (i := 19) (v := .int .i64 0) rfl (by kernel_rfl) (by kernel_rfl) (by kernel_rfl) (fun _ _ _ h => h) (Or.inl ⟨by rfl, fun w hSw => by obtain ⟨hS1, hS2, hS3⟩ := hSw; go_simp⟩) (by assumption) ?_
 simp only [fGa, fGs, fGz, Act.put, fSa, fSz, fSs]
 refine wpAnyH_ready (rs := [20]) (by kernel_rfl) (by simp) (AllReadyH.cons rfl (fun K hK => ?_) AllReadyH.nil)
 refine step_call1GC (by rfl) 19 num6_enter (.tmp 83) _ rfl rfl (num6_calls 0 _) ?_
 rintro e wn ⟨rfl, hwn⟩
 obtain rfl := hwn.symm
 clear hwn
 refine ⟨_, rfl, ?_⟩
 refine hK.out _ _ (unhide HS8 _ hy1) (fun hK2 => ?_)
 clear hK K
 simp only [fGa, fGs, fGz, Act.put, fSa, fSz, fSs]
 refine wpAnyH_take (i := 21) (v := .bool true) rfl (by kernel_rfl) (by kernel_rfl) (by kernel_rfl) (fun _ _ _ h => h) (Or.inl ⟨by rfl, fun w hSw => by obtain ⟨hS1, hS2, hS3⟩ := hSw; go_simp⟩) (by assumption) ?_
 simp only [fGa, fGs, fGz, Act.put, fSa, fSz, fSs]
 refine wpAnyH_take (i := 22) (v := .bool true) rfl (by kernel_rfl) (by kernel_rfl) (by kernel_rfl) (fun _ _ _ h => h) (Or.inl ⟨by rfl, fun w hSw => by obtain ⟨hS1, hS2, hS3⟩ := hSw; go_simp⟩) (by assumption) ?_
 simp only [fGa, fGs, fGz, Act.put, fSa, fSz, fSs]
 refine wpAnyH_take (i := 23) (v := .bool true) rfl (by kernel_rfl) (by kernel_rfl) (by kernel_rfl) (fun _ _ _ h => h) (Or.inl ⟨by rfl, fun w hSw => by obtain ⟨hS1, hS2, hS3⟩ := hSw; go_simp⟩) (by assumption) ?_
 simp only [fGa, fGs, fGz, Act.put, fSa, fSz, fSs]
 refine wpAnyH_take (i := 24) (v := .pointer (some ⟨ph, 0, none⟩)) rfl (by kernel_rfl) (by kernel_rfl) (by kernel_rfl) (fun _ _ _ h => h) (Or.inl ⟨by rfl, fun w hSw => by obtain ⟨hS1, hS2, hS3⟩ := hSw; go_simp⟩) (by assumption) ?_
 simp only [fGa, fGs, fGz, Act.put, fSa, fSz, fSs]
 refine wpAnyH_ready (rs := [25]) (by kernel_rfl) (by simp) (AllReadyH.cons rfl (fun K hK => ?_) AllReadyH.nil)
 refine step_call1GC (by rfl) 32 holds_enter (.tmp 88) _ rfl rfl (unhide HH8 _ hy1) ?_
 rintro e wb ⟨rfl, hbb⟩
 have hy2 : Below w5.heap.size w5 wb := hy1.trans (hbb.mono hy1.size)
 refine ⟨_, rfl, ?_⟩
 refine hK.out _ _ (unhide HS8 _ hy2) (fun hK3 => ?_)
 clear hK K
 simp only [fGa, fGs, fGz, Act.put, fSa, fSz, fSs]
 refine wpAnyH_take (i := 26) (v := .bool true) rfl (by kernel_rfl) (by kernel_rfl) (by kernel_rfl) (fun _ _ _ h => h) (Or.inl ⟨by rfl, fun w hSw => by obtain ⟨hS1, hS2, hS3⟩ := hSw; go_simp⟩) (by assumption) ?_
 simp only [fGa, fGs, fGz, Act.put, fSa, fSz, fSs]
 refine wpAnyH_take (i := 27) (v := .bool true) rfl (by kernel_rfl) (by kernel_rfl) (by kernel_rfl) (fun _ _ _ h => h) (Or.inl ⟨by rfl, fun w hSw => by obtain ⟨hS1, hS2, hS3⟩ := hSw; go_simp⟩) (by assumption) ?_
 simp only [fGa, fGs, fGz, Act.put, fSa, fSz, fSs]
 refine wpAnyH_done (by kernel_rfl) ?_ _
 go_wp2
 go_ret
 exact ⟨rfl, unhide HFI _ hy2⟩
set_option maxRecDepth 100000 in
set_option maxHeartbeats 8000000 in
/-- A Step behind the end. -/
theorem bstep_end (hA : Arr w gx 47 [.pointer (some ⟨p, 0, none⟩), s, .slice (some ⟨ga, 0, none⟩) n ca, r]) (hD : Dk w p gl gm V D) (hH : Hd w B ph p pw gn cn rv bs ks k gB cB usB gK cK k) (hw0 : 0 ≤ D.wt) (hw1 : D.wt ≤ 1000000000) (hr0 : 0 ≤ D.rd) (hr1 : D.rd ≤ 1000000000) :
 Calls Tryz.prog 10 #[.pointer (some ⟨gx, 0, none⟩), .pointer (some ⟨ph, 0, none⟩)] w fun e w' => e = .returned (.bool true) ∧ Below w.heap.size w w' := by
 obtain ⟨rd, hrd⟩ : ∃ rd, D.rd = rd := ⟨_, rfl⟩
 obtain ⟨wt, hwt⟩ : ∃ wt, D.wt = wt := ⟨_, rfl⟩
 obtain ⟨fl, hfl⟩ : ∃ fl, D.fl = fl := ⟨_, rfl⟩
 have hblk := hD.blk
 rw [hrd, hwt, hfl] at hblk
 have HAC := hide (acts_calls (arr_cell hblk rfl) (arr_cell hblk rfl) (arr_cell hblk rfl))
 have hcx := arr_cell hA (j := 0) rfl
 have hkl := hH.kl
 have HST : Hid (∀ W, Below w.heap.size w W → Calls Tryz.prog 39 #[.pointer (some ⟨pw, 0, none⟩)] W fun e w' => e = .returned (.tuple #[.bool true, .int .i64 0]) ∧ Below W.heap.size W w') := hide (fun W hW => by
  have h := (hH.below hW).ww
  rw [← hkl] at h
  exact wstep_done h)
 have HW1 : Hid (IntKind.i64.wrap (wt + 0) = wt ∧ IntKind.i64.wrap (rd + 0) = rd) := hide ⟨by rw [IntKind.wrap_i64]; omega, by rw [IntKind.wrap_i64]; omega⟩
 have HALL : Hid (∀ W, Below w.heap.size w W → W.cell? ⟨ph, 0, none⟩ = some (.pointer (some ⟨pw, 0, none⟩)) ∧ W.cell? ⟨ph, 37, none⟩ = some (.int .i64 (k : Int)) ∧ W.cell? ⟨ph, 2, none⟩ = some (.slice (some ⟨gK, 0, none⟩) k cK) ∧ Calls Tryz.prog 32 #[.pointer (some ⟨ph, 0, none⟩)] W (fun e w' => e = .returned (.bool true) ∧ Below W.heap.size W w') ∧ Calls Tryz.prog 28 #[.pointer (some ⟨gx, 0, none⟩), .agg [Value.int .i64 rd, .int .i64 wt, .int .i64 fl].toArray, .int .i64 0, .int .i64 0] W (fun e w' => e = .returned (.bool true) ∧ Below W.heap.size W w')) := hide (fun W hW => by
  obtain ⟨c1, _, c3, c4, _⟩ := (hH.below hW).cells
  have hb2 := hblk.below hW
  obtain ⟨q1, q2⟩ := HW1.out
  exact ⟨c1, c4, c3, holds_calls (hH.below hW), bacts_calls (arr_cell (hA.below hW) rfl) (arr_cell hb2 rfl) (arr_cell hb2 rfl) (arr_cell hb2 rfl) q2 q1⟩)
 have hdn : ((k : Int) == (k : Int)) = true := by simp
 clear hA hD hH hblk hkl hw0 hw1 hr0 hr1 hrd hwt hfl HW1
 go_enter Tryz.func10, Tryz.ntmps10
 go_wp2_with fail
 refine (unhide HAC).mono ?_
 rintro e w1 ⟨rfl, hb1⟩
 obtain ⟨gA, hgA⟩ : ∃ gA, w1.heap.size = gA := ⟨_, rfl⟩
 have hA3 := Arr.new w1 [.int .i64 0, .int .i64 0, .int .i64 0] 80
 rw [hgA] at hA3
 have hiA : (Tryz.prog.info? 80).map (·.size) = some [Value.int .i64 rd, .int .i64 wt, .int .i64 fl].length := by kernel_rfl
 have h1A : ∀ u ∈ [Value.int .i64 rd, .int .i64 wt, .int .i64 fl], u.oneCell' = true := by simp [Value.oneCell']
 have HB2 : Hid (∀ w2, Wrote (w1.alloc (.cells #[.int .i64 0, .int .i64 0, .int .i64 0] 80)) w2 gA → Below w.heap.size w w2) := hide (fun w2 hW2 => hW2.below _ _ (hb1.alloc hb1.size _) (by rw [← hgA]; exact hb1.size))
 have HGA := hide hgA
 clear HAC hb1 hgA
 go_wp2_with (first
  | (refine wpList_storeArr2 (cs' := [Value.int .i64 rd, .int .i64 wt, .int .i64 fl]) rfl (.tmp 5) (.tmp 13) 80 rfl rfl rfl hA3 hiA rfl h1A ?_; intro w2 hAc2 hWr2
     have hb2 := unhide HB2 w2 hWr2
     have hxp := (unhide HALL w2 hb2).1
     have HST2 := hide (unhide HST w2 hb2)
     have HAC2 := hide hAc2
     have HBB2 := hide hb2
     clear hAc2 hWr2 hb2 hA3)
  | rw [HGA.out])
 refine (unhide HST2).mono ?_
 rintro e w3 ⟨rfl, hb3⟩
 have hbw3 : Below w.heap.size w w3 := HBB2.out.trans (hb3.mono HBB2.out.size)
 have HAC3 := hide (HAC2.out.below hb3)
 have HBW3 := hide hbw3
 have hx3 : Below w3.heap.size w3 w3.drew := (Below.refl _ _).drew
 have HC3 : Hid (∀ W, Below w3.heap.size w3 W → W.cell? ⟨ph, 2, none⟩ = some (.slice (some ⟨gK, 0, none⟩) k cK) ∧ W.cell? ⟨ph, 37, none⟩ = some (.int .i64 (k : Int))) := hide (fun W hW => by
  obtain ⟨_, c2, c3, _⟩ := unhide HALL W (hbw3.trans (hW.mono hbw3.size))
  exact ⟨c3, c2⟩)
 clear HST HST2 HAC2 HBB2 hb3 hbw3
 go_wp2_with fail
 refine wp_region_held_drew (S := fun W => W.cell? ⟨ph, 2, none⟩ = some (.slice (some ⟨gK, 0, none⟩) k cK) ∧ W.cell? ⟨ph, 37, none⟩ = some (.int .i64 (k : Int))) (by kernel_rfl) (unhide HC3 _ hx3) (fun hHeld => ?_)
 refine wpAnyH_take (i := 0) (v := .pointer (some ⟨ph, 0, none⟩)) rfl (by kernel_rfl) (by kernel_rfl) (by kernel_rfl) (fun _ _ _ h => h) (Or.inl ⟨by rfl, fun w hSw => by obtain ⟨hS1, hS2⟩ := hSw; go_simp⟩) (by assumption) ?_
 simp only [fGa, fGz, Act.put, fSa, fSz, fSs]
 refine wpAnyH_take (i := 1) (v := .pointer (some ⟨ph, 0, none⟩)) rfl (by kernel_rfl) (by kernel_rfl) (by kernel_rfl) (fun _ _ _ h => h) (Or.inl ⟨by rfl, fun w hSw => by obtain ⟨hS1, hS2⟩ := hSw; go_simp⟩) (by assumption) ?_
 simp only [fGa, fGs, fGz, Act.put, fSa, fSz, fSs]
 refine wpAnyH_take (i := 2) (v := .pointer (some ⟨ph, 37, none⟩)) rfl (by kernel_rfl) (by kernel_rfl) (by kernel_rfl) (fun _ _ _ h => h) (Or.inl ⟨by rfl, fun w hSw => by obtain ⟨hS1, hS2⟩ := hSw; go_simp⟩) (by assumption) ?_
 simp only [fGa, fGs, fGz, Act.put, fSa, fSz, fSs]
 refine wpAnyH_take (i := 3) (v := .int .i64 (k : Int)) rfl (by kernel_rfl) (by kernel_rfl) (by kernel_rfl) (fun _ _ _ h => h) (Or.inl ⟨by rfl, fun w hSw => by obtain ⟨hS1, hS2⟩ := hSw; go_simp⟩) (by assumption) ?_
 simp only [fGa, fGs, fGz, Act.put, fSa, fSz, fSs]
 refine wpAnyH_take (i := 4) (v := .pointer (some ⟨ph, 0, none⟩)) rfl (by kernel_rfl) (by kernel_rfl) (by kernel_rfl) (fun _ _ _ h => h) (Or.inl ⟨by rfl, fun w hSw => by obtain ⟨hS1, hS2⟩ := hSw; go_simp⟩) (by assumption) ?_
 simp only [fGa, fGs, fGz, Act.put, fSa, fSz, fSs]
 refine wpAnyH_take (i := 5) (v := .pointer (some ⟨ph, 0, none⟩)) rfl (by kernel_rfl) (by kernel_rfl) (by kernel_rfl) (fun _ _ _ h => h) (Or.inl ⟨by rfl, fun w hSw => by obtain ⟨hS1, hS2⟩ := hSw; go_simp⟩) (by assumption) ?_
 simp only [fGa, fGs, fGz, Act.put, fSa, fSz, fSs]
 refine wpAnyH_take (i := 6) (v := .pointer (some ⟨ph, 2, none⟩)) rfl (by kernel_rfl) (by kernel_rfl) (by kernel_rfl) (fun _ _ _ h => h) (Or.inl ⟨by rfl, fun w hSw => by obtain ⟨hS1, hS2⟩ := hSw; go_simp⟩) (by assumption) ?_
 simp only [fGa, fGs, fGz, Act.put, fSa, fSz, fSs]
 refine wpAnyH_take (i := 7) (v := .slice (some ⟨gK, 0, none⟩) k cK) rfl (by kernel_rfl) (by kernel_rfl) (by kernel_rfl) (fun _ _ _ h => h) (Or.inl ⟨by rfl, fun w hSw => by obtain ⟨hS1, hS2⟩ := hSw; go_simp⟩) (by assumption) ?_
 simp only [fGa, fGs, fGz, Act.put, fSa, fSz, fSs]
 refine wpAnyH_take (i := 8) (v := .int .i64 (k : Int)) rfl (by kernel_rfl) (by kernel_rfl) (by kernel_rfl) (fun _ _ _ h => h) (Or.inl ⟨by rfl, fun w hSw => by obtain ⟨hS1, hS2⟩ := hSw; go_simp⟩) (by assumption) ?_
 simp only [fGa, fGs, fGz, Act.put, fSa, fSz, fSs]
 refine wpAnyH_take (i := 9) (v := .bool false) rfl (by kernel_rfl) (by kernel_rfl) (by kernel_rfl) (fun _ _ _ h => h) (Or.inl ⟨by rfl, fun w hSw => by obtain ⟨hS1, hS2⟩ := hSw; go_simp⟩) (by assumption) ?_
 simp only [fGa, fGs, fGz, Act.put, fSa, fSz, fSs]
 refine wpAnyH_done (by kernel_rfl) ?_ _
 go_wp2_with fail
 obtain ⟨w5, hw5⟩ : ∃ w5, w3.drew = w5 := ⟨_, rfl⟩
 have HAC5 := hide (HAC3.out.below hx3)
 have HBW5 := hide (HBW3.out.trans (hx3.mono HBW3.out.size))
 rw [hw5] at HAC5 HBW5 ⊢
 have HS8 : Hid (∀ W, Below w5.heap.size w5 W → W.rangeAt gA 0 [Value.int .i64 rd, .int .i64 wt, .int .i64 fl] ∧ W.cell? ⟨ph, 37, none⟩ = some (.int .i64 (k : Int)) ∧ W.cell? ⟨ph, 2, none⟩ = some (.slice (some ⟨gK, 0, none⟩) k cK)) := hide (fun W hW => by
  obtain ⟨_, c2, c3, _⟩ := unhide HALL W (HBW5.out.trans (hW.mono HBW5.out.size))
  exact ⟨arr_range (ds := []) (by rw [List.append_nil]; exact HAC5.out.below hW), c2, c3⟩)
 have HA8 : Hid (∀ W, Below w5.heap.size w5 W → Calls Tryz.prog 28 #[.pointer (some ⟨gx, 0, none⟩), .agg [Value.int .i64 rd, .int .i64 wt, .int .i64 fl].toArray, .int .i64 0, .int .i64 0] W fun e w' => e = .returned (.bool true) ∧ Below W.heap.size W w') := hide (fun W hW => (unhide HALL W (HBW5.out.trans (hW.mono HBW5.out.size))).2.2.2.2)
 have HH8 : Hid (∀ W, Below w5.heap.size w5 W → Calls Tryz.prog 32 #[.pointer (some ⟨ph, 0, none⟩)] W fun e w' => e = .returned (.bool true) ∧ Below W.heap.size W w') := hide (fun W hW => (unhide HALL W (HBW5.out.trans (hW.mono HBW5.out.size))).2.2.2.1)
 clear hw5 HAC3 HBW3 HC3 hx3 HAC5 HALL hHeld
 have hy0 : Below w5.heap.size w5 w5.drew := (Below.refl _ _).drew
 refine wp_region_held_drew (S := fun W => W.rangeAt gA 0 [Value.int .i64 rd, .int .i64 wt, .int .i64 fl] ∧ W.cell? ⟨ph, 37, none⟩ = some (.int .i64 (k : Int)) ∧ W.cell? ⟨ph, 2, none⟩ = some (.slice (some ⟨gK, 0, none⟩) k cK)) (by kernel_rfl) (unhide HS8 _ hy0) (fun hHeld => ?_)
 refine wpAnyH_take (i := 0) (v := .pointer (some ⟨gx, 0, none⟩)) rfl (by kernel_rfl) (by kernel_rfl) (by kernel_rfl) (fun _ _ _ h => h) (Or.inl ⟨by rfl, fun w hSw => by obtain ⟨hS1, hS2, hS3⟩ := hSw; go_simp⟩) (by assumption) ?_
 simp only [fGa, fGz, Act.put, fSa, fSz, fSs]
 refine wpAnyH_take (i := 1) (v := .agg ([Value.int .i64 rd, .int .i64 wt, .int .i64 fl]).toArray) rfl (by kernel_rfl) (by kernel_rfl) (by kernel_rfl) (fun _ _ _ h => h) (yieldsIf_load_mid (by rfl) _ _ rfl _ _ rfl _ _ (fun w hSw => hSw.1) Tryz.underlying80 rfl hiA) (by assumption) ?_
 simp only [fGa, fGs, fGz, Act.put, fSa, fSz, fSs]
 refine wpAnyH_take (i := 2) (v := .int .i64 0) rfl (by kernel_rfl) (by kernel_rfl) (by kernel_rfl) (fun _ _ _ h => h) (Or.inl ⟨by rfl, fun w hSw => by obtain ⟨hS1, hS2, hS3⟩ := hSw; go_simp⟩) (by assumption) ?_
 simp only [fGa, fGs, fGz, Act.put, fSa, fSz, fSs]
 refine wpAnyH_ready (rs := [3]) (by kernel_rfl) (by simp) (AllReadyH.cons rfl (fun K hK => ?_) AllReadyH.nil)
 refine step_call4C (by rfl) 28 bacts_enter (.tmp 64) (.tmp 65) (.const (.int .i64 0)) (.tmp 66) _ rfl rfl rfl rfl rfl (unhide HA8 _ hy0) ?_
 rintro e wa ⟨rfl, hba⟩
 have hy1 : Below w5.heap.size w5 wa := hy0.trans (hba.mono hy0.size)
 refine ⟨_, rfl, ?_⟩
 refine hK.out _ _ (unhide HS8 _ hy1) (fun hK1 => ?_)
 clear hK K
 simp only [fGa, fGs, fGz, Act.put, fSa, fSz, fSs]
 refine wpAnyH_take (i := 4) (v := .bool true) rfl (by kernel_rfl) (by kernel_rfl) (by kernel_rfl) (fun _ _ _ h => h) (Or.inl ⟨by rfl, fun w hSw => by obtain ⟨hS1, hS2, hS3⟩ := hSw; go_simp⟩) (by assumption) ?_
 simp only [fGa, fGs, fGz, Act.put, fSa, fSz, fSs]
 refine wpAnyH_take (i := 5) (v := .bool true) rfl (by kernel_rfl) (by kernel_rfl) (by kernel_rfl) (fun _ _ _ h => h) (Or.inl ⟨by rfl, fun w hSw => by obtain ⟨hS1, hS2, hS3⟩ := hSw; go_simp⟩) (by assumption) ?_
 simp only [fGa, fGs, fGz, Act.put, fSa, fSz, fSs]
 refine wpAnyH_take (i := 6) (v := .pointer (some ⟨ph, 0, none⟩)) rfl (by kernel_rfl) (by kernel_rfl) (by kernel_rfl) (fun _ _ _ h => h) (Or.inl ⟨by rfl, fun w hSw => by obtain ⟨hS1, hS2, hS3⟩ := hSw; go_simp⟩) (by assumption) ?_
 simp only [fGa, fGs, fGz, Act.put, fSa, fSz, fSs]
 refine wpAnyH_take (i := 7) (v := .pointer (some ⟨ph, 0, none⟩)) rfl (by kernel_rfl) (by kernel_rfl) (by kernel_rfl) (fun _ _ _ h => h) (Or.inl ⟨by rfl, fun w hSw => by obtain ⟨hS1, hS2, hS3⟩ := hSw; go_simp⟩) (by assumption) ?_
 simp only [fGa, fGs, fGz, Act.put, fSa, fSz, fSs]
 refine wpAnyH_take (i := 8) (v := .pointer (some ⟨ph, 37, none⟩)) rfl (by kernel_rfl) (by kernel_rfl) (by kernel_rfl) (fun _ _ _ h => h) (Or.inl ⟨by rfl, fun w hSw => by obtain ⟨hS1, hS2, hS3⟩ := hSw; go_simp⟩) (by assumption) ?_
 simp only [fGa, fGs, fGz, Act.put, fSa, fSz, fSs]
 refine wpAnyH_take (i := 9) (v := .int .i64 (k : Int)) rfl (by kernel_rfl) (by kernel_rfl) (by kernel_rfl) (fun _ _ _ h => h) (Or.inl ⟨by rfl, fun w hSw => by obtain ⟨hS1, hS2, hS3⟩ := hSw; go_simp⟩) (by assumption) ?_
 simp only [fGa, fGs, fGz, Act.put, fSa, fSz, fSs]
 refine wpAnyH_take (i := 10) (v := .pointer (some ⟨ph, 0, none⟩)) rfl (by kernel_rfl) (by kernel_rfl) (by kernel_rfl) (fun _ _ _ h => h) (Or.inl ⟨by rfl, fun w hSw => by obtain ⟨hS1, hS2, hS3⟩ := hSw; go_simp⟩) (by assumption) ?_
 simp only [fGa, fGs, fGz, Act.put, fSa, fSz, fSs]
 refine wpAnyH_take (i := 11) (v := .pointer (some ⟨ph, 0, none⟩)) rfl (by kernel_rfl) (by kernel_rfl) (by kernel_rfl) (fun _ _ _ h => h) (Or.inl ⟨by rfl, fun w hSw => by obtain ⟨hS1, hS2, hS3⟩ := hSw; go_simp⟩) (by assumption) ?_
 simp only [fGa, fGs, fGz, Act.put, fSa, fSz, fSs]
 refine wpAnyH_take (i := 12) (v := .pointer (some ⟨ph, 2, none⟩)) rfl (by kernel_rfl) (by kernel_rfl) (by kernel_rfl) (fun _ _ _ h => h) (Or.inl ⟨by rfl, fun w hSw => by obtain ⟨hS1, hS2, hS3⟩ := hSw; go_simp⟩) (by assumption) ?_
 simp only [fGa, fGs, fGz, Act.put, fSa, fSz, fSs]
 refine wpAnyH_take (i := 13) (v := .slice (some ⟨gK, 0, none⟩) k cK) rfl (by kernel_rfl) (by kernel_rfl) (by kernel_rfl) (fun _ _ _ h => h) (Or.inl ⟨by rfl, fun w hSw => by obtain ⟨hS1, hS2, hS3⟩ := hSw; go_simp⟩) (by assumption) ?_
 simp only [fGa, fGs, fGz, Act.put, fSa, fSz, fSs]
 refine wpAnyH_take (i := 14) (v := .int .i64 (k : Int)) rfl (by kernel_rfl) (by kernel_rfl) (by kernel_rfl) (fun _ _ _ h => h) (Or.inl ⟨by rfl, fun w hSw => by obtain ⟨hS1, hS2, hS3⟩ := hSw; go_simp⟩) (by assumption) ?_
 simp only [fGa, fGs, fGz, Act.put, fSa, fSz, fSs]
 refine wpAnyH_take (i := 15) (v := .bool true) rfl (by kernel_rfl) (by kernel_rfl) (by kernel_rfl) (fun _ _ _ h => h) (Or.inl ⟨by rfl, fun w hSw => by obtain ⟨hS1, hS2, hS3⟩ := hSw; go_simp⟩) (by assumption) ?_
 simp only [fGa, fGs, fGz, Act.put, fSa, fSz, fSs]
 refine wpAnyH_take (i := 16) (v := .bool true) rfl (by kernel_rfl) (by kernel_rfl) (by kernel_rfl) (fun _ _ _ h => h) (Or.inl ⟨by rfl, fun w hSw => by obtain ⟨hS1, hS2, hS3⟩ := hSw; go_simp⟩) (by assumption) ?_
 simp only [fGa, fGs, fGz, Act.put, fSa, fSz, fSs]
 refine wpAnyH_take (i := 17) (v := .bool true) rfl (by kernel_rfl) (by kernel_rfl) (by kernel_rfl) (fun _ _ _ h => h) (Or.inl ⟨by rfl, fun w hSw => by obtain ⟨hS1, hS2, hS3⟩ := hSw; go_simp⟩) (by assumption) ?_
 simp only [fGa, fGs, fGz, Act.put, fSa, fSz, fSs]
 refine wpAnyH_take (i := 18) (v := .bool true) rfl (by kernel_rfl) (by kernel_rfl) (by kernel_rfl) (fun _ _ _ h => h) (Or.inl ⟨by rfl, fun w hSw => by obtain ⟨hS1, hS2, hS3⟩ := hSw; go_simp⟩) (by assumption) ?_
 simp only [fGa, fGs, fGz, Act.put, fSa, fSz, fSs]
 refine wpAnyH_take (i := 19) (v := .int .i64 0) rfl (by kernel_rfl) (by kernel_rfl) (by kernel_rfl) (fun _ _ _ h => h) (Or.inl ⟨by rfl, fun w hSw => by obtain ⟨hS1, hS2, hS3⟩ := hSw; go_simp⟩) (by assumption) ?_
 simp only [fGa, fGs, fGz, Act.put, fSa, fSz, fSs]
 refine wpAnyH_ready (rs := [20]) (by kernel_rfl) (by simp) (AllReadyH.cons rfl (fun K hK => ?_) AllReadyH.nil)
 refine step_call1GC (by rfl) 19 num6_enter (.tmp 83) _ rfl rfl (num6_calls 0 _) ?_
 rintro e wn ⟨rfl, hwn⟩
 obtain rfl := hwn.symm
 clear hwn
 refine ⟨_, rfl, ?_⟩
 refine hK.out _ _ (unhide HS8 _ hy1) (fun hK2 => ?_)
 clear hK K
 simp only [fGa, fGs, fGz, Act.put, fSa, fSz, fSs]
 refine wpAnyH_take (i := 21) (v := .bool true) rfl (by kernel_rfl) (by kernel_rfl) (by kernel_rfl) (fun _ _ _ h => h) (Or.inl ⟨by rfl, fun w hSw => by obtain ⟨hS1, hS2, hS3⟩ := hSw; go_simp⟩) (by assumption) ?_
 simp only [fGa, fGs, fGz, Act.put, fSa, fSz, fSs]
 refine wpAnyH_take (i := 22) (v := .bool true) rfl (by kernel_rfl) (by kernel_rfl) (by kernel_rfl) (fun _ _ _ h => h) (Or.inl ⟨by rfl, fun w hSw => by obtain ⟨hS1, hS2, hS3⟩ := hSw; go_simp⟩) (by assumption) ?_
 simp only [fGa, fGs, fGz, Act.put, fSa, fSz, fSs]
 refine wpAnyH_take (i := 23) (v := .bool true) rfl (by kernel_rfl) (by kernel_rfl) (by kernel_rfl) (fun _ _ _ h => h) (Or.inl ⟨by rfl, fun w hSw => by obtain ⟨hS1, hS2, hS3⟩ := hSw; go_simp⟩) (by assumption) ?_
 simp only [fGa, fGs, fGz, Act.put, fSa, fSz, fSs]
 refine wpAnyH_take (i := 24) (v := .pointer (some ⟨ph, 0, none⟩)) rfl (by kernel_rfl) (by kernel_rfl) (by kernel_rfl) (fun _ _ _ h => h) (Or.inl ⟨by rfl, fun w hSw => by obtain ⟨hS1, hS2, hS3⟩ := hSw; go_simp⟩) (by assumption) ?_
 simp only [fGa, fGs, fGz, Act.put, fSa, fSz, fSs]
 refine wpAnyH_ready (rs := [25]) (by kernel_rfl) (by simp) (AllReadyH.cons rfl (fun K hK => ?_) AllReadyH.nil)
 refine step_call1GC (by rfl) 32 holds_enter (.tmp 88) _ rfl rfl (unhide HH8 _ hy1) ?_
 rintro e wb ⟨rfl, hbb⟩
 have hy2 : Below w5.heap.size w5 wb := hy1.trans (hbb.mono hy1.size)
 refine ⟨_, rfl, ?_⟩
 refine hK.out _ _ (unhide HS8 _ hy2) (fun hK3 => ?_)
 clear hK K
 simp only [fGa, fGs, fGz, Act.put, fSa, fSz, fSs]
 refine wpAnyH_take (i := 26) (v := .bool true) rfl (by kernel_rfl) (by kernel_rfl) (by kernel_rfl) (fun _ _ _ h => h) (Or.inl ⟨by rfl, fun w hSw => by obtain ⟨hS1, hS2, hS3⟩ := hSw; go_simp⟩) (by assumption) ?_
 simp only [fGa, fGs, fGz, Act.put, fSa, fSz, fSs]
 refine wpAnyH_take (i := 27) (v := .bool true) rfl (by kernel_rfl) (by kernel_rfl) (by kernel_rfl) (fun _ _ _ h => h) (Or.inl ⟨by rfl, fun w hSw => by obtain ⟨hS1, hS2, hS3⟩ := hSw; go_simp⟩) (by assumption) ?_
 simp only [fGa, fGs, fGz, Act.put, fSa, fSz, fSs]
 refine wpAnyH_done (by kernel_rfl) ?_ _
 go_wp2
 go_ret
 exact ⟨rfl, HBW5.out.trans (hy2.mono HBW5.out.size)⟩
end
end Go.Proofs.YtdalbalphagmfaaGreatDoor

namespace Go.Proofs.YtdalbalphagmfaaGreatDoor
open Go.RowKit Go.Maps

theorem newWriter_enter6 (v u z : Value) (W : World) : (callFunc 26 #[v, u, z]).run Tryz.prog W = .ok (.enter 26 #[v, u, z]) W := by kernel_rfl
theorem rlist_enter (v : Value) (W : World) : (callFunc 13 #[v]).run Tryz.prog W = .ok (.enter 13 #[v]) W := by kernel_rfl
/-- The base, but for its spaces. -/
structure Bc (W : World) (gx ga ca n : Nat) (us : List Value) (ims : List (List Int)) (p gl gm : Nat) (V : Nat → Value) (D : AD) (g gr B0 : Nat) : Prop where
 arr : Arr W gx 47 [.pointer (some ⟨p, 0, none⟩), .pointer (some ⟨g, 0, none⟩), .slice (some ⟨ga, 0, none⟩) n ca, .pointer (some ⟨gr, 0, none⟩)]
 ig : Ig W B0 (.slice (some ⟨ga, 0, none⟩) n ca) us ims
 nl : ims.length = n
 dk : Dk W p gl gm V D
 dn : D.la.length = n
 tt : TT W
section
variable {w W W1 : World} {gx ga ca n p gl gm g gr B0 B gw gb fr to_ m1 m2 : Nat} {us : List Value} {ims : List (List Int)} {V : Nat → Value} {D : AD} {ws : List Nat} {bl : List Bool}
/-- Blocks of other types may change. -/
theorem Bc.up {F : Nat → Prop} (h : Bc W gx ga ca n us ims p gl gm V D g gr B0) (hu : Up F W W1) (h1 : ∀ b, F b → GB ≤ b) (h2 : ∀ b, F b → ∃ t, Ty W b t ∧ t ≠ 47 ∧ t ≠ 26 ∧ t ≠ 5 ∧ t ≠ 123 ∧ t ≠ 119) : Bc W1 gx ga ca n us ims p gl gm V D g gr B0 := by
 have hne : ∀ {b : Nat} {t : TypeId}, Ty W b t → (t = 47 ∨ t = 26 ∨ t = 5 ∨ t = 123 ∨ t = 119) → ¬ F b := fun hb ht e => by
  obtain ⟨t', q, q1, q2, q3, q4, q5⟩ := h2 _ e
  obtain rfl := hb.one q
  rcases ht with ht | ht | ht | ht | ht
  · exact q1 ht
  · exact q2 ht
  · exact q3 ht
  · exact q4 ht
  · exact q5 ht
 refine ⟨h.arr.up hu (hne h.arr.ty (by simp)), h.ig.up hu (fun b hb => ?_) (fun b hb => hne hb (by simp)), h.nl, h.dk.up hu (fun b hb e => ?_), h.dn, h.tt.up hu h1⟩
 · obtain ⟨_, c, m, q⟩ := row_blk h.ig.own hb
   exact hne ⟨c, m, q⟩ (by simp)
 · obtain ⟨t, q, q1, q2, q3, q4, q5⟩ := h2 _ e
   rcases h.dk.ty hb q with e | e
   · exact q4 e
   · exact q5 e
theorem Bc.below (h : Bc W gx ga ca n us ims p gl gm V D g gr B0) (hb : Below W.heap.size W W1) : Bc W1 gx ga ca n us ims p gl gm V D g gr B0 := h.up (F := fun _ => False) (Up.of_below hb) (fun _ h => h.elim) (fun _ h => h.elim)
end
theorem wide_facts {w : World} {B : Nat} {u : Value} {bs : List Int} {bn : Nat} (h : Own8 w B u (bs ++ [201, 202, 203, 204, 205])) (hbn : bn = bs.length) : ∃ gd cd, u = .slice (some ⟨gd, 0, none⟩) (bn + 5) cd ∧ B ≤ gd ∧ bn + 5 ≤ cd ∧ cd ≤ 9223372036854775807 ∧ Ty w gd 5 ∧ (∀ W : World, (Instr.sliceAt 26 (.slice (some ⟨gd, 0, none⟩) (bn + 5) cd) none (some (.int .i64 (bn : Int))) none).run Tryz.prog W = .ok (.slice (some ⟨gd, 0, none⟩) bn cd) W) ∧ ∀ W, IsB W (.slice (some ⟨gd, 0, none⟩) (bn + 5) cd) (bs ++ [201, 202, 203, 204, 205]) → IsB W (.slice (some ⟨gd, 0, none⟩) bn cd) bs := by
 have hl : (bs ++ [201, 202, 203, 204, 205]).length = bn + 5 := by rw [List.length_append, hbn]; rfl
 rcases h.1.2 with ⟨_, h0⟩ | ⟨gd, cd, cur, hv, hB, hg, q1, q2, _⟩
 · rw [hl] at h0; omega
 · rw [hl] at hv q1
   subst hv
   refine ⟨gd, cd, rfl, hB, by omega, by unfold maxLen at q2; omega, ⟨_, _, hg⟩, fun W => ?_, fun W hW => ?_⟩
   · rw [slice_h _ _ _ _ (by omega) W]
     unfold subA
     rw [if_neg (by omega)]
     rfl
   · have h1 := hW.sub (q := 0) (t := bn) (by omega) (by omega)
     unfold subA at h1
     rw [if_neg (by omega), Nat.sub_zero, Nat.sub_zero, List.drop_zero, List.take_append_of_le_length (by omega), List.take_of_length_le (by omega)] at h1
     exact h1
section
variable {w : World} {gx ga ca n p gl gm g gr B0 gw gb fr to_ m1 m2 bn c : Nat} {us : List Value} {ims : List (List Int)} {V : Nat → Value} {D : AD} {ws : List Nat} {bl : List Bool} {a : Option Addr} {bs : List Int}
set_option maxRecDepth 100000 in
set_option maxHeartbeats 8000000 in
/-- A writer that is refused. -/
theorem begin_no {f : Int} (hC : Bc w gx ga ca n us ims p gl gm V D g gr B0) (hS : Sp w m1 g gw fr to_ ws) (hR : Rs w m2 gr gb fr to_ bl) (hW : Tw fr to_ ws bl) (hb : IsB w (.slice a bn c) bs) (hbl : bn ≤ 140737488351232) (hf0 : f ≠ 0) (hw0 : 0 ≤ D.wt) (hw1 : D.wt ≤ 1000000000) (hr0 : 0 ≤ D.rd) (hr1 : D.rd ≤ 1000000000)
 (hNW : ∀ W, Below w.heap.size w W → ∀ gd cd, Calls Tryz.prog 26 #[.pointer (some ⟨p, 0, none⟩), .pointer (some ⟨g, 0, none⟩), .slice (some ⟨gd, 0, none⟩) bn cd] W fun e w' => e = .returned (.tuple #[.pointer none, .int .i64 f]) ∧ Below W.heap.size W w')
 (hRF : ∀ W, Below w.heap.size w W → Calls Tryz.prog 29 #[.pointer (some ⟨gx, 0, none⟩), .int .i64 (bn : Int)] W fun e w' => e = .returned (.tuple #[.int .i64 f, .slice none 0 0]) ∧ Below W.heap.size W w') :
 Calls Tryz.prog 7 #[.pointer (some ⟨gx, 0, none⟩), .slice a bn c] w fun e w' => e = .returned (.tuple #[.pointer none, .bool true]) ∧ Below w.heap.size w w' := by
 obtain ⟨rd, hrd⟩ : ∃ rd, D.rd = rd := ⟨_, rfl⟩
 obtain ⟨wt, hwt⟩ : ∃ wt, D.wt = wt := ⟨_, rfl⟩
 obtain ⟨fl, hfl⟩ : ∃ fl, D.fl = fl := ⟨_, rfl⟩
 have hblk := hC.dk.blk
 rw [hrd, hwt, hfl] at hblk
 have HBN : Hid (bn = bs.length) := hide hb.lenEq
 have HBL : Hid (bs.length ≤ 140737488351300) := hide (by have := hb.lenEq; omega)
 have HRO := hide (roomy6_calls hb HBL.out)
 have HBC : Hid (∀ W, Up (fun _ => False) w W → W.cell? ⟨gx, 0, none⟩ = some (.pointer (some ⟨p, 0, none⟩)) ∧ W.cell? ⟨gx, 1, none⟩ = some (.pointer (some ⟨g, 0, none⟩)) ∧ W.cell? ⟨gx, 2, none⟩ = some (.slice (some ⟨ga, 0, none⟩) n ca) ∧ W.cell? ⟨gx, 3, none⟩ = some (.pointer (some ⟨gr, 0, none⟩)) ∧ IsB W (.slice a bn c) bs ∧ W.cell? ⟨p, 2, none⟩ = some (.int .i64 rd) ∧ W.cell? ⟨p, 3, none⟩ = some (.int .i64 wt) ∧ W.cell? ⟨p, 4, none⟩ = some (.int .i64 fl)) := hide (fun W hU => by
  have hA := hC.arr.up hU (fun h => h)
  have hB := hblk.up hU (fun h => h)
  exact ⟨arr_cell hA rfl, arr_cell hA rfl, arr_cell hA rfl, arr_cell hA rfl, hb.up hU (fun _ _ h => h), arr_cell hB rfl, arr_cell hB rfl, arr_cell hB rfl⟩)
 have HAC : Hid (∀ W, Below w.heap.size w W → Calls Tryz.prog 25 #[.pointer (some ⟨p, 0, none⟩)] W fun e w' => e = .returned (.agg #[.int .i64 rd, .int .i64 wt, .int .i64 fl]) ∧ Below W.heap.size W w') := hide (fun W hW => by
  have hB := hblk.below hW
  exact acts_calls (arr_cell hB rfl) (arr_cell hB rfl) (arr_cell hB rfl))
 have HWR : Hid (IntKind.i64.wrap (rd + 0) = rd ∧ IntKind.i64.wrap (wt + 0) = wt) := hide ⟨by rw [IntKind.wrap_i64]; omega, by rw [IntKind.wrap_i64]; omega⟩
 have HNW : Hid (∀ W, Below w.heap.size w W → ∀ gd cd, IsB W (.slice (some ⟨gd, 0, none⟩) bn cd) bs → gd < W.heap.size → w.heap.size ≤ gd → Calls Tryz.prog 26 #[.pointer (some ⟨p, 0, none⟩), .pointer (some ⟨g, 0, none⟩), .slice (some ⟨gd, 0, none⟩) bn cd] W fun e w' => e = .returned (.tuple #[.pointer none, .int .i64 f]) ∧ Below W.heap.size W w') := hide (fun W hW gd cd _ _ _ => hNW W hW gd cd)
 have HRF := hide hRF
 have HLI : Hid (∀ W, Up (fun _ => False) w W → Calls Tryz.prog 12 #[.pointer (some ⟨g, 0, none⟩)] W fun e w' => ∃ v, e = .returned v ∧ Row w' W.heap.size 3 v (iV (allF fr 0 ws)) ∧ Below W.heap.size W w') := hide (fun W hU => list_calls (hS.up hU (fun h => h) (fun h => h)) (hC.tt.up hU (fun _ h => h.elim)).tz)
 have HLJ : Hid (∀ W, Up (fun _ => False) w W → Calls Tryz.prog 13 #[.pointer (some ⟨gr, 0, none⟩)] W fun e w' => ∃ v, e = .returned v ∧ Row w' W.heap.size 3 v (iV (allF fr 0 ws)) ∧ Below W.heap.size W w') := hide (fun W hU => by
  have h := rlist_calls (hR.up hU (fun h => h) (fun h => h))
  rw [hW.all hS] at h
  exact h)
 clear hC hS hR hW hb hw0 hw1 hr0 hr1 hNW hRF hblk hrd hwt hfl
 go_enter Tryz.func7, Tryz.ntmps7
 go_wp2_with fail
 refine (unhide HRO).mono ?_
 rintro e w1 ⟨wu, rfl, hO1, hb1⟩
 obtain ⟨gd, cd, rfl, hgd, hcd1, hcd2, htd, hslw, hsub⟩ := wide_facts hO1 HBN.out
 have HB1 := hide hb1
 have HO1 := hide hO1
 have HSUB := hide hsub
 have HAC1 := hide (unhide HAC w1 hb1)
 have hx10 := (unhide HBC w1 (Up.of_below hb1)).1
 clear hO1 hb1 hsub HRO HAC
 go_wp2_with fail
 refine (unhide HAC1).mono ?_
 rintro e w1a ⟨rfl, hb1a⟩
 obtain ⟨gA, hgA⟩ : ∃ gA, w1a.heap.size = gA := ⟨_, rfl⟩
 have hA3 := Arr.new w1a [.int .i64 0, .int .i64 0, .int .i64 0] 80
 rw [hgA] at hA3
 have hiA : (Tryz.prog.info? 80).map (·.size) = some [Value.int .i64 rd, .int .i64 wt, .int .i64 fl].length := by kernel_rfl
 have h1A : ∀ u ∈ [Value.int .i64 rd, .int .i64 wt, .int .i64 fl], u.oneCell' = true := by simp [Value.oneCell']
 have HB2 : Hid (∀ w2, Wrote (w1a.alloc (.cells #[.int .i64 0, .int .i64 0, .int .i64 0] 80)) w2 gA → Below w1.heap.size w1 w2) := hide (fun w2 hW2 => hW2.below _ _ (hb1a.alloc hb1a.size _) (by rw [← hgA]; exact hb1a.size))
 have HGA := hide hgA
 have HGS : Hid (w1.heap.size ≤ gA) := hide (by rw [← hgA]; exact hb1a.size)
 clear HAC1 hb1a hgA
 go_wp2_with (first
  | (refine wpList_storeArr2 (cs' := [Value.int .i64 rd, .int .i64 wt, .int .i64 fl]) rfl (.tmp 7) (.tmp 20) 80 rfl rfl rfl hA3 hiA rfl h1A ?_; intro w2 hAc2 hWr2
     have HAC2 := hide hAc2
     have HBB2 := hide (unhide HB2 w2 hWr2)
     clear hAc2 hWr2 hA3)
  | rw [HGA.out])
 have hb02 : Below w.heap.size w w2 := HB1.out.trans (HBB2.out.mono HB1.out.size)
 have HB02 := hide hb02
 have HS3 : Hid (∀ W, Below w2.heap.size w2 W → W.cell? ⟨gx, 0, none⟩ = some (.pointer (some ⟨p, 0, none⟩)) ∧ W.cell? ⟨gx, 1, none⟩ = some (.pointer (some ⟨g, 0, none⟩))) := hide (fun W hW => by
  obtain ⟨q0, q1, _⟩ := unhide HBC W (Up.of_below (hb02.trans (hW.mono hb02.size)))
  exact ⟨q0, q1⟩)
 have hO2 := HO1.out.below HBB2.out
 have hz0 : Below w2.heap.size w2 w2.drew := (Below.refl _ _).drew
 have HNW2 := hide (unhide HNW w2.drew (hb02.trans (hz0.mono hb02.size)) gd cd (unhide HSUB _ (hO2.isB.below hz0)) (by have := htd.lt; have := HBB2.out.size; have := hz0.size; omega) hgd)
 clear HNW hb02 hO2 hx10
 refine wp_region_held_drew (S := fun W => W.cell? ⟨gx, 0, none⟩ = some (.pointer (some ⟨p, 0, none⟩)) ∧ W.cell? ⟨gx, 1, none⟩ = some (.pointer (some ⟨g, 0, none⟩))) (by kernel_rfl) (unhide HS3 _ hz0) (fun hHeld => ?_)
 refine wpAnyH_take (i := 0) (v := .pointer (some ⟨gx, 0, none⟩)) rfl (by kernel_rfl) (by kernel_rfl) (by kernel_rfl) (fun _ _ _ h => h) (Or.inl ⟨by rfl, fun w hSw => by obtain ⟨hS1, hS2⟩ := hSw; go_simp⟩) (by assumption) ?_
 simp only [fGa, fGz, Act.put, fSa, fSz, fSs]
 refine wpAnyH_take (i := 1) (v := .pointer (some ⟨gx, 0, none⟩)) rfl (by kernel_rfl) (by kernel_rfl) (by kernel_rfl) (fun _ _ _ h => h) (Or.inl ⟨by rfl, fun w hSw => by obtain ⟨hS1, hS2⟩ := hSw; go_simp⟩) (by assumption) ?_
 simp only [fGa, fGs, fGz, Act.put, fSa, fSz, fSs]
 refine wpAnyH_take (i := 2) (v := .pointer (some ⟨gx, 0, none⟩)) rfl (by kernel_rfl) (by kernel_rfl) (by kernel_rfl) (fun _ _ _ h => h) (Or.inl ⟨by rfl, fun w hSw => by obtain ⟨hS1, hS2⟩ := hSw; go_simp⟩) (by assumption) ?_
 simp only [fGa, fGs, fGz, Act.put, fSa, fSz, fSs]
 refine wpAnyH_take (i := 3) (v := .pointer (some ⟨p, 0, none⟩)) rfl (by kernel_rfl) (by kernel_rfl) (by kernel_rfl) (fun _ _ _ h => h) (Or.inl ⟨by rfl, fun w hSw => by obtain ⟨hS1, hS2⟩ := hSw; go_simp⟩) (by assumption) ?_
 simp only [fGa, fGs, fGz, Act.put, fSa, fSz, fSs]
 refine wpAnyH_take (i := 4) (v := .pointer (some ⟨gx, 0, none⟩)) rfl (by kernel_rfl) (by kernel_rfl) (by kernel_rfl) (fun _ _ _ h => h) (Or.inl ⟨by rfl, fun w hSw => by obtain ⟨hS1, hS2⟩ := hSw; go_simp⟩) (by assumption) ?_
 simp only [fGa, fGs, fGz, Act.put, fSa, fSz, fSs]
 refine wpAnyH_take (i := 5) (v := .pointer (some ⟨gx, 0, none⟩)) rfl (by kernel_rfl) (by kernel_rfl) (by kernel_rfl) (fun _ _ _ h => h) (Or.inl ⟨by rfl, fun w hSw => by obtain ⟨hS1, hS2⟩ := hSw; go_simp⟩) (by assumption) ?_
 simp only [fGa, fGs, fGz, Act.put, fSa, fSz, fSs]
 refine wpAnyH_take (i := 6) (v := .pointer (some ⟨gx, 1, none⟩)) rfl (by kernel_rfl) (by kernel_rfl) (by kernel_rfl) (fun _ _ _ h => h) (Or.inl ⟨by rfl, fun w hSw => by obtain ⟨hS1, hS2⟩ := hSw; go_simp⟩) (by assumption) ?_
 simp only [fGa, fGs, fGz, Act.put, fSa, fSz, fSs]
 refine wpAnyH_take (i := 7) (v := .pointer (some ⟨g, 0, none⟩)) rfl (by kernel_rfl) (by kernel_rfl) (by kernel_rfl) (fun _ _ _ h => h) (Or.inl ⟨by rfl, fun w hSw => by obtain ⟨hS1, hS2⟩ := hSw; go_simp⟩) (by assumption) ?_
 simp only [fGa, fGs, fGz, Act.put, fSa, fSz, fSs]
 refine wpAnyH_take (i := 8) (v := .slice (some ⟨gd, 0, none⟩) (bn + 5) cd) rfl (by kernel_rfl) (by kernel_rfl) (by kernel_rfl) (fun _ _ _ h => h) (Or.inl ⟨by rfl, fun w hSw => by obtain ⟨hS1, hS2⟩ := hSw; go_simp⟩) (by assumption) ?_
 simp only [fGa, fGs, fGz, Act.put, fSa, fSz, fSs]
 refine wpAnyH_take (i := 9) (v := .slice (a) bn c) rfl (by kernel_rfl) (by kernel_rfl) (by kernel_rfl) (fun _ _ _ h => h) (Or.inl ⟨by rfl, fun w hSw => by obtain ⟨hS1, hS2⟩ := hSw; go_simp⟩) (by assumption) ?_
 simp only [fGa, fGs, fGz, Act.put, fSa, fSz, fSs]
 refine wpAnyH_take (i := 10) (v := .int .i64 (bn : Int)) rfl (by kernel_rfl) (by kernel_rfl) (by kernel_rfl) (fun _ _ _ h => h) (Or.inl ⟨by rfl, fun w hSw => by obtain ⟨hS1, hS2⟩ := hSw; go_simp⟩) (by assumption) ?_
 simp only [fGa, fGs, fGz, Act.put, fSa, fSz, fSs]
 refine wpAnyH_take (i := 11) (v := .slice (some ⟨gd, 0, none⟩) bn cd) rfl (by kernel_rfl) (by kernel_rfl) (by kernel_rfl) (fun _ _ _ h => h) (Or.inl ⟨by rfl, fun w hSw => by obtain ⟨hS1, hS2⟩ := hSw; go_simp⟩) (by assumption) ?_
 simp only [fGa, fGs, fGz, Act.put, fSa, fSz, fSs]
 refine wpAnyH_ready (rs := [12]) (by kernel_rfl) (by simp) (AllReadyH.cons rfl (fun K hK => ?_) AllReadyH.nil)
 refine step_call3C (by rfl) 26 newWriter_enter6 (.tmp 25) (.tmp 29) (.tmp 33) _ rfl rfl rfl rfl (unhide HNW2) ?_
 rintro e w3 ⟨rfl, hb3⟩
 have hS33 : w3.cell? ⟨gx, 0, none⟩ = some (.pointer (some ⟨p, 0, none⟩)) ∧ w3.cell? ⟨gx, 1, none⟩ = some (.pointer (some ⟨g, 0, none⟩)) := unhide HS3 _ (hz0.trans (hb3.mono hz0.size))
 refine ⟨_, rfl, ?_⟩
 refine hK.out _ _ (hS33) (fun hJ1 => ?_)
 clear hK K
 simp only [fGa, fGs, fGz, Act.put, fSa, fSz, fSs]
 refine wpAnyH_take (i := 13) (v := .tuple #[.pointer none, .int .i64 f]) rfl (by kernel_rfl) (by kernel_rfl) (by kernel_rfl) (fun _ _ _ h => h) (Or.inl ⟨by rfl, fun w hSw => by obtain ⟨hS1, hS2⟩ := hSw; go_simp⟩) (by assumption) ?_
 simp only [fGa, fGs, fGz, Act.put, fSa, fSz, fSs]
 refine wpAnyH_take (i := 14) (v := .pointer none) rfl (by kernel_rfl) (by kernel_rfl) (by kernel_rfl) (fun _ _ _ h => h) (Or.inl ⟨by rfl, fun w hSw => by obtain ⟨hS1, hS2⟩ := hSw; go_simp⟩) (by assumption) ?_
 simp only [fGa, fGs, fGz, Act.put, fSa, fSz, fSs]
 refine wpAnyH_take (i := 15) (v := .int .i64 f) rfl (by kernel_rfl) (by kernel_rfl) (by kernel_rfl) (fun _ _ _ h => h) (Or.inl ⟨by rfl, fun w hSw => by obtain ⟨hS1, hS2⟩ := hSw; go_simp⟩) (by assumption) ?_
 simp only [fGa, fGs, fGz, Act.put, fSa, fSz, fSs]
 refine wpAnyH_take (i := 16) (v := .pointer none) rfl (by kernel_rfl) (by kernel_rfl) (by kernel_rfl) (fun _ _ _ h => h) (Or.inl ⟨by rfl, fun w hSw => by obtain ⟨hS1, hS2⟩ := hSw; go_simp⟩) (by assumption) ?_
 simp only [fGa, fGs, fGz, Act.put, fSa, fSz, fSs]
 refine wpAnyH_take (i := 17) (v := .int .i64 f) rfl (by kernel_rfl) (by kernel_rfl) (by kernel_rfl) (fun _ _ _ h => h) (Or.inl ⟨by rfl, fun w hSw => by obtain ⟨hS1, hS2⟩ := hSw; go_simp⟩) (by assumption) ?_
 simp only [fGa, fGs, fGz, Act.put, fSa, fSz, fSs]
 refine wpAnyH_done (by kernel_rfl) ?_ _
 have hU03 : Up (fun _ => False) w w3 := ((Up.of_below HB02.out).then_below hz0).then_below hb3
 have hU23 : Up (fun _ => False) w2 w3 := (Up.of_below hz0).then_below hb3
 obtain ⟨_, _, _, _, hbw3, _⟩ := unhide HBC w3 hU03
 have HRO3 := hide (roomy6_calls hbw3 HBL.out)
 have hO3 : Own8 w3 w.heap.size (.slice (some ⟨gd, 0, none⟩) (bn + 5) cd) (bs ++ [201, 202, 203, 204, 205]) := ⟨owns_up (HO1.out.below HBB2.out).1 hU23 (fun b hb => by cases hb; exact fun h => h), (HO1.out).2⟩
 have hAc3 : Arr w3 gA 80 [.int .i64 rd, .int .i64 wt, .int .i64 fl] := HAC2.out.up hU23 (fun h => h)
 have HO3 := hide hO3
 have HAC3 := hide hAc3
 have HU03 := hide hU03
 clear hbw3 hO3 hAc3 hU03 hU23 HNW2 HS3 hHeld hJ1 hS33
 go_wp2_with fail
 refine (unhide HRO3).mono ?_
 rintro e w4 ⟨u4, rfl, hO4, hb4⟩
 obtain ⟨a4, n4, c4, rfl⟩ := hO4.shape
 have HSM : Hid (Calls Tryz.prog 27 #[.slice (some ⟨gd, 0, none⟩) (bn + 5) cd, .slice a4 n4 c4] w4 fun e w' => e = .returned (.bool true) ∧ w' = w4) := hide ((same6_calls (HO3.out.isB.below hb4) hO4.isB).mono (fun e w' h => ⟨by rw [h.1, decide_eq_true rfl], h.2⟩))
 have hU04 := HU03.out.then_below hb4
 obtain ⟨q0, _, _, _, _, q4, q5, q6⟩ := unhide HBC w4 hU04
 have HA4 : Hid (Calls Tryz.prog 28 #[.pointer (some ⟨gx, 0, none⟩), .agg [Value.int .i64 rd, .int .i64 wt, .int .i64 fl].toArray, .int .i64 0, .int .i64 0] w4 (fun e w' => e = .returned (.bool true) ∧ Below w4.heap.size w4 w')) := hide (bacts_calls q0 q4 q5 q6 HWR.out.1 HWR.out.2)
 have hrA : w4.rangeAt gA 0 [Value.int .i64 rd, .int .i64 wt, .int .i64 fl] := arr_range (ds := []) (by rw [List.append_nil]; exact HAC3.out.below hb4)
 have HB4 := hide hb4
 clear hO4 hb4 hU04 q0 q4 q5 q6 HRO3 HAC3
 go_wp2_with fail
 refine (unhide HSM).mono ?_
 rintro e wn ⟨rfl, hwn⟩
 obtain rfl := hwn.symm
 clear hwn HSM
 go_wp2_with (refine wpList_load6On rfl 80 (.tmp 7) rfl gA 0 rfl [Value.int .i64 rd, .int .i64 wt, .int .i64 fl] _ hrA Tryz.underlying80 rfl hiA ?_)
 refine (unhide HA4).mono ?_
 rintro e w5 ⟨rfl, hb5⟩
 have HB35 : Hid (Below w3.heap.size w3 w5) := hide (HB4.out.trans (hb5.mono HB4.out.size))
 have HO5 := hide (HO3.out.below HB35.out)
 clear HA4 hb5 hrA HO3 HB4
 go_wp2_with fail
 go_loopw [10] (fun iv W => ∃ i : Nat, i ≤ bn + 5 ∧ iv = .int .i64 (i : Int) ∧ Hid (∃ ys, Own8 W w.heap.size (.slice (some ⟨gd, 0, none⟩) (bn + 5) cd) ys ∧ Up (fun b => b = gd) w5 W)) (fun iv _ => bn + 5 - (intOf iv).toNat)
 case atStart => exact ⟨0, by omega, rfl, hide ⟨_, HO5.out, Up.refl _ _⟩⟩
 case round =>
  clear HO5
  obtain ⟨i, hi, rfl, HI⟩ := hrel
  by_cases hlt : i < bn + 5
  · obtain ⟨ys, ho, hUw⟩ := HI.out
    have hyl : ys.length = bn + 5 := ho.isB.lenEq.symm
    obtain ⟨x, hx⟩ : ∃ x, ys[i]? = some x := ⟨_, List.getElem?_eq_getElem (by omega)⟩
    have hrow : Row wr w.heap.size 5 (.slice (some ⟨gd, 0, none⟩) (bn + 5) cd) (ys.map (Value.int .u8)) := by unfold Row; rw [List.length_map]; exact ho.1
    have hci : wr.cell? ⟨gd, i, none⟩ = some (.int .u8 x) := by
     rw [hrow.cellAt (by rw [List.length_map]; omega), List.getElem?_map, hx]; rfl
    have hfi := hrow.frozenAt i
    obtain ⟨hr2, hg2⟩ := hrow.set i (.int .u8 77)
    have e77 : (ys.map (Value.int .u8)).set i (.int .u8 77) = (ys.set i 77).map (Value.int .u8) := (List.map_set ..).symm
    rw [e77] at hr2
    have HQ : Hid (∃ ys, Own8 (wr.setCell ⟨gd, i, none⟩ (.int .u8 77)) w.heap.size (.slice (some ⟨gd, 0, none⟩) (bn + 5) cd) ys ∧ Up (fun b => b = gd) w5 (wr.setCell ⟨gd, i, none⟩ (.int .u8 77))) := hide (by
     refine ⟨_, ⟨by unfold Row at hr2; rw [List.length_map] at hr2; exact hr2, fun y hy => ?_⟩, hUw.trans (Up.of_grown (F := fun b => b = gd) hg2 (fun _ e => (Option.some.inj e).symm)) (fun b h => Or.inl h)⟩
     rcases List.mem_or_eq_of_mem_set hy with hy | rfl
     · exact ho.2 y hy
     · omega)
    have hiI : (i : Int) < ((bn + 5 : Nat) : Int) := by omega
    clear ho hUw hx hrow hr2 hg2 e77 hyl HI
    go_wp2
    go_roundw
    case rel => exact ⟨i + 1, by omega, by go_num, HQ⟩
    case measure => simp [intOf]; omega
  · obtain ⟨ys, ho, hUw⟩ := HI.out
    have hU5 : Up (fun _ => False) w wr := (HU03.out.then_below HB35.out).trans hUw (fun b h => Or.inr (by omega))
    have HU5 := hide hU5
    have HRF5 := hide (unhide HRF wr ((hU5.below (Nat.le_refl _) (fun _ h => h.elim))))
    clear ho hUw hU5 HI
    have hf0N : (f != 0) = true := by simpa using hf0
    go_wp2_with fail
    refine (unhide HRF5).mono ?_
    rintro e w6 ⟨rfl, hb6⟩
    have hU6 := HU5.out.then_below hb6
    have HU6 := hide hU6
    clear hb6 HRF5 HU5
    go_wp2_with fail
    refine (num6_calls f _).mono ?_
    rintro e wn ⟨rfl, hwn⟩
    obtain rfl := hwn.symm
    clear hwn
    go_wp2_with fail
    have hy0 : Below w6.heap.size w6 w6.drew := (Below.refl _ _).drew
    have HS14 : Hid (∀ W, Below w6.heap.size w6 W → W.cell? ⟨gx, 1, none⟩ = some (.pointer (some ⟨g, 0, none⟩)) ∧ W.cell? ⟨gx, 3, none⟩ = some (.pointer (some ⟨gr, 0, none⟩))) := hide (fun W hW => by
     obtain ⟨_, q1, _, q3, _⟩ := unhide HBC W (HU6.out.then_below hW)
     exact ⟨q1, q3⟩)
    have HL1 : Hid (∀ W, Below w6.heap.size w6 W → Calls Tryz.prog 12 #[.pointer (some ⟨g, 0, none⟩)] W fun e w' => ∃ v, e = .returned v ∧ Row w' W.heap.size 3 v (iV (allF fr 0 ws)) ∧ Below W.heap.size W w') := hide (fun W hW => unhide HLI W (HU6.out.then_below hW))
    have HL2 : Hid (∀ W, Below w6.heap.size w6 W → Calls Tryz.prog 13 #[.pointer (some ⟨gr, 0, none⟩)] W fun e w' => ∃ v, e = .returned v ∧ Row w' W.heap.size 3 v (iV (allF fr 0 ws)) ∧ Below W.heap.size W w') := hide (fun W hW => unhide HLJ W (HU6.out.then_below hW))
    refine wp_region_held_drew (S := fun W => W.cell? ⟨gx, 1, none⟩ = some (.pointer (some ⟨g, 0, none⟩)) ∧ W.cell? ⟨gx, 3, none⟩ = some (.pointer (some ⟨gr, 0, none⟩))) (by kernel_rfl) (unhide HS14 _ hy0) (fun hHeld => ?_)
    refine wpAnyH_take (i := 0) (v := .pointer (some ⟨gx, 0, none⟩)) rfl (by kernel_rfl) (by kernel_rfl) (by kernel_rfl) (fun _ _ _ h => h) (Or.inl ⟨by rfl, fun w hSw => by obtain ⟨hS1, hS2⟩ := hSw; go_simp⟩) (by assumption) ?_
    simp only [fGa, fGz, Act.put, fSa, fSz, fSs]
    refine wpAnyH_take (i := 1) (v := .pointer (some ⟨gx, 0, none⟩)) rfl (by kernel_rfl) (by kernel_rfl) (by kernel_rfl) (fun _ _ _ h => h) (Or.inl ⟨by rfl, fun w hSw => by obtain ⟨hS1, hS2⟩ := hSw; go_simp⟩) (by assumption) ?_
    simp only [fGa, fGs, fGz, Act.put, fSa, fSz, fSs]
    refine wpAnyH_take (i := 2) (v := .pointer (some ⟨gx, 1, none⟩)) rfl (by kernel_rfl) (by kernel_rfl) (by kernel_rfl) (fun _ _ _ h => h) (Or.inl ⟨by rfl, fun w hSw => by obtain ⟨hS1, hS2⟩ := hSw; go_simp⟩) (by assumption) ?_
    simp only [fGa, fGs, fGz, Act.put, fSa, fSz, fSs]
    refine wpAnyH_take (i := 3) (v := .pointer (some ⟨g, 0, none⟩)) rfl (by kernel_rfl) (by kernel_rfl) (by kernel_rfl) (fun _ _ _ h => h) (Or.inl ⟨by rfl, fun w hSw => by obtain ⟨hS1, hS2⟩ := hSw; go_simp⟩) (by assumption) ?_
    simp only [fGa, fGs, fGz, Act.put, fSa, fSz, fSs]
    refine wpAnyH_take (i := 5) (v := .pointer (some ⟨gx, 0, none⟩)) rfl (by kernel_rfl) (by kernel_rfl) (by kernel_rfl) (fun _ _ _ h => h) (Or.inl ⟨by rfl, fun w hSw => by obtain ⟨hS1, hS2⟩ := hSw; go_simp⟩) (by assumption) ?_
    simp only [fGa, fGs, fGz, Act.put, fSa, fSz, fSs]
    refine wpAnyH_take (i := 6) (v := .pointer (some ⟨gx, 0, none⟩)) rfl (by kernel_rfl) (by kernel_rfl) (by kernel_rfl) (fun _ _ _ h => h) (Or.inl ⟨by rfl, fun w hSw => by obtain ⟨hS1, hS2⟩ := hSw; go_simp⟩) (by assumption) ?_
    simp only [fGa, fGs, fGz, Act.put, fSa, fSz, fSs]
    refine wpAnyH_take (i := 7) (v := .pointer (some ⟨gx, 3, none⟩)) rfl (by kernel_rfl) (by kernel_rfl) (by kernel_rfl) (fun _ _ _ h => h) (Or.inl ⟨by rfl, fun w hSw => by obtain ⟨hS1, hS2⟩ := hSw; go_simp⟩) (by assumption) ?_
    simp only [fGa, fGs, fGz, Act.put, fSa, fSz, fSs]
    refine wpAnyH_take (i := 8) (v := .pointer (some ⟨gr, 0, none⟩)) rfl (by kernel_rfl) (by kernel_rfl) (by kernel_rfl) (fun _ _ _ h => h) (Or.inl ⟨by rfl, fun w hSw => by obtain ⟨hS1, hS2⟩ := hSw; go_simp⟩) (by assumption) ?_
    simp only [fGa, fGs, fGz, Act.put, fSa, fSz, fSs]
    refine wpAnyH_ready (rs := [4]) (by kernel_rfl) (by simp) (AllReadyH.cons rfl (fun K hK => ?_) AllReadyH.nil)
    refine step_call1C (by rfl) 12 list6_enter (.tmp 80) _ rfl rfl (unhide HL1 _ hy0) ?_
    rintro e wa ⟨v1, rfl, hr1, hbwa⟩
    obtain ⟨la1, lc1, rfl⟩ := hr1.shape
    have hz1 : Below w6.heap.size w6 wa := hy0.trans (hbwa.mono hy0.size)
    refine ⟨_, rfl, ?_⟩
    refine hK.out _ _ (unhide HS14 _ hz1) (fun hJ1 => ?_)
    clear hK K
    simp only [fGa, fGs, fGz, Act.put, fSa, fSz, fSs]
    refine wpAnyH_ready (rs := [9]) (by kernel_rfl) (by simp) (AllReadyH.cons rfl (fun K hK => ?_) AllReadyH.nil)
    refine step_call1C (by rfl) 13 rlist_enter (.tmp 85) _ rfl rfl (unhide HL2 _ hz1) ?_
    rintro e wb ⟨v2, rfl, hr2, hbwb⟩
    obtain ⟨la2, lc2, rfl⟩ := hr2.shape
    have hr1b := Row.mono (owns_up hr1 (Up.of_below (F := fun _ => False) hbwb) (fun _ _ h => h)) (Nat.zero_le _)
    have hz2 : Below w6.heap.size w6 wb := hz1.trans (hbwb.mono hz1.size)
    refine ⟨_, rfl, ?_⟩
    refine hK.out _ _ (unhide HS14 _ hz2) (fun hJ2 => ?_)
    clear hK K
    simp only [fGa, fGs, fGz, Act.put, fSa, fSz, fSs]
    refine wpAnyH_ready (rs := [10]) (by kernel_rfl) (by simp) (AllReadyH.cons rfl (fun K hK => ?_) AllReadyH.nil)
    refine step_call2C (by rfl) 11 sameInts6_enter (.tmp 81) (.tmp 86) _ rfl rfl rfl ((sameInts6_calls hr1b hr2)) ?_
    rintro e wc ⟨rfl, hbwc⟩
    rw [decide_eq_true rfl]
    have hz3 : Below w6.heap.size w6 wc := hz2.trans (hbwc.mono hz2.size)
    refine ⟨_, rfl, ?_⟩
    refine hK.out _ _ (unhide HS14 _ hz3) (fun hJ3 => ?_)
    clear hK K
    simp only [fGa, fGs, fGz, Act.put, fSa, fSz, fSs]
    refine wpAnyH_take (i := 11) (v := .pointer none) rfl (by kernel_rfl) (by kernel_rfl) (by kernel_rfl) (fun _ _ _ h => h) (Or.inl ⟨by rfl, fun w hSw => by obtain ⟨hS1, hS2⟩ := hSw; go_simp⟩) (by assumption) ?_
    simp only [fGa, fGs, fGz, Act.put, fSa, fSz, fSs]
    refine wpAnyH_take (i := 12) (v := .bool true) rfl (by kernel_rfl) (by kernel_rfl) (by kernel_rfl) (fun _ _ _ h => h) (Or.inl ⟨by rfl, fun w hSw => by obtain ⟨hS1, hS2⟩ := hSw; go_simp⟩) (by assumption) ?_
    simp only [fGa, fGs, fGz, Act.put, fSa, fSz, fSs]
    refine wpAnyH_done (by kernel_rfl) ?_ _
    go_wp2
    go_ret2
    exact ⟨rfl, HU6.out.below (Nat.le_refl _) (fun _ h => h.elim) |>.trans ((hz3).mono HU6.out.size)⟩
end
end Go.Proofs.YtdalbalphagmfaaGreatDoor
