/- ChainReads: one look of both readings. ChainReads: one look, whole. ChainReads: one look behind the end. -/
import Derived.Test.YtdalbalphagmfaaGreatDoorTD
namespace Go.Proofs.YtdalbalphagmfaaGreatDoor
open Go.RowKit Go.Maps

theorem gstep_enter6 (v u : Value) (W : World) : (callFunc 81 #[v, u]).run Tryz.prog W = .ok (.enter 81 #[v, u]) W := by kernel_rfl
theorem eholds_enter (v : Value) (W : World) : (callFunc 79 #[v]).run Tryz.prog W = .ok (.enter 79 #[v]) W := by kernel_rfl
theorem loadN_run {W : World} {ad : Addr} {v : Value} (h : W.cell? ad = some v) : (Instr.loadAt 3 (.pointer (some ad))).run Tryz.prog W = .ok v W := by
 have hu := Tryz.underlying3
 go_simp
theorem step_loadN {ops : Array Oper} {o : Oper} {a : Act} {w : World} {K : Act → World → Prop} {Q : Exit → Act → World → Prop} {E : Prop} (hgd : o.guard = none) (x : Operand) (ho : o.op = .load 3 x) {ad : Addr} {v : Value} (hx : a.eval x = .pointer (some ad)) (hc : w.cell? ad = some v) (hk : K (a.put o.dst v) w) : if Region.wanted o (yielded ops a.tmps) = true then Oper.wp Tryz.prog o a w K Q else E := by
 rw [if_pos (by simp [Region.wanted, hgd])]
 unfold Oper.wp execOp
 simp only [ho, hx, Sem.run_bind, loadN_run hc, Result.andThen_ok, Sem.run_pure]
 exact hk
/-- A Step behind the end. -/
theorem rstep_done {w : World} {B p pr up ug fr to_ : Nat} {hs : List Int} {fi le : Int} {nv bv : Value} {S : RS} (hR : Rd w B p pr up ug hs fi le fr to_ nv bv S) (ho : outB le S = true) :
 Calls Tryz.prog 80 #[.pointer (some ⟨pr, 0, none⟩)] w fun e w' => e = .returned (.tuple #[.bool true, .int .i64 (outE S)]) ∧ Below w.heap.size w w' := by
 obtain ⟨_, _, c34, _, c36, _, _, _, c40⟩ := hR.cells
 by_cases hz : S.br = 0
 · have hne : ((S.ns.length : Int) == secN le) = true := by
    unfold outB at ho
    rw [if_pos hz] at ho
    simpa using ho
   have HBD : Hid (∀ W, Below w.heap.size w W → Calls Tryz.prog 73 #[.pointer (some ⟨pr, 0, none⟩)] W fun e w' => e = .returned (.bool true) ∧ w' = W.drew) := hide (fun W hW => by
    have h := behind_calls (bkeptC hW c36) (bkeptC hW c34)
    rw [hne] at h
    exact h)
   have e2 : outE S = 0 := by unfold outE; rw [if_pos hz]
   rw [hz] at c40
   rw [e2]
   clear hR ho hne e2 hz c34 c36
   have HB1 := hide (unhide HBD w (Below.refl _ _))
   go_enter Tryz.func80, Tryz.ntmps80
   go_wp2_with fail
   refine (unhide HB1).mono ?_
   rintro e w1 ⟨rfl, hw1⟩
   have hb1 : Below w.heap.size w w1 := by rw [hw1]; exact (Below.refl _ _).drew
   have c40' := bkeptC hb1 c40
   have HB2 := hide (unhide HBD w1 hb1)
   have HB01 := hide hb1
   clear hw1 HB1 c40 hb1
   go_wp2_with fail
   refine (unhide HB2).mono ?_
   rintro e w2 ⟨rfl, hw2⟩
   have HB02 : Hid (Below w.heap.size w w2) := hide (by rw [hw2]; exact HB01.out.drew)
   clear hw2 HB2
   go_wp2
   go_ret2
   exact ⟨rfl, HB02.out⟩
 · have e2 : outE S = 61 := by unfold outE; rw [if_neg hz]
   rw [e2]
   obtain ⟨z, hze⟩ : ∃ z, S.br = z := ⟨_, rfl⟩
   rw [hze] at c40 hz
   have hzn : (z == 0) = false := by simpa using hz
   have hzt : (z != 0) = true := by simpa using hz
   have HB : Hid (Below w.heap.size w w.drew) := hide (Below.refl _ _).drew
   clear hR ho e2 hze c34 c36
   go_enter Tryz.func80, Tryz.ntmps80
   go_wp2
   go_ret2
   first | exact ⟨rfl, HB.out⟩ | exact ⟨rfl, Below.refl _ _⟩
/-- What is known of a reading under way, or ended. -/
structure Pj (le : Int) (fr to_ : Nat) (S : RS) : Prop where
 go : outB le S = false → Rj fr to_ S ∧ (S.ns.length : Int) < secN le
 by0 : S.br ≠ 0 → S.by_ = []
 byl : S.by_.length ≤ 480 * S.ns.length
 nsl : (S.ns.length : Int) ≤ secN le
theorem outB_end {le : Int} {S : RS} : outB le S = endR le S := by
 unfold outB endR
 by_cases h : S.br = 0
 · rw [if_pos h]
   apply decide_eq_decide.2
   constructor
   · exact Or.inr
   · rintro (h1 | h1)
     · exact absurd h h1
     · exact h1
 · rw [if_neg h]
   exact (decide_eq_true (Or.inl h)).symm
theorem Pj.begin {le : Int} {fr to_ fi : Nat} (h : fr ≤ fi ∧ fi < to_) (hz : secN le ≠ 0) : Pj le fr to_ (begS fr to_ fi) := by
 have := secN_lo le
 exact ⟨fun _ => ⟨rj_begin h, by show ((0 : Nat) : Int) < _; omega⟩, fun h => absurd rfl h, Nat.zero_le _, by show ((0 : Nat) : Int) ≤ _; omega⟩
theorem Pj.step {le : Int} {fr to_ : Nat} {S : RS} (h : Pj le fr to_ S) (ho : outB le S = false) {b hs : List Int} {fi : Int} (hb : ∀ x ∈ b, 0 ≤ x ∧ x ≤ 255) (h1 : 1 ≤ fr) (hfi : fi ≠ 0) : Pj le fr to_ (readS b hs fi le fr to_ S) := by
 obtain ⟨hj, hns⟩ := h.go ho
 have hn1 := readS_ns b hs fi le fr to_ S
 have hnl : (readS b hs fi le fr to_ S).ns.length = S.ns.length + 1 := by rw [hn1, List.length_append, List.length_singleton]
 refine ⟨fun h2 => ?_, fun h2 => ?_, ?_, by rw [hnl]; omega⟩
 · have h3 := hj.step hb hns (by rw [← outB_end]; exact h2) h1 hfi
   refine ⟨h3.1, ?_⟩
   have h4 : ¬ ((readS b hs fi le fr to_ S).ns.length : Int) = secN le := fun e => by
    unfold outB at h2
    by_cases h5 : (readS b hs fi le fr to_ S).br = 0
    · rw [if_pos h5, decide_eq_true e] at h2; exact absurd h2 (by decide)
    · rw [if_neg h5] at h2; exact absurd h2 (by decide)
   omega
 · by_cases hf : fits b hs le fr to_ S
   · by_cases h3 : (S.ns.length : Int) + 1 = secN le ∧ shaOf (S.by_ ++ partOf b le S.ns.length) ≠ hs
     · rw [readS_bad hf h3]; rfl
     · rw [readS_yes hf h3] at h2; exact absurd rfl h2
   · rw [readS_no hf]
 · rw [hnl]
   have hc := cnt_ok (le := le) (place := (S.ns.length : Int)) (by omega) hns
   have := readS_by b hs fi le fr to_ S
   have := h.byl
   omega
/-- A base and an eye on its way. -/
structure Lk (w0 W : World) (p gl gm : Nat) (V : Nat → Value) (D : AD) (gy B pr up ug B2 gq : Nat) (hs : List Int) (fi le : Int) (heap n : Nat) (S : RS) (nv bv nq pq : Value) (j : Nat) : Prop where
 ey : Ey W gy B p pr up ug B2 gq hs fi le heap n S nv bv nq pq
 dk : Dk W p gl gm V (D.reads j)
 u0 : Up (fun b => b = p) w0 W
 lo : ∀ b, Fr pr up ug nv bv b → w0.heap.size ≤ b
 lq : w0.heap.size ≤ gq ∧ w0.heap.size ≤ gy ∧ gy ≠ gq
 ln : ∀ b, nq.ownBlock = some b → w0.heap.size ≤ b ∧ ¬ Fr pr up ug nv bv b
 lp : ∀ b, pq.ownBlock = some b → w0.heap.size ≤ b ∧ ¬ Fr pr up ug nv bv b
 lf : ¬ Fr pr up ug nv bv gq ∧ ¬ Fr pr up ug nv bv gy
 sz : B ≤ W.heap.size ∧ B2 ≤ W.heap.size
 pj : Pj le heap n S
section
variable {w0 w W W1 : World} {gx ga ca n p gl gm g gr B0 gy B pr up ug B2 gq heap j : Nat} {us : List Value} {ims : List (List Int)} {V : Nat → Value} {D : AD} {hs : List Int} {fi le : Int} {S : RS} {nv bv nq pq : Value}
theorem Lk.below (h : Lk w0 W p gl gm V D gy B pr up ug B2 gq hs fi le heap n S nv bv nq pq j) (hb : Below W.heap.size W W1) : Lk w0 W1 p gl gm V D gy B pr up ug B2 gq hs fi le heap n S nv bv nq pq j :=
 ⟨h.ey.below hb, h.dk.below hb, h.u0.then_below hb, h.lo, h.lq, h.ln, h.lp, h.lf, ⟨Nat.le_trans h.sz.1 hb.size, Nat.le_trans h.sz.2 hb.size⟩, h.pj⟩
/-- The base stands as it did. -/
theorem Bc.later (hC : Bc w0 gx ga ca n us ims p gl gm V D g gr B0) (hp : GB ≤ p) (hU : Up (fun b => b = p) w0 W) (hD : Dk W p gl gm V (D.reads j)) : Bc W gx ga ca n us ims p gl gm V (D.reads j) g gr B0 := by
 have hty := hC.dk.blk.ty
 have hne : ∀ {b : Nat} {t : TypeId}, Ty w0 b t → t ≠ 123 → ¬ b = p := fun hb ht e => ht (hb.one (e ▸ hty))
 exact ⟨hC.arr.up hU (hne hC.arr.ty (by decide)), hC.ig.up hU (fun b hb => by obtain ⟨_, c, m, h2⟩ := row_blk hC.ig.own hb; exact hne ⟨c, m, h2⟩ (by decide)) (fun b hb => hne hb (by decide)), hC.nl, hD, hC.dn, hC.tt.up hU (fun b e => by omega)⟩
theorem Lk.env (h : Lk w0 W p gl gm V D gy B pr up ug B2 gq hs fi le heap n S nv bv nq pq j) (hD : Dk w0 p gl gm V D) (hF : ∀ x, Ft p gl gm V x → GB ≤ x) (hG : GB ≤ w0.heap.size) : Env W p gl gm V pr up ug nv bv :=
 ⟨fun x hx => h.dk.lt hx, fun x hx => h.ey.rd.lt hx, fun x hx hf => by have := h.lo x hx; have := hD.lt hf; omega, hF, fun x hx => Nat.le_trans hG (h.lo x hx), Nat.le_trans hG h.u0.size⟩
theorem Go.kept {F : Nat → Prop} {at_ : Nat} {nums : List Nat} {parts : List Int} {en : Bool} {er bk : Int} (h : Go W B2 gq hs fi le heap n at_ nums parts en er bk nq pq) (hu : Up F W W1) (h1 : ¬ F gq) (h2 : ∀ b, nq.ownBlock = some b → ¬ F b) (h3 : ∀ b, pq.ownBlock = some b → ¬ F b) : Go W1 B2 gq hs fi le heap n at_ nums parts en er bk nq pq :=
 ⟨h.arr.up hu h1, owns_up h.num hu h2, ⟨owns_up h.prt.1 hu h3, h.prt.2⟩, h.hl, h.hb⟩
/-- The memory behind the two Steps. -/
theorem look_facts {w2 w3 w4 : World} {nv' bv' nq' pq' : Value} {S' : RS} (h : Lk w0 w p gl gm V D gy B pr up ug B2 gq hs fi le heap n S nv bv nq pq j) (hb2 : Below w.heap.size w w2) (hFl : ∀ b, Ft p gl gm V b → b < w0.heap.size) (h3 : Rd w3 B p pr up ug hs fi le heap n nv' bv' S') (hD3 : Dk w3 p gl gm V (D.reads (j + 1))) (hf3 : ∀ b, Fr pr up ug nv' bv' b → Fr pr up ug nv bv b ∨ w2.heap.size ≤ b) (hU3 : Up (fun b => b = p ∨ Fr pr up ug nv bv b) w2 w3)
 (h4 : Gst w4 B2 gq hs fi le heap n S' nq' pq') (hn4 : ∀ x, nq'.ownBlock = some x → nq.ownBlock = some x ∨ w3.heap.size ≤ x) (hp4 : ∀ x, pq'.ownBlock = some x → pq.ownBlock = some x ∨ w3.heap.size ≤ x) (hU4 : Up (fun b => b = gq ∨ nq.ownBlock = some b ∨ pq.ownBlock = some b) w3 w4) (hP : Pj le heap n S') (hns : S'.ns ≠ []) {gA : Nat} (hgA : w.heap.size ≤ gA) {AC : List Value} (hA : Arr w2 gA 80 AC) :
 Lk w0 w4 p gl gm V D gy B pr up ug B2 gq hs fi le heap n S' nv' bv' nq' pq' (j + 1) ∧ Arr w4 gA 80 AC := by
 obtain ⟨at_, parts, hG, _⟩ := h.ey.gs.ex
 have s12 := hb2.size
 have s23 := hU3.size
 have s34 := hU4.size
 have hyt := h.ey.arr.ty
 have hyl := h.ey.arr.lt
 have hql := hG.arr.lt
 have hpl0 := hFl p (Or.inl rfl)
 have hlq := h.lq
 have hsz := h.sz
 have hrl : ∀ {b}, Fr pr up ug nv bv b → b < w.heap.size := fun hb => h.ey.rd.lt hb
 have s02 := h.u0.size
 have hnF : ∀ b, b = gq ∨ nq.ownBlock = some b ∨ pq.ownBlock = some b → w0.heap.size ≤ b ∧ ¬ Fr pr up ug nv bv b ∧ b < w.heap.size ∧ b ≠ gy := by
  rintro b (rfl | hb | hb)
  · exact ⟨h.lq.1, h.lf.1, hql, fun e => h.lq.2.2 e.symm⟩
  · exact ⟨(h.ln b hb).1, (h.ln b hb).2, (hG.tyN hb).1.lt, fun e => absurd ((hG.tyN hb).1.one (e ▸ hyt)) (by decide)⟩
  · exact ⟨(h.lp b hb).1, (h.lp b hb).2, (hG.tyP hb).1.lt, fun e => absurd ((hG.tyP hb).1.one (e ▸ hyt)) (by decide)⟩
 have hFn : ∀ b, Fr pr up ug nv' bv' b → ¬ (b = gq ∨ nq.ownBlock = some b ∨ pq.ownBlock = some b) := fun b hb e => by
  obtain ⟨_, e2, e3, _⟩ := hnF b e
  rcases hf3 b hb with q | q
  · exact e2 q
  · omega
 have hR4 : Rd w4 B p pr up ug hs fi le heap n nv' bv' S' := h3.up hU4 hFn
 have hD4 : Dk w4 p gl gm V (D.reads (j + 1)) := hD3.up hU4 (fun b hb e => by
  have q1 := (hnF b e).1
  have q2 := hFl b hb
  omega)
 have hU2 : Up (fun b => b = p) w0 w2 := h.u0.then_below hb2
 have hUa : Up (fun b => b = p) w0 w3 := hU2.trans hU3 (fun b e => by
  rcases e with e | e
  · exact Or.inl e
  · exact Or.inr (h.lo b e))
 have hUb : Up (fun b => b = p) w0 w4 := hUa.trans hU4 (fun b e => Or.inr (hnF b e).1)
 have hp9 := hP.byl
 have hp8 := hP.nsl
 have hp7 := secN_hi le
 have hA4 : Arr w4 gA 80 AC := by
  refine (hA.up hU3 (fun e => ?_)).up hU4 (fun e => ?_)
  · rcases e with e | e
    · omega
    · have := hrl e; omega
  · have := (hnF gA e).2.2.1; omega
 refine ⟨⟨⟨((h.ey.arr.below hb2).up hU3 (fun e => ?_)).up hU4 (fun e => ?_), hR4, h4, hP.by0, by omega, by omega, fun e => absurd e hns⟩, hD4, hUb, fun b hb => ?_, h.lq, fun b hb => ?_, fun b hb => ?_, ⟨fun hb => hFn gq hb (Or.inl rfl), fun hb => ?_⟩, ⟨by omega, by omega⟩, hP⟩, hA4⟩
 · rcases e with e | e
   · omega
   · exact h.lf.2 e
 · exact (hnF gy e).2.2.2 rfl
 · rcases hf3 b hb with q | q
   · exact h.lo b q
   · omega
 · rcases hn4 b hb with q | q
   · exact ⟨(h.ln b q).1, fun hb => hFn b hb (Or.inr (Or.inl q))⟩
   · exact ⟨by omega, fun hb => by have := h3.lt hb; omega⟩
 · rcases hp4 b hb with q | q
   · exact ⟨(h.lp b q).1, fun hb => hFn b hb (Or.inr (Or.inr q))⟩
   · exact ⟨by omega, fun hb => by have := h3.lt hb; omega⟩
 · rcases hf3 gy hb with q | q
   · exact h.lf.2 q
   · omega
theorem look_mid {w2 w3 : World} {nv' bv' : Value} {b : List Int} (hC : Bc w0 gx ga ca n us ims p gl gm V D g gr B0) (hp : GB ≤ p) (h : Lk w0 w p gl gm V D gy B pr up ug B2 gq hs fi le heap n S nv bv nq pq j) (ho : outB le S = false) (h1 : 1 ≤ heap) (hn2 : n ≤ 65536) (hfi : fi ≠ 0) (hb : ims.getD S.nx [] = b) (hb2 : Below w.heap.size w w2) (h3 : Rd w3 B p pr up ug hs fi le heap n nv' bv' (readS b hs fi le heap n S)) (hD3 : Dk w3 p gl gm V (D.reads (j + 1))) (hf3 : ∀ b, Fr pr up ug nv' bv' b → Fr pr up ug nv bv b ∨ w2.heap.size ≤ b) (hU3 : Up (fun b => b = p ∨ Fr pr up ug nv bv b) w2 w3) {gA : Nat} (hgA : w.heap.size ≤ gA) {AC : List Value} (hA : Arr w2 gA 80 AC) :
 ∃ ra rc, (∀ W, Up (fun b => w0.heap.size ≤ b ∧ b ≠ gy) w3 W → W.cell? ⟨gy, 1, none⟩ = some (.pointer (some ⟨gq, 0, none⟩)) ∧ W.cell? ⟨gx, 2, none⟩ = some (.slice (some ⟨ga, 0, none⟩) n ca) ∧ W.cell? ⟨ga, S.nx, none⟩ = some (.slice ra 512 rc)) ∧ (∀ W, Below w3.heap.size w3 W → W.cell? ⟨gq, 36, none⟩ = some (.int .i64 (S.nx : Int)) ∧ W.cell? ⟨gq, 39, none⟩ = some (.bool false)) ∧
  ∀ W, Below w3.heap.size w3 W → Calls Tryz.prog 81 #[.pointer (some ⟨gq, 0, none⟩), .slice ra 512 rc] W fun e w' => ∃ r, e = .returned r ∧ Up (fun b => w0.heap.size ≤ b ∧ b ≠ gy) w3 w' ∧ Hid (∃ nq' pq', Lk w0 w' p gl gm V D gy B pr up ug B2 gq hs fi le heap n (readS b hs fi le heap n S) nv' bv' nq' pq' (j + 1) ∧ Arr w' gA 80 AC) := by
 obtain ⟨hj, hns⟩ := h.pj.go ho
 have hnx := hj.at_
 have hFl : ∀ b, Ft p gl gm V b → b < w0.heap.size := fun b hb => hC.dk.lt hb
 have hpl0 := hFl p (Or.inl rfl)
 have s12 := hb2.size
 have s02 := h.u0.size
 obtain ⟨at_, parts, hG, hpr⟩ := h.ey.gs.ex
 obtain ⟨rfl, rfl⟩ := hpr hj.br
 rw [ho, show outE S = 0 from by unfold outE; rw [if_pos hj.br], hj.br] at hG
 have hyt := h.ey.arr.ty
 have hyq := h.lq
 have hgq : ¬ (gq = p ∨ Fr pr up ug nv bv gq) := fun e => by
  rcases e with e | e
  · omega
  · exact h.lf.1 e
 have hG3 := (hG.below hb2).kept hU3 hgq (fun b hb e => by
  rcases e with e | e
  · have := (h.ln b hb).1; omega
  · exact (h.ln b hb).2 e) (fun b hb e => by
  rcases e with e | e
  · have := (h.lp b hb).1; omega
  · exact (h.lp b hb).2 e)
 have hU0 : Up (fun b => b = p) w0 w3 := (h.u0.then_below hb2).trans hU3 (fun b e => by
  rcases e with e | e
  · exact Or.inl e
  · exact Or.inr (h.lo b e))
 have hB3 := hC.later hp hU0 hD3
 have hy3 : Arr w3 gy 115 [.pointer (some ⟨pr, 0, none⟩), .pointer (some ⟨gq, 0, none⟩)] := (h.ey.arr.below hb2).up hU3 (fun e => by
  rcases e with e | e
  · omega
  · exact h.lf.2 e)
 obtain ⟨ra, rc, q1, q2, q3⟩ := hB3.ig.at (j := S.nx) (by rw [hC.nl]; exact hnx.2)
 rw [hb] at q2
 refine ⟨ra, rc, fun W hW => ?_, fun W hW => ?_, fun W hW => ?_⟩
 · have hx0 : gx < w0.heap.size := hC.arr.lt
   have ha0 : ga < w0.heap.size := by
    obtain ⟨_, c, m, q⟩ := row_blk hC.ig.own (g := ga) rfl
    exact (Array.getElem?_eq_some_iff.1 q).1
   exact ⟨hW.cell (arr_cell hy3 rfl) (fun e => e.2 rfl), hW.cell (arr_cell hB3.arr rfl) (fun e => by have h9 : w0.heap.size ≤ gx := e.1; omega), hW.cell q1 (fun e => by have h9 : w0.heap.size ≤ ga := e.1; omega)⟩
 · obtain ⟨_, _, c36, _, _, c39, _⟩ := (hG3.below hW).cells
   exact ⟨c36, c39⟩
 · have hbb : ∀ x ∈ b, 0 ≤ x ∧ x ≤ 255 := q2.mem
   have hsz := h.sz
   have s23 := hU3.size
   refine (gstep_calls (hG3.below hW) hj hns h1 hn2 hfi (q2.below hW) (fun x hx => (q3 x hx).up (Up.of_below (F := fun _ => False) hW) (fun h => h)) (by have := hW.size; omega)).mono ?_
   rintro e w' ⟨r, rfl, hP⟩
   obtain ⟨nq', pq', k1, k2, k3⟩ := hP.ex
   refine ⟨r, rfl, (Up.of_below hW).trans hP.up (fun b e => ?_), hide ⟨nq', pq', look_facts h hb2 hFl (h3.below hW) (hD3.below hW) hf3 (hU3.then_below hW) k1 k2 k3 hP.up (h.pj.step ho hbb h1 hfi) (by rw [readS_ns]; simp) hgA hA⟩⟩
   have h9 : w0.heap.size ≤ b ∧ b ≠ gy := by
    rcases e with rfl | hb | hb
    · exact ⟨h.lq.1, fun e => h.lq.2.2 e.symm⟩
    · exact ⟨(h.ln b hb).1, fun e => absurd ((hG.tyN hb).1.one (e ▸ hyt)) (by decide)⟩
    · exact ⟨(h.lp b hb).1, fun e => absurd ((hG.tyP hb).1.one (e ▸ hyt)) (by decide)⟩
   exact Or.inl h9
end
end Go.Proofs.YtdalbalphagmfaaGreatDoor

namespace Go.Proofs.YtdalbalphagmfaaGreatDoor
open Go.RowKit Go.Maps

section
variable {w0 w : World} {gx ga ca n p gl gm g gr B0 gy B pr up ug B2 gq heap j : Nat} {us : List Value} {ims : List (List Int)} {V : Nat → Value} {D : AD} {hs : List Int} {fi le : Int} {S : RS} {nv bv nq pq : Value}
set_option maxRecDepth 100000 in
set_option maxHeartbeats 16000000 in
/-- A look that reads. -/
theorem look_more (hC : Bc w0 gx ga ca n us ims p gl gm V D g gr B0) (hF : ∀ x, Ft p gl gm V x → GB ≤ x) (hG : GB ≤ w0.heap.size) (h : Lk w0 w p gl gm V D gy B pr up ug B2 gq hs fi le heap n S nv bv nq pq j) (ho : outB le S = false) (h1 : 1 ≤ heap) (hn2 : n ≤ 65536) (hfi : fi ≠ 0) (hnow : ∀ i, i < n → D.now i = ims.getD i []) (hw0 : 0 ≤ D.wt) (hw1 : D.wt ≤ 1000000000) (hr0 : 0 ≤ D.rd) (hr1 : D.rd ≤ 1000000000) (hj5 : j ≤ 1000000) :
 Calls Tryz.prog 43 #[.pointer (some ⟨gx, 0, none⟩), .pointer (some ⟨gy, 0, none⟩)] w fun e w' => e = .returned (.bool true) ∧ ∃ nv' bv' nq' pq', Lk w0 w' p gl gm V D gy B pr up ug B2 gq hs fi le heap n (readS (ims.getD S.nx []) hs fi le heap n S) nv' bv' nq' pq' (j + 1) := by
 have hp : GB ≤ p := hF p (Or.inl rfl)
 obtain ⟨hjj, hns⟩ := h.pj.go ho
 have hxn := hjj.at_.2
 have hBc := hC.later hp h.u0 h.dk
 obtain ⟨b, hb⟩ : ∃ b, ims.getD S.nx [] = b := ⟨_, rfl⟩
 have hDb : (D.reads j).now S.nx = b := (hnow _ hxn).trans hb
 rw [hb]
 obtain ⟨rd, hrd⟩ : ∃ rd, (D.reads j).rd = rd := ⟨_, rfl⟩
 obtain ⟨wt, hwt⟩ : ∃ wt, (D.reads j).wt = wt := ⟨_, rfl⟩
 obtain ⟨fl, hfl⟩ : ∃ fl, (D.reads j).fl = fl := ⟨_, rfl⟩
 have hrd' : D.rd + (j : Int) = rd := hrd
 have hwt' : D.wt = wt := hwt
 have hfl' : D.fl = fl := hfl
 have hblk := h.dk.blk
 rw [hrd, hwt, hfl] at hblk
 have HAC := hide (acts_calls (arr_cell hblk rfl) (arr_cell hblk rfl) (arr_cell hblk rfl))
 obtain ⟨R, hR⟩ : ∃ R, readS b hs fi le heap n S = R := ⟨_, rfl⟩
 obtain ⟨ob, hob⟩ : ∃ ob, outB le R = ob := ⟨_, rfl⟩
 obtain ⟨oe, hoe⟩ : ∃ oe, outE R = oe := ⟨_, rfl⟩
 have HST : Hid (∀ W, Below w.heap.size w W → Calls Tryz.prog 80 #[.pointer (some ⟨pr, 0, none⟩)] W fun e w' => e = .returned (.tuple #[.bool ob, .int .i64 oe]) ∧ ∃ nv' bv', Rd w' B p pr up ug hs fi le heap n nv' bv' R ∧ Dk w' p gl gm V (D.reads (j + 1)) ∧ (∀ b, Fr pr up ug nv' bv' b → Fr pr up ug nv bv b ∨ W.heap.size ≤ b) ∧ Up (fun b => b = p ∨ Fr pr up ug nv bv b) W w') := hide (fun W hW => by
  have hL := h.below hW
  have q := rstep_read hL.dk hL.ey.rd (hL.env hC.dk hF hG) (by show S.nx < D.la.length; rw [hC.dn]; exact hxn) (by rw [hrd]; omega) (by rw [hrd]; omega) (hC.later hp hL.u0 hL.dk).tt hL.sz.1 hns (by have := h.ey.byl; exact this) hjj.br
  rw [hDb, hR, hob, hoe, reads_succ] at q
  exact q)
 have HMID : Hid (∀ (w2 w3 : World) (nv' bv' : Value), Below w.heap.size w w2 → Rd w3 B p pr up ug hs fi le heap n nv' bv' R → Dk w3 p gl gm V (D.reads (j + 1)) → (∀ b, Fr pr up ug nv' bv' b → Fr pr up ug nv bv b ∨ w2.heap.size ≤ b) → Up (fun b => b = p ∨ Fr pr up ug nv bv b) w2 w3 → ∀ (gA : Nat), w.heap.size ≤ gA → ∀ (AC : List Value), Arr w2 gA 80 AC →
  ∃ ra rc, (∀ W, Up (fun b => w0.heap.size ≤ b ∧ b ≠ gy) w3 W → W.cell? ⟨gy, 1, none⟩ = some (.pointer (some ⟨gq, 0, none⟩)) ∧ W.cell? ⟨gx, 2, none⟩ = some (.slice (some ⟨ga, 0, none⟩) n ca) ∧ W.cell? ⟨ga, S.nx, none⟩ = some (.slice ra 512 rc)) ∧ (∀ W, Below w3.heap.size w3 W → W.cell? ⟨gq, 36, none⟩ = some (.int .i64 (S.nx : Int)) ∧ W.cell? ⟨gq, 39, none⟩ = some (.bool false)) ∧
   ∀ W, Below w3.heap.size w3 W → Calls Tryz.prog 81 #[.pointer (some ⟨gq, 0, none⟩), .slice ra 512 rc] W fun e w' => ∃ r, e = .returned r ∧ Up (fun b => w0.heap.size ≤ b ∧ b ≠ gy) w3 w' ∧ Hid (∃ nq' pq', Lk w0 w' p gl gm V D gy B pr up ug B2 gq hs fi le heap n R nv' bv' nq' pq' (j + 1) ∧ Arr w' gA 80 AC)) := hide (fun w2 w3 nv' bv' a1 a2 a3 a4 a5 gA a6 AC a7 => by
  have q := look_mid hC hp h ho h1 hn2 hfi hb a1 (by rw [hR]; exact a2) a3 a4 a5 a6 a7
  rw [hR] at q
  exact q)
 have HFIN : Hid (∀ (W : World) (nv' bv' nq' pq' : Value) (gA : Nat), Lk w0 W p gl gm V D gy B pr up ug B2 gq hs fi le heap n R nv' bv' nq' pq' (j + 1) → Arr W gA 80 [.int .i64 rd, .int .i64 wt, .int .i64 fl] → (W.rangeAt gA 0 [Value.int .i64 rd, .int .i64 wt, .int .i64 fl] ∧ W.cell? ⟨gy, 1, none⟩ = some (.pointer (some ⟨gq, 0, none⟩)) ∧ W.cell? ⟨gq, 39, none⟩ = some (.bool ob) ∧ W.cell? ⟨gq, 40, none⟩ = some (.int .i64 oe)) ∧ Calls Tryz.prog 28 #[.pointer (some ⟨gx, 0, none⟩), .agg [Value.int .i64 rd, .int .i64 wt, .int .i64 fl].toArray, .int .i64 1, .int .i64 0] W (fun e w' => e = .returned (.bool true) ∧ Below W.heap.size W w') ∧ Calls Tryz.prog 79 #[.pointer (some ⟨gy, 0, none⟩)] W (fun e w' => e = .returned (.bool true) ∧ Below W.heap.size W w')) := hide (fun W nv' bv' nq' pq' gA a1 a2 => by
  obtain ⟨_, _, q, _⟩ := a1.ey.gs.ex
  obtain ⟨_, _, _, _, _, c39, c40, _⟩ := q.cells
  rw [hob] at c39
  rw [hoe] at c40
  have hB := (hC.later hp a1.u0 a1.dk)
  have hK := hB.dk.blk
  rw [show (D.reads (j + 1)).rd = rd + 1 from by show D.rd + ((j + 1 : Nat) : Int) = _; omega, show (D.reads (j + 1)).wt = wt from hwt', show (D.reads (j + 1)).fl = fl from hfl'] at hK
  exact ⟨⟨arr_range (ds := []) (by rw [List.append_nil]; exact a2), arr_cell a1.ey.arr rfl, c39, c40⟩, bacts_calls (arr_cell hB.arr rfl) (arr_cell hK rfl) (arr_cell hK rfl) (arr_cell hK rfl) (by rw [IntKind.wrap_i64]; omega) (by rw [IntKind.wrap_i64]; omega), eholds_calls a1.ey⟩)
 have hcx := arr_cell hBc.arr (j := 0) rfl
 have hca : n ≤ ca ∧ ca ≤ 9223372036854775807 := by
  obtain ⟨_, _, hve, _, q1, q2⟩ := hC.ig.shape (by have := hC.nl; omega)
  injection hve with _ _ e3
  subst e3
  have := hC.nl
  exact ⟨by omega, q2⟩
 have HYC : Hid (∀ W, Below w.heap.size w W → W.cell? ⟨gy, 0, none⟩ = some (.pointer (some ⟨pr, 0, none⟩))) := hide (fun W hW => arr_cell (h.ey.arr.below hW) rfl)
 obtain ⟨nx, hnx⟩ : ∃ nx, S.nx = nx := ⟨_, rfl⟩
 rw [hnx] at HMID hxn
 obtain ⟨hca1, hca2⟩ := hca
 have hbob : (ob == ob) = true := by simp
 have hboe : (oe == oe) = true := by simp
 rw [hR]
 clear hC hF hG h ho h1 hn2 hfi hnow hw0 hw1 hr0 hr1 hj5 hp hjj hns hBc hb hDb hrd hwt hfl hrd' hwt' hfl' hblk hR hob hoe hnx
 go_enter Tryz.func43, Tryz.ntmps43
 go_wp2_with fail
 refine (unhide HAC).mono ?_
 rintro e w1 ⟨rfl, hb1⟩
 obtain ⟨gA, hgA⟩ : ∃ gA, w1.heap.size = gA := ⟨_, rfl⟩
 have hA3 := Arr.new w1 [.int .i64 0, .int .i64 0, .int .i64 0] 80
 rw [hgA] at hA3
 have hiA : (Tryz.prog.info? 80).map (·.size) = some [Value.int .i64 rd, .int .i64 wt, .int .i64 fl].length := by kernel_rfl
 have h1A : ∀ u ∈ [Value.int .i64 rd, .int .i64 wt, .int .i64 fl], u.oneCell' = true := by simp [Value.oneCell']
 have HB2 : Hid (∀ w2, Wrote (w1.alloc (.cells #[.int .i64 0, .int .i64 0, .int .i64 0] 80)) w2 gA → Below w.heap.size w w2) := hide (fun w2 hW2 => hW2.below _ _ (hb1.alloc hb1.size _) (by rw [← hgA]; exact hb1.size))
 have HGA := hide hgA
 have HGS : Hid (w.heap.size ≤ gA) := hide (by rw [← hgA]; exact hb1.size)
 clear HAC hb1 hgA
 go_wp2_with (first
  | (refine wpList_storeArr2 (cs' := [Value.int .i64 rd, .int .i64 wt, .int .i64 fl]) rfl (.tmp 5) (.tmp 13) 80 rfl rfl rfl hA3 hiA rfl h1A ?_; intro w2 hAc2 hWr2
     have HAC2 := hide hAc2
     have HBB2 := hide (unhide HB2 w2 hWr2)
     have hyc := unhide HYC w2 HBB2.out
     clear hAc2 hWr2 hA3 HB2)
  | rw [HGA.out])
 have HST2 := hide (unhide HST w2 HBB2.out)
 clear HST HYC hcx
 refine (unhide HST2).mono ?_
 rintro e w3 ⟨rfl, nv', bv', k1, k2, k3, k4⟩
 obtain ⟨ra, rc, hS6, hQ6, hK6⟩ := HMID.out _ _ _ _ HBB2.out k1 k2 k3 k4 _ HGS.out _ HAC2.out
 have HS6 := hide hS6
 have HQ6 := hide hQ6
 have HK6 := hide hK6
 have c39 := (hQ6 w3 (Below.refl _ _)).2
 have cy1 := (hS6 w3 (Up.refl _ _)).1
 clear hS6 hQ6 hK6 k1 k2 k3 k4 HMID HST2 HAC2 HBB2 HGS hyc
 go_wp2_with fail
 clear c39 cy1
 have hx0 : Below w3.heap.size w3 w3.drew := (Below.refl _ _).drew
 have hq36 := (unhide HQ6 _ hx0).1
 refine wp_region_held_drew (S := fun W => W.cell? ⟨gy, 1, none⟩ = some (.pointer (some ⟨gq, 0, none⟩)) ∧ W.cell? ⟨gx, 2, none⟩ = some (.slice (some ⟨ga, 0, none⟩) n ca) ∧ W.cell? ⟨ga, nx, none⟩ = some (.slice ra 512 rc)) (by kernel_rfl) (unhide HS6 _ (Up.of_below hx0)) (fun hHeld => ?_)
 refine wpAnyH_take (i := 0) (v := .pointer (some ⟨gy, 0, none⟩)) rfl (by kernel_rfl) (by kernel_rfl) (by kernel_rfl) (fun _ _ _ h => h) (Or.inl ⟨by rfl, fun w hSw => by obtain ⟨hS1, hS2, hS3⟩ := hSw; go_simp⟩) (by assumption) ?_
 simp only [fGa, fGz, Act.put, fSa, fSz, fSs]
 refine wpAnyH_take (i := 1) (v := .pointer (some ⟨gy, 0, none⟩)) rfl (by kernel_rfl) (by kernel_rfl) (by kernel_rfl) (fun _ _ _ h => h) (Or.inl ⟨by rfl, fun w hSw => by obtain ⟨hS1, hS2, hS3⟩ := hSw; go_simp⟩) (by assumption) ?_
 simp only [fGa, fGs, fGz, Act.put, fSa, fSz, fSs]
 refine wpAnyH_take (i := 2) (v := .pointer (some ⟨gy, 1, none⟩)) rfl (by kernel_rfl) (by kernel_rfl) (by kernel_rfl) (fun _ _ _ h => h) (Or.inl ⟨by rfl, fun w hSw => by obtain ⟨hS1, hS2, hS3⟩ := hSw; go_simp⟩) (by assumption) ?_
 simp only [fGa, fGs, fGz, Act.put, fSa, fSz, fSs]
 refine wpAnyH_take (i := 3) (v := .pointer (some ⟨gq, 0, none⟩)) rfl (by kernel_rfl) (by kernel_rfl) (by kernel_rfl) (fun _ _ _ h => h) (Or.inl ⟨by rfl, fun w hSw => by obtain ⟨hS1, hS2, hS3⟩ := hSw; go_simp⟩) (by assumption) ?_
 simp only [fGa, fGs, fGz, Act.put, fSa, fSz, fSs]
 refine wpAnyH_take (i := 4) (v := .pointer (some ⟨gx, 0, none⟩)) rfl (by kernel_rfl) (by kernel_rfl) (by kernel_rfl) (fun _ _ _ h => h) (Or.inl ⟨by rfl, fun w hSw => by obtain ⟨hS1, hS2, hS3⟩ := hSw; go_simp⟩) (by assumption) ?_
 simp only [fGa, fGs, fGz, Act.put, fSa, fSz, fSs]
 refine wpAnyH_take (i := 5) (v := .pointer (some ⟨gx, 0, none⟩)) rfl (by kernel_rfl) (by kernel_rfl) (by kernel_rfl) (fun _ _ _ h => h) (Or.inl ⟨by rfl, fun w hSw => by obtain ⟨hS1, hS2, hS3⟩ := hSw; go_simp⟩) (by assumption) ?_
 simp only [fGa, fGs, fGz, Act.put, fSa, fSz, fSs]
 refine wpAnyH_take (i := 6) (v := .pointer (some ⟨gx, 2, none⟩)) rfl (by kernel_rfl) (by kernel_rfl) (by kernel_rfl) (fun _ _ _ h => h) (Or.inl ⟨by rfl, fun w hSw => by obtain ⟨hS1, hS2, hS3⟩ := hSw; go_simp⟩) (by assumption) ?_
 simp only [fGa, fGs, fGz, Act.put, fSa, fSz, fSs]
 refine wpAnyH_take (i := 7) (v := .slice (some ⟨ga, 0, none⟩) n ca) rfl (by kernel_rfl) (by kernel_rfl) (by kernel_rfl) (fun _ _ _ h => h) (Or.inl ⟨by rfl, fun w hSw => by obtain ⟨hS1, hS2, hS3⟩ := hSw; go_simp⟩) (by assumption) ?_
 simp only [fGa, fGs, fGz, Act.put, fSa, fSz, fSs]
 refine wpAnyH_take (i := 8) (v := .pointer (some ⟨gy, 0, none⟩)) rfl (by kernel_rfl) (by kernel_rfl) (by kernel_rfl) (fun _ _ _ h => h) (Or.inl ⟨by rfl, fun w hSw => by obtain ⟨hS1, hS2, hS3⟩ := hSw; go_simp⟩) (by assumption) ?_
 simp only [fGa, fGs, fGz, Act.put, fSa, fSz, fSs]
 refine wpAnyH_take (i := 9) (v := .pointer (some ⟨gy, 0, none⟩)) rfl (by kernel_rfl) (by kernel_rfl) (by kernel_rfl) (fun _ _ _ h => h) (Or.inl ⟨by rfl, fun w hSw => by obtain ⟨hS1, hS2, hS3⟩ := hSw; go_simp⟩) (by assumption) ?_
 simp only [fGa, fGs, fGz, Act.put, fSa, fSz, fSs]
 refine wpAnyH_take (i := 10) (v := .pointer (some ⟨gy, 1, none⟩)) rfl (by kernel_rfl) (by kernel_rfl) (by kernel_rfl) (fun _ _ _ h => h) (Or.inl ⟨by rfl, fun w hSw => by obtain ⟨hS1, hS2, hS3⟩ := hSw; go_simp⟩) (by assumption) ?_
 simp only [fGa, fGs, fGz, Act.put, fSa, fSz, fSs]
 refine wpAnyH_take (i := 11) (v := .pointer (some ⟨gq, 0, none⟩)) rfl (by kernel_rfl) (by kernel_rfl) (by kernel_rfl) (fun _ _ _ h => h) (Or.inl ⟨by rfl, fun w hSw => by obtain ⟨hS1, hS2, hS3⟩ := hSw; go_simp⟩) (by assumption) ?_
 simp only [fGa, fGs, fGz, Act.put, fSa, fSz, fSs]
 refine wpAnyH_take (i := 12) (v := .pointer (some ⟨gq, 0, none⟩)) rfl (by kernel_rfl) (by kernel_rfl) (by kernel_rfl) (fun _ _ _ h => h) (Or.inl ⟨by rfl, fun w hSw => by obtain ⟨hS1, hS2, hS3⟩ := hSw; go_simp⟩) (by assumption) ?_
 simp only [fGa, fGs, fGz, Act.put, fSa, fSz, fSs]
 refine wpAnyH_take (i := 13) (v := .pointer (some ⟨gq, 36, none⟩)) rfl (by kernel_rfl) (by kernel_rfl) (by kernel_rfl) (fun _ _ _ h => h) (Or.inl ⟨by rfl, fun w hSw => by obtain ⟨hS1, hS2, hS3⟩ := hSw; go_simp⟩) (by assumption) ?_
 simp only [fGa, fGs, fGz, Act.put, fSa, fSz, fSs]
 refine wpAnyH_ready (rs := [14]) (by kernel_rfl) (by simp) (AllReadyH.cons rfl (fun K hK => ?_) AllReadyH.nil)
 refine step_loadN (by rfl) (.tmp 43) rfl rfl hq36 ?_
 refine hK.out _ _ (unhide HS6 _ (Up.of_below hx0)) (fun hJ0 => ?_)
 clear hK K
 simp only [fGa, fGs, fGz, Act.put, fSa, fSz, fSs]
 refine wpAnyH_take (i := 15) (v := .pointer (some ⟨ga, nx, none⟩)) rfl (by kernel_rfl) (by kernel_rfl) (by kernel_rfl) (fun _ _ _ h => h) (Or.inl ⟨by rfl, fun w hSw => by obtain ⟨hS1, hS2, hS3⟩ := hSw; go_simp⟩) (by assumption) ?_
 simp only [fGa, fGs, fGz, Act.put, fSa, fSz, fSs]
 refine wpAnyH_take (i := 16) (v := .slice (ra) 512 rc) rfl (by kernel_rfl) (by kernel_rfl) (by kernel_rfl) (fun _ _ _ h => h) (Or.inl ⟨by rfl, fun w hSw => by obtain ⟨hS1, hS2, hS3⟩ := hSw; go_simp⟩) (by assumption) ?_
 simp only [fGa, fGs, fGz, Act.put, fSa, fSz, fSs]
 refine wpAnyH_ready (rs := [17]) (by kernel_rfl) (by simp) (AllReadyH.cons rfl (fun K hK => ?_) AllReadyH.nil)
 refine step_call2C (by rfl) 81 gstep_enter6 (.tmp 33) (.tmp 46) _ rfl rfl rfl (unhide HK6 _ hx0) ?_
 rintro e w4 ⟨r, rfl, hU4, HLK4⟩
 refine ⟨_, rfl, ?_⟩
 refine hK.out _ _ (unhide HS6 _ hU4) (fun hJ1 => ?_)
 clear hK K
 simp only [fGa, fGs, fGz, Act.put, fSa, fSz, fSs]
 refine wpAnyH_done (by kernel_rfl) ?_ _
 obtain ⟨nq', pq', hL4, hA4⟩ := HLK4.out
 have HFW : Hid (∀ W, Below w4.heap.size w4 W → (W.rangeAt gA 0 [Value.int .i64 rd, .int .i64 wt, .int .i64 fl] ∧ W.cell? ⟨gy, 1, none⟩ = some (.pointer (some ⟨gq, 0, none⟩)) ∧ W.cell? ⟨gq, 39, none⟩ = some (.bool ob) ∧ W.cell? ⟨gq, 40, none⟩ = some (.int .i64 oe)) ∧ Calls Tryz.prog 28 #[.pointer (some ⟨gx, 0, none⟩), .agg [Value.int .i64 rd, .int .i64 wt, .int .i64 fl].toArray, .int .i64 1, .int .i64 0] W (fun e w' => e = .returned (.bool true) ∧ Below W.heap.size W w') ∧ Calls Tryz.prog 79 #[.pointer (some ⟨gy, 0, none⟩)] W (fun e w' => e = .returned (.bool true) ∧ Below W.heap.size W w')) := hide (fun W hW => HFIN.out _ _ _ _ _ _ (hL4.below hW) (hA4.below hW))
 have HL4 : Hid (∀ W, Below w4.heap.size w4 W → ∃ nv' bv' nq' pq', Lk w0 W p gl gm V D gy B pr up ug B2 gq hs fi le heap n R nv' bv' nq' pq' (j + 1)) := hide (fun W hW => ⟨_, _, _, _, hL4.below hW⟩)
 clear hL4 hA4 HLK4 HFIN HS6 HQ6 HK6 hx0 hq36 hHeld hJ1 hJ0 hU4
 go_wp2_with fail
 have hy0 : Below w4.heap.size w4 w4.drew := (Below.refl _ _).drew
 refine wp_region_held_drew (S := fun W => W.rangeAt gA 0 [Value.int .i64 rd, .int .i64 wt, .int .i64 fl] ∧ W.cell? ⟨gy, 1, none⟩ = some (.pointer (some ⟨gq, 0, none⟩)) ∧ W.cell? ⟨gq, 39, none⟩ = some (.bool ob) ∧ W.cell? ⟨gq, 40, none⟩ = some (.int .i64 oe)) (by kernel_rfl) ((unhide HFW _ hy0).1) (fun hHeld => ?_)
 refine wpAnyH_take (i := 0) (v := .pointer (some ⟨gx, 0, none⟩)) rfl (by kernel_rfl) (by kernel_rfl) (by kernel_rfl) (fun _ _ _ h => h) (Or.inl ⟨by rfl, fun w hSw => by obtain ⟨hS1, hS2, hS3, hS4⟩ := hSw; go_simp⟩) (by assumption) ?_
 simp only [fGa, fGz, Act.put, fSa, fSz, fSs]
 refine wpAnyH_take (i := 1) (v := .agg ([Value.int .i64 rd, .int .i64 wt, .int .i64 fl]).toArray) rfl (by kernel_rfl) (by kernel_rfl) (by kernel_rfl) (fun _ _ _ h => h) (yieldsIf_load_mid (by rfl) _ _ rfl _ _ rfl _ _ (fun w hSw => hSw.1) Tryz.underlying80 rfl hiA) (by assumption) ?_
 simp only [fGa, fGs, fGz, Act.put, fSa, fSz, fSs]
 refine wpAnyH_take (i := 2) (v := .int .i64 1) rfl (by kernel_rfl) (by kernel_rfl) (by kernel_rfl) (fun _ _ _ h => h) (Or.inl ⟨by rfl, fun w hSw => by obtain ⟨hS1, hS2, hS3, hS4⟩ := hSw; go_simp⟩) (by assumption) ?_
 simp only [fGa, fGs, fGz, Act.put, fSa, fSz, fSs]
 refine wpAnyH_ready (rs := [3]) (by kernel_rfl) (by simp) (AllReadyH.cons rfl (fun K hK => ?_) AllReadyH.nil)
 refine step_call4C (by rfl) 28 bacts_enter (.tmp 48) (.tmp 49) (.tmp 50) (.const (.int .i64 0)) _ rfl rfl rfl rfl rfl (unhide HFW _ hy0).2.1 ?_
 rintro e wa ⟨rfl, hba⟩
 have hy1 : Below w4.heap.size w4 wa := hy0.trans (hba.mono hy0.size)
 refine ⟨_, rfl, ?_⟩
 refine hK.out _ _ ((unhide HFW _ hy1).1) (fun hK1 => ?_)
 clear hK K
 simp only [fGa, fGs, fGz, Act.put, fSa, fSz, fSs]
 refine wpAnyH_take (i := 4) (v := .bool true) rfl (by kernel_rfl) (by kernel_rfl) (by kernel_rfl) (fun _ _ _ h => h) (Or.inl ⟨by rfl, fun w hSw => by obtain ⟨hS1, hS2, hS3, hS4⟩ := hSw; go_simp⟩) (by assumption) ?_
 simp only [fGa, fGs, fGz, Act.put, fSa, fSz, fSs]
 refine wpAnyH_take (i := 5) (v := .bool ob) rfl (by kernel_rfl) (by kernel_rfl) (by kernel_rfl) (fun _ _ _ h => h) (Or.inl ⟨by rfl, fun w hSw => by obtain ⟨hS1, hS2, hS3, hS4⟩ := hSw; go_simp⟩) (by assumption) ?_
 simp only [fGa, fGs, fGz, Act.put, fSa, fSz, fSs]
 refine wpAnyH_take (i := 6) (v := .pointer (some ⟨gy, 0, none⟩)) rfl (by kernel_rfl) (by kernel_rfl) (by kernel_rfl) (fun _ _ _ h => h) (Or.inl ⟨by rfl, fun w hSw => by obtain ⟨hS1, hS2, hS3, hS4⟩ := hSw; go_simp⟩) (by assumption) ?_
 simp only [fGa, fGs, fGz, Act.put, fSa, fSz, fSs]
 refine wpAnyH_take (i := 7) (v := .pointer (some ⟨gy, 0, none⟩)) rfl (by kernel_rfl) (by kernel_rfl) (by kernel_rfl) (fun _ _ _ h => h) (Or.inl ⟨by rfl, fun w hSw => by obtain ⟨hS1, hS2, hS3, hS4⟩ := hSw; go_simp⟩) (by assumption) ?_
 simp only [fGa, fGs, fGz, Act.put, fSa, fSz, fSs]
 refine wpAnyH_take (i := 8) (v := .pointer (some ⟨gy, 1, none⟩)) rfl (by kernel_rfl) (by kernel_rfl) (by kernel_rfl) (fun _ _ _ h => h) (Or.inl ⟨by rfl, fun w hSw => by obtain ⟨hS1, hS2, hS3, hS4⟩ := hSw; go_simp⟩) (by assumption) ?_
 simp only [fGa, fGs, fGz, Act.put, fSa, fSz, fSs]
 refine wpAnyH_take (i := 9) (v := .pointer (some ⟨gq, 0, none⟩)) rfl (by kernel_rfl) (by kernel_rfl) (by kernel_rfl) (fun _ _ _ h => h) (Or.inl ⟨by rfl, fun w hSw => by obtain ⟨hS1, hS2, hS3, hS4⟩ := hSw; go_simp⟩) (by assumption) ?_
 simp only [fGa, fGs, fGz, Act.put, fSa, fSz, fSs]
 refine wpAnyH_take (i := 10) (v := .pointer (some ⟨gq, 0, none⟩)) rfl (by kernel_rfl) (by kernel_rfl) (by kernel_rfl) (fun _ _ _ h => h) (Or.inl ⟨by rfl, fun w hSw => by obtain ⟨hS1, hS2, hS3, hS4⟩ := hSw; go_simp⟩) (by assumption) ?_
 simp only [fGa, fGs, fGz, Act.put, fSa, fSz, fSs]
 refine wpAnyH_take (i := 11) (v := .pointer (some ⟨gq, 39, none⟩)) rfl (by kernel_rfl) (by kernel_rfl) (by kernel_rfl) (fun _ _ _ h => h) (Or.inl ⟨by rfl, fun w hSw => by obtain ⟨hS1, hS2, hS3, hS4⟩ := hSw; go_simp⟩) (by assumption) ?_
 simp only [fGa, fGs, fGz, Act.put, fSa, fSz, fSs]
 refine wpAnyH_take (i := 12) (v := .bool ob) rfl (by kernel_rfl) (by kernel_rfl) (by kernel_rfl) (fun _ _ _ h => h) (Or.inl ⟨by rfl, fun w hSw => by obtain ⟨hS1, hS2, hS3, hS4⟩ := hSw; go_simp⟩) (by assumption) ?_
 simp only [fGa, fGs, fGz, Act.put, fSa, fSz, fSs]
 refine wpAnyH_take (i := 13) (v := .bool true) rfl (by kernel_rfl) (by kernel_rfl) (by kernel_rfl) (fun _ _ _ h => h) (Or.inl ⟨by rfl, fun w hSw => by obtain ⟨hS1, hS2, hS3, hS4⟩ := hSw; go_simp⟩) (by assumption) ?_
 simp only [fGa, fGs, fGz, Act.put, fSa, fSz, fSs]
 refine wpAnyH_take (i := 14) (v := .bool true) rfl (by kernel_rfl) (by kernel_rfl) (by kernel_rfl) (fun _ _ _ h => h) (Or.inl ⟨by rfl, fun w hSw => by obtain ⟨hS1, hS2, hS3, hS4⟩ := hSw; go_simp⟩) (by assumption) ?_
 simp only [fGa, fGs, fGz, Act.put, fSa, fSz, fSs]
 refine wpAnyH_take (i := 15) (v := .bool true) rfl (by kernel_rfl) (by kernel_rfl) (by kernel_rfl) (fun _ _ _ h => h) (Or.inl ⟨by rfl, fun w hSw => by obtain ⟨hS1, hS2, hS3, hS4⟩ := hSw; go_simp⟩) (by assumption) ?_
 simp only [fGa, fGs, fGz, Act.put, fSa, fSz, fSs]
 refine wpAnyH_take (i := 16) (v := .int .i64 oe) rfl (by kernel_rfl) (by kernel_rfl) (by kernel_rfl) (fun _ _ _ h => h) (Or.inl ⟨by rfl, fun w hSw => by obtain ⟨hS1, hS2, hS3, hS4⟩ := hSw; go_simp⟩) (by assumption) ?_
 simp only [fGa, fGs, fGz, Act.put, fSa, fSz, fSs]
 refine wpAnyH_take (i := 18) (v := .pointer (some ⟨gy, 0, none⟩)) rfl (by kernel_rfl) (by kernel_rfl) (by kernel_rfl) (fun _ _ _ h => h) (Or.inl ⟨by rfl, fun w hSw => by obtain ⟨hS1, hS2, hS3, hS4⟩ := hSw; go_simp⟩) (by assumption) ?_
 simp only [fGa, fGs, fGz, Act.put, fSa, fSz, fSs]
 refine wpAnyH_take (i := 19) (v := .pointer (some ⟨gy, 0, none⟩)) rfl (by kernel_rfl) (by kernel_rfl) (by kernel_rfl) (fun _ _ _ h => h) (Or.inl ⟨by rfl, fun w hSw => by obtain ⟨hS1, hS2, hS3, hS4⟩ := hSw; go_simp⟩) (by assumption) ?_
 simp only [fGa, fGs, fGz, Act.put, fSa, fSz, fSs]
 refine wpAnyH_take (i := 20) (v := .pointer (some ⟨gy, 1, none⟩)) rfl (by kernel_rfl) (by kernel_rfl) (by kernel_rfl) (fun _ _ _ h => h) (Or.inl ⟨by rfl, fun w hSw => by obtain ⟨hS1, hS2, hS3, hS4⟩ := hSw; go_simp⟩) (by assumption) ?_
 simp only [fGa, fGs, fGz, Act.put, fSa, fSz, fSs]
 refine wpAnyH_take (i := 21) (v := .pointer (some ⟨gq, 0, none⟩)) rfl (by kernel_rfl) (by kernel_rfl) (by kernel_rfl) (fun _ _ _ h => h) (Or.inl ⟨by rfl, fun w hSw => by obtain ⟨hS1, hS2, hS3, hS4⟩ := hSw; go_simp⟩) (by assumption) ?_
 simp only [fGa, fGs, fGz, Act.put, fSa, fSz, fSs]
 refine wpAnyH_take (i := 22) (v := .pointer (some ⟨gq, 0, none⟩)) rfl (by kernel_rfl) (by kernel_rfl) (by kernel_rfl) (fun _ _ _ h => h) (Or.inl ⟨by rfl, fun w hSw => by obtain ⟨hS1, hS2, hS3, hS4⟩ := hSw; go_simp⟩) (by assumption) ?_
 simp only [fGa, fGs, fGz, Act.put, fSa, fSz, fSs]
 refine wpAnyH_take (i := 23) (v := .pointer (some ⟨gq, 40, none⟩)) rfl (by kernel_rfl) (by kernel_rfl) (by kernel_rfl) (fun _ _ _ h => h) (Or.inl ⟨by rfl, fun w hSw => by obtain ⟨hS1, hS2, hS3, hS4⟩ := hSw; go_simp⟩) (by assumption) ?_
 simp only [fGa, fGs, fGz, Act.put, fSa, fSz, fSs]
 refine wpAnyH_take (i := 24) (v := .int .i64 oe) rfl (by kernel_rfl) (by kernel_rfl) (by kernel_rfl) (fun _ _ _ h => h) (Or.inl ⟨by rfl, fun w hSw => by obtain ⟨hS1, hS2, hS3, hS4⟩ := hSw; go_simp⟩) (by assumption) ?_
 simp only [fGa, fGs, fGz, Act.put, fSa, fSz, fSs]
 refine wpAnyH_ready (rs := [17]) (by kernel_rfl) (by simp) (AllReadyH.cons rfl (fun K hK => ?_) AllReadyH.nil)
 refine step_call1GC (by rfl) 19 num6_enter (.tmp 64) _ rfl rfl (num6_calls oe _) ?_
 rintro e wn ⟨rfl, hwn⟩
 obtain rfl := hwn.symm
 clear hwn
 refine ⟨_, rfl, ?_⟩
 refine hK.out _ _ ((unhide HFW _ hy1).1) (fun hK2 => ?_)
 clear hK K
 simp only [fGa, fGs, fGz, Act.put, fSa, fSz, fSs]
 refine wpAnyH_take (i := 25) (v := .bool true) rfl (by kernel_rfl) (by kernel_rfl) (by kernel_rfl) (fun _ _ _ h => h) (Or.inl ⟨by rfl, fun w hSw => by obtain ⟨hS1, hS2, hS3, hS4⟩ := hSw; go_simp⟩) (by assumption) ?_
 simp only [fGa, fGs, fGz, Act.put, fSa, fSz, fSs]
 refine wpAnyH_take (i := 26) (v := .bool true) rfl (by kernel_rfl) (by kernel_rfl) (by kernel_rfl) (fun _ _ _ h => h) (Or.inl ⟨by rfl, fun w hSw => by obtain ⟨hS1, hS2, hS3, hS4⟩ := hSw; go_simp⟩) (by assumption) ?_
 simp only [fGa, fGs, fGz, Act.put, fSa, fSz, fSs]
 refine wpAnyH_take (i := 27) (v := .bool true) rfl (by kernel_rfl) (by kernel_rfl) (by kernel_rfl) (fun _ _ _ h => h) (Or.inl ⟨by rfl, fun w hSw => by obtain ⟨hS1, hS2, hS3, hS4⟩ := hSw; go_simp⟩) (by assumption) ?_
 simp only [fGa, fGs, fGz, Act.put, fSa, fSz, fSs]
 refine wpAnyH_take (i := 28) (v := .pointer (some ⟨gy, 0, none⟩)) rfl (by kernel_rfl) (by kernel_rfl) (by kernel_rfl) (fun _ _ _ h => h) (Or.inl ⟨by rfl, fun w hSw => by obtain ⟨hS1, hS2, hS3, hS4⟩ := hSw; go_simp⟩) (by assumption) ?_
 simp only [fGa, fGs, fGz, Act.put, fSa, fSz, fSs]
 refine wpAnyH_ready (rs := [29]) (by kernel_rfl) (by simp) (AllReadyH.cons rfl (fun K hK => ?_) AllReadyH.nil)
 refine step_call1GC (by rfl) 79 eholds_enter (.tmp 76) _ rfl rfl (unhide HFW _ hy1).2.2 ?_
 rintro e wb ⟨rfl, hbb⟩
 have hy2 : Below w4.heap.size w4 wb := hy1.trans (hbb.mono hy1.size)
 refine ⟨_, rfl, ?_⟩
 refine hK.out _ _ ((unhide HFW _ hy2).1) (fun hK3 => ?_)
 clear hK K
 simp only [fGa, fGs, fGz, Act.put, fSa, fSz, fSs]
 refine wpAnyH_take (i := 30) (v := .bool true) rfl (by kernel_rfl) (by kernel_rfl) (by kernel_rfl) (fun _ _ _ h => h) (Or.inl ⟨by rfl, fun w hSw => by obtain ⟨hS1, hS2, hS3, hS4⟩ := hSw; go_simp⟩) (by assumption) ?_
 simp only [fGa, fGs, fGz, Act.put, fSa, fSz, fSs]
 refine wpAnyH_take (i := 31) (v := .bool true) rfl (by kernel_rfl) (by kernel_rfl) (by kernel_rfl) (fun _ _ _ h => h) (Or.inl ⟨by rfl, fun w hSw => by obtain ⟨hS1, hS2, hS3, hS4⟩ := hSw; go_simp⟩) (by assumption) ?_
 simp only [fGa, fGs, fGz, Act.put, fSa, fSz, fSs]
 refine wpAnyH_done (by kernel_rfl) ?_ _
 go_wp2
 go_ret
 exact ⟨rfl, unhide HL4 _ hy2⟩
end
end Go.Proofs.YtdalbalphagmfaaGreatDoor

namespace Go.Proofs.YtdalbalphagmfaaGreatDoor
open Go.RowKit Go.Maps

section
variable {w0 w : World} {gx ga ca n p gl gm g gr B0 gy B pr up ug B2 gq heap j : Nat} {us : List Value} {ims : List (List Int)} {V : Nat → Value} {D : AD} {hs : List Int} {fi le : Int} {S : RS} {nv bv nq pq : Value}
set_option maxRecDepth 100000 in
set_option maxHeartbeats 16000000 in
/-- A look behind the end. -/
theorem look_end (hC : Bc w0 gx ga ca n us ims p gl gm V D g gr B0) (hp : GB ≤ p) (h : Lk w0 w p gl gm V D gy B pr up ug B2 gq hs fi le heap n S nv bv nq pq j) (ho : outB le S = true) (hw0 : 0 ≤ D.wt) (hw1 : D.wt ≤ 1000000000) (hr0 : 0 ≤ D.rd) (hr1 : D.rd ≤ 1000000000) (hj5 : j ≤ 1000000) :
 Calls Tryz.prog 43 #[.pointer (some ⟨gx, 0, none⟩), .pointer (some ⟨gy, 0, none⟩)] w fun e w' => e = .returned (.bool true) ∧ Below w.heap.size w w' := by
 have hBc := hC.later hp h.u0 h.dk
 obtain ⟨rd, hrd⟩ : ∃ rd, (D.reads j).rd = rd := ⟨_, rfl⟩
 obtain ⟨wt, hwt⟩ : ∃ wt, (D.reads j).wt = wt := ⟨_, rfl⟩
 obtain ⟨fl, hfl⟩ : ∃ fl, (D.reads j).fl = fl := ⟨_, rfl⟩
 have hrd' : D.rd + (j : Int) = rd := hrd
 have hwt' : D.wt = wt := hwt
 have hblk := hBc.dk.blk
 rw [hrd, hwt, hfl] at hblk
 have HAC := hide (acts_calls (arr_cell hblk rfl) (arr_cell hblk rfl) (arr_cell hblk rfl))
 obtain ⟨oe, hoe⟩ : ∃ oe, outE S = oe := ⟨_, rfl⟩
 have HST : Hid (∀ W, Below w.heap.size w W → Calls Tryz.prog 80 #[.pointer (some ⟨pr, 0, none⟩)] W fun e w' => e = .returned (.tuple #[.bool true, .int .i64 oe]) ∧ Below W.heap.size W w') := hide (fun W hW => by
  have q := rstep_done (h.below hW).ey.rd ho
  rw [hoe] at q
  exact q)
 have HFIN : Hid (∀ W, Below w.heap.size w W → W.cell? ⟨gy, 0, none⟩ = some (.pointer (some ⟨pr, 0, none⟩)) ∧ W.cell? ⟨gy, 1, none⟩ = some (.pointer (some ⟨gq, 0, none⟩)) ∧ W.cell? ⟨gq, 39, none⟩ = some (.bool true) ∧ W.cell? ⟨gq, 40, none⟩ = some (.int .i64 oe) ∧ Calls Tryz.prog 28 #[.pointer (some ⟨gx, 0, none⟩), .agg [Value.int .i64 rd, .int .i64 wt, .int .i64 fl].toArray, .int .i64 0, .int .i64 0] W (fun e w' => e = .returned (.bool true) ∧ Below W.heap.size W w') ∧ Calls Tryz.prog 79 #[.pointer (some ⟨gy, 0, none⟩)] W (fun e w' => e = .returned (.bool true) ∧ Below W.heap.size W w')) := hide (fun W hW => by
  have a1 := h.below hW
  obtain ⟨_, _, q, _⟩ := a1.ey.gs.ex
  obtain ⟨_, _, _, _, _, c39, c40, _⟩ := q.cells
  rw [ho] at c39
  rw [hoe] at c40
  have hK := hblk.below hW
  exact ⟨arr_cell a1.ey.arr rfl, arr_cell a1.ey.arr rfl, c39, c40, bacts_calls (arr_cell (hBc.arr.below hW) rfl) (arr_cell hK rfl) (arr_cell hK rfl) (arr_cell hK rfl) (by rw [IntKind.wrap_i64]; omega) (by rw [IntKind.wrap_i64]; omega), eholds_calls a1.ey⟩)
 have hcx := arr_cell hBc.arr (j := 0) rfl
 have hboe : (oe == oe) = true := by simp
 clear hC hp h ho hw0 hw1 hr0 hr1 hj5 hBc hrd hwt hfl hrd' hwt' hblk hoe
 go_enter Tryz.func43, Tryz.ntmps43
 go_wp2_with fail
 refine (unhide HAC).mono ?_
 rintro e w1 ⟨rfl, hb1⟩
 obtain ⟨gA, hgA⟩ : ∃ gA, w1.heap.size = gA := ⟨_, rfl⟩
 have hA3 := Arr.new w1 [.int .i64 0, .int .i64 0, .int .i64 0] 80
 rw [hgA] at hA3
 have hiA : (Tryz.prog.info? 80).map (·.size) = some [Value.int .i64 rd, .int .i64 wt, .int .i64 fl].length := by kernel_rfl
 have h1A : ∀ u ∈ [Value.int .i64 rd, .int .i64 wt, .int .i64 fl], u.oneCell' = true := by simp [Value.oneCell']
 have HB2 : Hid (∀ w2, Wrote (w1.alloc (.cells #[.int .i64 0, .int .i64 0, .int .i64 0] 80)) w2 gA → Below w.heap.size w w2) := hide (fun w2 hW2 => hW2.below _ _ (hb1.alloc hb1.size _) (by rw [← hgA]; exact hb1.size))
 have HGA := hide hgA
 have HGS : Hid (w.heap.size ≤ gA) := hide (by rw [← hgA]; exact hb1.size)
 clear HAC hb1 hgA
 go_wp2_with (first
  | (refine wpList_storeArr2 (cs' := [Value.int .i64 rd, .int .i64 wt, .int .i64 fl]) rfl (.tmp 5) (.tmp 13) 80 rfl rfl rfl hA3 hiA rfl h1A ?_; intro w2 hAc2 hWr2
     have HAC2 := hide hAc2
     have HBB2 := hide (unhide HB2 w2 hWr2)
     have hyc := (unhide HFIN w2 HBB2.out).1
     clear hAc2 hWr2 hA3 HB2)
  | rw [HGA.out])
 have HST2 := hide (unhide HST w2 HBB2.out)
 clear HST hcx
 refine (unhide HST2).mono ?_
 rintro e w3 ⟨rfl, hb3⟩
 have hb03 : Below w.heap.size w w3 := HBB2.out.trans (hb3.mono HBB2.out.size)
 have hA4 := HAC2.out.below hb3
 obtain ⟨_, cy1, c39, _, _, _⟩ := unhide HFIN w3 hb03
 have HFW : Hid (∀ W, Below w3.heap.size w3 W → (W.rangeAt gA 0 [Value.int .i64 rd, .int .i64 wt, .int .i64 fl] ∧ W.cell? ⟨gy, 1, none⟩ = some (.pointer (some ⟨gq, 0, none⟩)) ∧ W.cell? ⟨gq, 39, none⟩ = some (.bool true) ∧ W.cell? ⟨gq, 40, none⟩ = some (.int .i64 oe)) ∧ Calls Tryz.prog 28 #[.pointer (some ⟨gx, 0, none⟩), .agg [Value.int .i64 rd, .int .i64 wt, .int .i64 fl].toArray, .int .i64 0, .int .i64 0] W (fun e w' => e = .returned (.bool true) ∧ Below W.heap.size W w') ∧ Calls Tryz.prog 79 #[.pointer (some ⟨gy, 0, none⟩)] W (fun e w' => e = .returned (.bool true) ∧ Below W.heap.size W w')) := hide (fun W hW => by
  obtain ⟨_, q1, q2, q3, q4, q5⟩ := unhide HFIN W (hb03.trans (hW.mono hb03.size))
  exact ⟨⟨arr_range (ds := []) (by rw [List.append_nil]; exact hA4.below hW), q1, q2, q3⟩, q4, q5⟩)
 have HB03 := hide hb03
 clear HST2 hyc HAC2 HBB2 HGS hb3 hb03 hA4 HFIN
 go_wp2_with fail
 clear cy1 c39
 have hy0 : Below w3.heap.size w3 w3.drew := (Below.refl _ _).drew
 refine wp_region_held_drew (S := fun W => W.rangeAt gA 0 [Value.int .i64 rd, .int .i64 wt, .int .i64 fl] ∧ W.cell? ⟨gy, 1, none⟩ = some (.pointer (some ⟨gq, 0, none⟩)) ∧ W.cell? ⟨gq, 39, none⟩ = some (.bool true) ∧ W.cell? ⟨gq, 40, none⟩ = some (.int .i64 oe)) (by kernel_rfl) ((unhide HFW _ hy0).1) (fun hHeld => ?_)
 refine wpAnyH_take (i := 0) (v := .pointer (some ⟨gx, 0, none⟩)) rfl (by kernel_rfl) (by kernel_rfl) (by kernel_rfl) (fun _ _ _ h => h) (Or.inl ⟨by rfl, fun w hSw => by obtain ⟨hS1, hS2, hS3, hS4⟩ := hSw; go_simp⟩) (by assumption) ?_
 simp only [fGa, fGz, Act.put, fSa, fSz, fSs]
 refine wpAnyH_take (i := 1) (v := .agg ([Value.int .i64 rd, .int .i64 wt, .int .i64 fl]).toArray) rfl (by kernel_rfl) (by kernel_rfl) (by kernel_rfl) (fun _ _ _ h => h) (yieldsIf_load_mid (by rfl) _ _ rfl _ _ rfl _ _ (fun w hSw => hSw.1) Tryz.underlying80 rfl hiA) (by assumption) ?_
 simp only [fGa, fGs, fGz, Act.put, fSa, fSz, fSs]
 refine wpAnyH_take (i := 2) (v := .int .i64 0) rfl (by kernel_rfl) (by kernel_rfl) (by kernel_rfl) (fun _ _ _ h => h) (Or.inl ⟨by rfl, fun w hSw => by obtain ⟨hS1, hS2, hS3, hS4⟩ := hSw; go_simp⟩) (by assumption) ?_
 simp only [fGa, fGs, fGz, Act.put, fSa, fSz, fSs]
 refine wpAnyH_ready (rs := [3]) (by kernel_rfl) (by simp) (AllReadyH.cons rfl (fun K hK => ?_) AllReadyH.nil)
 refine step_call4C (by rfl) 28 bacts_enter (.tmp 48) (.tmp 49) (.tmp 50) (.const (.int .i64 0)) _ rfl rfl rfl rfl rfl (unhide HFW _ hy0).2.1 ?_
 rintro e wa ⟨rfl, hba⟩
 have hy1 : Below w3.heap.size w3 wa := hy0.trans (hba.mono hy0.size)
 refine ⟨_, rfl, ?_⟩
 refine hK.out _ _ ((unhide HFW _ hy1).1) (fun hK1 => ?_)
 clear hK K
 simp only [fGa, fGs, fGz, Act.put, fSa, fSz, fSs]
 refine wpAnyH_take (i := 4) (v := .bool true) rfl (by kernel_rfl) (by kernel_rfl) (by kernel_rfl) (fun _ _ _ h => h) (Or.inl ⟨by rfl, fun w hSw => by obtain ⟨hS1, hS2, hS3, hS4⟩ := hSw; go_simp⟩) (by assumption) ?_
 simp only [fGa, fGs, fGz, Act.put, fSa, fSz, fSs]
 refine wpAnyH_take (i := 5) (v := .bool true) rfl (by kernel_rfl) (by kernel_rfl) (by kernel_rfl) (fun _ _ _ h => h) (Or.inl ⟨by rfl, fun w hSw => by obtain ⟨hS1, hS2, hS3, hS4⟩ := hSw; go_simp⟩) (by assumption) ?_
 simp only [fGa, fGs, fGz, Act.put, fSa, fSz, fSs]
 refine wpAnyH_take (i := 6) (v := .pointer (some ⟨gy, 0, none⟩)) rfl (by kernel_rfl) (by kernel_rfl) (by kernel_rfl) (fun _ _ _ h => h) (Or.inl ⟨by rfl, fun w hSw => by obtain ⟨hS1, hS2, hS3, hS4⟩ := hSw; go_simp⟩) (by assumption) ?_
 simp only [fGa, fGs, fGz, Act.put, fSa, fSz, fSs]
 refine wpAnyH_take (i := 7) (v := .pointer (some ⟨gy, 0, none⟩)) rfl (by kernel_rfl) (by kernel_rfl) (by kernel_rfl) (fun _ _ _ h => h) (Or.inl ⟨by rfl, fun w hSw => by obtain ⟨hS1, hS2, hS3, hS4⟩ := hSw; go_simp⟩) (by assumption) ?_
 simp only [fGa, fGs, fGz, Act.put, fSa, fSz, fSs]
 refine wpAnyH_take (i := 8) (v := .pointer (some ⟨gy, 1, none⟩)) rfl (by kernel_rfl) (by kernel_rfl) (by kernel_rfl) (fun _ _ _ h => h) (Or.inl ⟨by rfl, fun w hSw => by obtain ⟨hS1, hS2, hS3, hS4⟩ := hSw; go_simp⟩) (by assumption) ?_
 simp only [fGa, fGs, fGz, Act.put, fSa, fSz, fSs]
 refine wpAnyH_take (i := 9) (v := .pointer (some ⟨gq, 0, none⟩)) rfl (by kernel_rfl) (by kernel_rfl) (by kernel_rfl) (fun _ _ _ h => h) (Or.inl ⟨by rfl, fun w hSw => by obtain ⟨hS1, hS2, hS3, hS4⟩ := hSw; go_simp⟩) (by assumption) ?_
 simp only [fGa, fGs, fGz, Act.put, fSa, fSz, fSs]
 refine wpAnyH_take (i := 10) (v := .pointer (some ⟨gq, 0, none⟩)) rfl (by kernel_rfl) (by kernel_rfl) (by kernel_rfl) (fun _ _ _ h => h) (Or.inl ⟨by rfl, fun w hSw => by obtain ⟨hS1, hS2, hS3, hS4⟩ := hSw; go_simp⟩) (by assumption) ?_
 simp only [fGa, fGs, fGz, Act.put, fSa, fSz, fSs]
 refine wpAnyH_take (i := 11) (v := .pointer (some ⟨gq, 39, none⟩)) rfl (by kernel_rfl) (by kernel_rfl) (by kernel_rfl) (fun _ _ _ h => h) (Or.inl ⟨by rfl, fun w hSw => by obtain ⟨hS1, hS2, hS3, hS4⟩ := hSw; go_simp⟩) (by assumption) ?_
 simp only [fGa, fGs, fGz, Act.put, fSa, fSz, fSs]
 refine wpAnyH_take (i := 12) (v := .bool true) rfl (by kernel_rfl) (by kernel_rfl) (by kernel_rfl) (fun _ _ _ h => h) (Or.inl ⟨by rfl, fun w hSw => by obtain ⟨hS1, hS2, hS3, hS4⟩ := hSw; go_simp⟩) (by assumption) ?_
 simp only [fGa, fGs, fGz, Act.put, fSa, fSz, fSs]
 refine wpAnyH_take (i := 13) (v := .bool true) rfl (by kernel_rfl) (by kernel_rfl) (by kernel_rfl) (fun _ _ _ h => h) (Or.inl ⟨by rfl, fun w hSw => by obtain ⟨hS1, hS2, hS3, hS4⟩ := hSw; go_simp⟩) (by assumption) ?_
 simp only [fGa, fGs, fGz, Act.put, fSa, fSz, fSs]
 refine wpAnyH_take (i := 14) (v := .bool true) rfl (by kernel_rfl) (by kernel_rfl) (by kernel_rfl) (fun _ _ _ h => h) (Or.inl ⟨by rfl, fun w hSw => by obtain ⟨hS1, hS2, hS3, hS4⟩ := hSw; go_simp⟩) (by assumption) ?_
 simp only [fGa, fGs, fGz, Act.put, fSa, fSz, fSs]
 refine wpAnyH_take (i := 15) (v := .bool true) rfl (by kernel_rfl) (by kernel_rfl) (by kernel_rfl) (fun _ _ _ h => h) (Or.inl ⟨by rfl, fun w hSw => by obtain ⟨hS1, hS2, hS3, hS4⟩ := hSw; go_simp⟩) (by assumption) ?_
 simp only [fGa, fGs, fGz, Act.put, fSa, fSz, fSs]
 refine wpAnyH_take (i := 16) (v := .int .i64 oe) rfl (by kernel_rfl) (by kernel_rfl) (by kernel_rfl) (fun _ _ _ h => h) (Or.inl ⟨by rfl, fun w hSw => by obtain ⟨hS1, hS2, hS3, hS4⟩ := hSw; go_simp⟩) (by assumption) ?_
 simp only [fGa, fGs, fGz, Act.put, fSa, fSz, fSs]
 refine wpAnyH_take (i := 18) (v := .pointer (some ⟨gy, 0, none⟩)) rfl (by kernel_rfl) (by kernel_rfl) (by kernel_rfl) (fun _ _ _ h => h) (Or.inl ⟨by rfl, fun w hSw => by obtain ⟨hS1, hS2, hS3, hS4⟩ := hSw; go_simp⟩) (by assumption) ?_
 simp only [fGa, fGs, fGz, Act.put, fSa, fSz, fSs]
 refine wpAnyH_take (i := 19) (v := .pointer (some ⟨gy, 0, none⟩)) rfl (by kernel_rfl) (by kernel_rfl) (by kernel_rfl) (fun _ _ _ h => h) (Or.inl ⟨by rfl, fun w hSw => by obtain ⟨hS1, hS2, hS3, hS4⟩ := hSw; go_simp⟩) (by assumption) ?_
 simp only [fGa, fGs, fGz, Act.put, fSa, fSz, fSs]
 refine wpAnyH_take (i := 20) (v := .pointer (some ⟨gy, 1, none⟩)) rfl (by kernel_rfl) (by kernel_rfl) (by kernel_rfl) (fun _ _ _ h => h) (Or.inl ⟨by rfl, fun w hSw => by obtain ⟨hS1, hS2, hS3, hS4⟩ := hSw; go_simp⟩) (by assumption) ?_
 simp only [fGa, fGs, fGz, Act.put, fSa, fSz, fSs]
 refine wpAnyH_take (i := 21) (v := .pointer (some ⟨gq, 0, none⟩)) rfl (by kernel_rfl) (by kernel_rfl) (by kernel_rfl) (fun _ _ _ h => h) (Or.inl ⟨by rfl, fun w hSw => by obtain ⟨hS1, hS2, hS3, hS4⟩ := hSw; go_simp⟩) (by assumption) ?_
 simp only [fGa, fGs, fGz, Act.put, fSa, fSz, fSs]
 refine wpAnyH_take (i := 22) (v := .pointer (some ⟨gq, 0, none⟩)) rfl (by kernel_rfl) (by kernel_rfl) (by kernel_rfl) (fun _ _ _ h => h) (Or.inl ⟨by rfl, fun w hSw => by obtain ⟨hS1, hS2, hS3, hS4⟩ := hSw; go_simp⟩) (by assumption) ?_
 simp only [fGa, fGs, fGz, Act.put, fSa, fSz, fSs]
 refine wpAnyH_take (i := 23) (v := .pointer (some ⟨gq, 40, none⟩)) rfl (by kernel_rfl) (by kernel_rfl) (by kernel_rfl) (fun _ _ _ h => h) (Or.inl ⟨by rfl, fun w hSw => by obtain ⟨hS1, hS2, hS3, hS4⟩ := hSw; go_simp⟩) (by assumption) ?_
 simp only [fGa, fGs, fGz, Act.put, fSa, fSz, fSs]
 refine wpAnyH_take (i := 24) (v := .int .i64 oe) rfl (by kernel_rfl) (by kernel_rfl) (by kernel_rfl) (fun _ _ _ h => h) (Or.inl ⟨by rfl, fun w hSw => by obtain ⟨hS1, hS2, hS3, hS4⟩ := hSw; go_simp⟩) (by assumption) ?_
 simp only [fGa, fGs, fGz, Act.put, fSa, fSz, fSs]
 refine wpAnyH_ready (rs := [17]) (by kernel_rfl) (by simp) (AllReadyH.cons rfl (fun K hK => ?_) AllReadyH.nil)
 refine step_call1GC (by rfl) 19 num6_enter (.tmp 64) _ rfl rfl (num6_calls oe _) ?_
 rintro e wn ⟨rfl, hwn⟩
 obtain rfl := hwn.symm
 clear hwn
 refine ⟨_, rfl, ?_⟩
 refine hK.out _ _ ((unhide HFW _ hy1).1) (fun hK2 => ?_)
 clear hK K
 simp only [fGa, fGs, fGz, Act.put, fSa, fSz, fSs]
 refine wpAnyH_take (i := 25) (v := .bool true) rfl (by kernel_rfl) (by kernel_rfl) (by kernel_rfl) (fun _ _ _ h => h) (Or.inl ⟨by rfl, fun w hSw => by obtain ⟨hS1, hS2, hS3, hS4⟩ := hSw; go_simp⟩) (by assumption) ?_
 simp only [fGa, fGs, fGz, Act.put, fSa, fSz, fSs]
 refine wpAnyH_take (i := 26) (v := .bool true) rfl (by kernel_rfl) (by kernel_rfl) (by kernel_rfl) (fun _ _ _ h => h) (Or.inl ⟨by rfl, fun w hSw => by obtain ⟨hS1, hS2, hS3, hS4⟩ := hSw; go_simp⟩) (by assumption) ?_
 simp only [fGa, fGs, fGz, Act.put, fSa, fSz, fSs]
 refine wpAnyH_take (i := 27) (v := .bool true) rfl (by kernel_rfl) (by kernel_rfl) (by kernel_rfl) (fun _ _ _ h => h) (Or.inl ⟨by rfl, fun w hSw => by obtain ⟨hS1, hS2, hS3, hS4⟩ := hSw; go_simp⟩) (by assumption) ?_
 simp only [fGa, fGs, fGz, Act.put, fSa, fSz, fSs]
 refine wpAnyH_take (i := 28) (v := .pointer (some ⟨gy, 0, none⟩)) rfl (by kernel_rfl) (by kernel_rfl) (by kernel_rfl) (fun _ _ _ h => h) (Or.inl ⟨by rfl, fun w hSw => by obtain ⟨hS1, hS2, hS3, hS4⟩ := hSw; go_simp⟩) (by assumption) ?_
 simp only [fGa, fGs, fGz, Act.put, fSa, fSz, fSs]
 refine wpAnyH_ready (rs := [29]) (by kernel_rfl) (by simp) (AllReadyH.cons rfl (fun K hK => ?_) AllReadyH.nil)
 refine step_call1GC (by rfl) 79 eholds_enter (.tmp 76) _ rfl rfl (unhide HFW _ hy1).2.2 ?_
 rintro e wb ⟨rfl, hbb⟩
 have hy2 : Below w3.heap.size w3 wb := hy1.trans (hbb.mono hy1.size)
 refine ⟨_, rfl, ?_⟩
 refine hK.out _ _ ((unhide HFW _ hy2).1) (fun hK3 => ?_)
 clear hK K
 simp only [fGa, fGs, fGz, Act.put, fSa, fSz, fSs]
 refine wpAnyH_take (i := 30) (v := .bool true) rfl (by kernel_rfl) (by kernel_rfl) (by kernel_rfl) (fun _ _ _ h => h) (Or.inl ⟨by rfl, fun w hSw => by obtain ⟨hS1, hS2, hS3, hS4⟩ := hSw; go_simp⟩) (by assumption) ?_
 simp only [fGa, fGs, fGz, Act.put, fSa, fSz, fSs]
 refine wpAnyH_take (i := 31) (v := .bool true) rfl (by kernel_rfl) (by kernel_rfl) (by kernel_rfl) (fun _ _ _ h => h) (Or.inl ⟨by rfl, fun w hSw => by obtain ⟨hS1, hS2, hS3, hS4⟩ := hSw; go_simp⟩) (by assumption) ?_
 simp only [fGa, fGs, fGz, Act.put, fSa, fSz, fSs]
 refine wpAnyH_done (by kernel_rfl) ?_ _
 go_wp2
 go_ret
 exact ⟨rfl, HB03.out.trans (hy2.mono HB03.out.size)⟩
end
end Go.Proofs.YtdalbalphagmfaaGreatDoor
