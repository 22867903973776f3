/- chain: two writers and a reader of one disk, beside one another. Spaces, in words: what is free behind so many were taken. The program's words and the document's list beside one another: what claiming needs. Slices of ints that may be negative. -/
import Derived.Test.YtdafiobonhikiaaGreatDoorRL
import Derived.Test.YtdafiobonhikiaaGreatDoorSH
import Derived.Test.YtdafiobonhikiaaGreatDoorQW
import Derived.Test.YtdafiobonhikiaaGreatDoorQA
namespace Go.Proofs.YtdafiobonhikiaaGreatDoor
open Go.RowKit Go.Maps

theorem got_step1 {heap sd : Nat} {bs : List Int} {ks : List Nat} {b : List Int} (hb : bs.length ≤ 1048576) (hk : (ks.length : Int) = secN (bs.length : Int)) (hks : ∀ x ∈ ks, 1 ≤ x ∧ x < 65536 ∧ heap ≤ x ∧ x < sd) (hn : ks.Nodup) {fi : Int} {j : Nat} {S : RS} (hj : j < ks.length) (hN : b = sectK bs ks j) (h : Got heap sd bs ks j S) :
    Got heap sd bs ks (j + 1) (readS b (shaOf bs) fi (bs.length : Int) heap sd S) := by
  have h2 := got_step (N := fun i => if i = ks.getD j 0 then b else (putAll (zeroD 2) bs ks ks.length).now i) hb hk hks hn (fun t ht => ?_) (fi := fi) hj h
  · have e : (if S.nx = ks.getD j 0 then b else (putAll (zeroD 2) bs ks ks.length).now S.nx) = b := if_pos h.nx
    rw [← e]
    exact h2
  · show (if ks.getD t 0 = ks.getD j 0 then b else _) = _
    by_cases e : t = j
    · subst e; rw [if_pos rfl]; exact hN
    · rw [if_neg (fun h => e (getD_inj hn ht hj h))]
      exact putAll_in (zeroD 2) bs hn (Nat.le_refl _) ht
/-- A finished writer's Step. -/
theorem wstep_done {w : World} {p pw gn cn : Nat} {rv : Value} {bs : List Int} {ks : List Nat} (hW : Wr w p pw gn cn rv bs ks ks.length) :
    Calls Tryz.prog 39 #[.pointer (some ⟨pw, 0, none⟩)] w fun e w' => e = .returned (.tuple #[.bool true, .int .i64 0]) ∧ Below w.heap.size w w' := by
  obtain ⟨_, _, hV34, _, hV36, _⟩ := writerV_cells (p := p) (shaOf_len bs) ((ks.getD 0 0 : Nat) : Int) (bs.length : Int) (.slice (some ⟨gn, 0, none⟩) ks.length cn) (ks.length : Int) rv
  have HB := hide (behind_calls (arr_cell hW.arr hV36) (arr_cell hW.arr hV34))
  have e : ((ks.length : Int) == secN (bs.length : Int)) = true := by simp [hW.cnt]
  rw [e] at HB
  clear hW hV34 hV36 e
  go_enter Tryz.func39, Tryz.ntmps39
  go_wp2_with fail
  refine (unhide HB).mono ?_
  rintro e w1 ⟨rfl, hw1⟩
  have hb1 : Below w.heap.size w w1 := by rw [hw1]; exact (Below.refl _ _).drew
  clear hw1 HB
  go_wp2
  go_ret2
  exact ⟨rfl, hb1⟩
/-- What is told of two byte strings on unlike sectors. -/
structure KC (heap sd : Nat) (a b : List Int) (kv kw : List Nat) : Prop where
  av : ∀ x ∈ kv, 1 ≤ x ∧ x < 65536 ∧ heap ≤ x ∧ x < sd
  aw : ∀ x ∈ kw, 1 ≤ x ∧ x < 65536 ∧ heap ≤ x ∧ x < sd
  nv : kv.Nodup
  nw : kw.Nodup
  un : ∀ x ∈ kv, x ∉ kw
  top : heap < sd
/-- The disk behind jv of the first and jw of the second pieces, and jr Reads. -/
structure Dn (sd : Nat) (D : AD) (a b : List Int) (kv kw : List Nat) (jv jw jr : Nat) : Prop where
  la : D.la.length = sd
  wt : D.wt = (jv : Int) + (jw : Int)
  rd : D.rd = (jr : Int)
  wr : ∀ i, ((D.wr i).length : Int) ≤ D.wt
  av : ∀ t, t < jv → D.now (kv.getD t 0) = sectK a kv t
  aw : ∀ t, t < jw → D.now (kw.getD t 0) = sectK b kw t
theorem wr_write {D : AD} (h : ∀ i, ((D.wr i).length : Int) ≤ D.wt) (x : Nat) (s : List Int) : ∀ i, (((D.write x s).wr i).length : Int) ≤ (D.write x s).wt := fun i => by
  show ((updF D.wr x (D.wr x ++ [s]) i).length : Int) ≤ D.wt + 1
  have := h i
  by_cases e : i = x
  · subst e; rw [updF_same, List.length_append]; simp; omega
  · rw [updF_other _ _ e]; omega
theorem Dn.stepV {heap sd : Nat} {D : AD} {a b : List Int} {kv kw : List Nat} {jv jw jr : Nat} (h : Dn sd D a b kv kw jv jw jr) (hK : KC heap sd a b kv kw) (hj : jv < kv.length) (hw : jw ≤ kw.length) : Dn sd (D.write (kv.getD jv 0) (sectK a kv jv)) a b kv kw (jv + 1) jw jr := by
  refine ⟨h.la, by show D.wt + 1 = _; rw [h.wt]; omega, h.rd, wr_write h.wr _ _, fun t ht => ?_, fun t ht => ?_⟩
  · rw [write_now]
    by_cases e : t = jv
    · subst e; rw [if_pos rfl]
    · rw [if_neg (fun h2 => e (getD_inj hK.nv (by omega) hj h2))]
      exact h.av t (by omega)
  · rw [write_now, if_neg (fun h2 => hK.un _ (getD_mem hj) (by rw [← h2]; exact getD_mem (by omega)))]
    exact h.aw t ht
theorem Dn.stepW {heap sd : Nat} {D : AD} {a b : List Int} {kv kw : List Nat} {jv jw jr : Nat} (h : Dn sd D a b kv kw jv jw jr) (hK : KC heap sd a b kv kw) (hj : jw < kw.length) (hv : jv ≤ kv.length) : Dn sd (D.write (kw.getD jw 0) (sectK b kw jw)) a b kv kw jv (jw + 1) jr := by
  refine ⟨h.la, by show D.wt + 1 = _; rw [h.wt]; omega, h.rd, wr_write h.wr _ _, fun t ht => ?_, fun t ht => ?_⟩
  · rw [write_now, if_neg (fun h2 => hK.un _ (getD_mem (show t < kv.length by omega)) (by rw [h2]; exact getD_mem hj))]
    exact h.av t ht
  · rw [write_now]
    by_cases e : t = jw
    · subst e; rw [if_pos rfl]
    · rw [if_neg (fun h2 => e (getD_inj hK.nw (by omega) hj h2))]
      exact h.aw t (by omega)
theorem Dn.stepR {sd : Nat} {D : AD} {a b : List Int} {kv kw : List Nat} {jv jw jr : Nat} (h : Dn sd D a b kv kw jv jw jr) : Dn sd D.read a b kv kw jv jw (jr + 1) :=
  ⟨h.la, h.wt, by show D.rd + 1 = _; rw [h.rd]; omega, h.wr, h.av, h.aw⟩
/-- Two writers and a reader. -/
structure Tn (w W : World) (p gl gm : Nat) (V : Nat → Value) (D : AD) (heap sd : Nat) (a b : List Int) (kv kw : List Nat) (pv gv cv : Nat) (rv : Value) (jv : Nat) (pw gn cw : Nat) (rw_ : Value) (jw : Nat) (B pr up ug : Nat) (nv bv : Value) (jr : Nat) (S : RS) : Prop where
  dk : Dk W p gl gm V D
  dn : Dn sd D a b kv kw jv jw jr
  vv : Wr W p pv gv cv rv a kv jv
  ww : Wr W p pw gn cw rw_ b kw jw
  rr : Rd W B p pr up ug (shaOf a) ((kv.getD 0 0 : Nat) : Int) (a.length : Int) heap sd nv bv S
  got : Got heap sd a kv jr S
  x1 : ∀ x, Fw pv gv rv x → ¬ Ft p gl gm V x
  x2 : ∀ x, Fw pw gn rw_ x → ¬ Ft p gl gm V x
  x3 : ∀ x, Fr pr up ug nv bv x → ¬ Ft p gl gm V x
  x4 : ∀ x, Fw pv gv rv x → ¬ Fw pw gn rw_ x
  x5 : ∀ x, Fw pv gv rv x → ¬ Fr pr up ug nv bv x
  x6 : ∀ x, Fw pw gn rw_ x → ¬ Fr pr up ug nv bv x
  l1 : ∀ x, Ft p gl gm V x → w.heap.size ≤ x
  l2 : ∀ x, Fw pv gv rv x → w.heap.size ≤ x
  l3 : ∀ x, Fw pw gn rw_ x → w.heap.size ≤ x
  l4 : ∀ x, Fr pr up ug nv bv x → w.heap.size ≤ x
  hB : B ≤ W.heap.size
  tt : TT W
  bel : Below w.heap.size w W
section
variable {w W W' : World} {p gl gm : Nat} {V : Nat → Value} {D : AD} {heap sd : Nat} {a b : List Int} {kv kw : List Nat} {pv gv cv : Nat} {rv : Value} {jv : Nat} {pw gn cw : Nat} {rw_ : Value} {jw : Nat} {B pr up ug : Nat} {nv bv : Value} {jr : Nat} {S : RS}
theorem Tn.below (h : Tn w W p gl gm V D heap sd a b kv kw pv gv cv rv jv pw gn cw rw_ jw B pr up ug nv bv jr S) (hb : Below W.heap.size W W') : Tn w W' p gl gm V D heap sd a b kv kw pv gv cv rv jv pw gn cw rw_ jw B pr up ug nv bv jr S :=
  ⟨h.dk.below hb, h.dn, h.vv.up (F := fun _ => False) (Up.of_below hb) (fun _ _ h => h), h.ww.up (F := fun _ => False) (Up.of_below hb) (fun _ _ h => h), h.rr.below hb, h.got, h.x1, h.x2, h.x3, h.x4, h.x5, h.x6, h.l1, h.l2, h.l3, h.l4, Nat.le_trans h.hB hb.size, h.tt.below hb, below_then h.bel hb⟩
theorem Tn.gs (_h : Tn w W p gl gm V D heap sd a b kv kw pv gv cv rv jv pw gn cw rw_ jw B pr up ug nv bv jr S) (hT : TT w) {x : Nat} (hx : w.heap.size ≤ x) : GB ≤ x := Nat.le_trans hT.size hx
theorem Tn.stepV (h : Tn w W p gl gm V D heap sd a b kv kw pv gv cv rv jv pw gn cw rw_ jw B pr up ug nv bv jr S) (hK : KC heap sd a b kv kw) (hT : TT w) (hj : jv < kv.length) :
    Calls Tryz.prog 39 #[.pointer (some ⟨pv, 0, none⟩)] W fun e w' => ∃ u rv' V' D', e = .returned u ∧ Tn w w' p gl gm V' D' heap sd a b kv kw pv gv cv rv' (jv + 1) pw gn cw rw_ jw B pr up ug nv bv jr S := by
  have hk9 : kv.length ≤ 2185 ∧ kw.length ≤ 2185 := ⟨by have := secN_hi (a.length : Int); have := h.vv.cnt; omega, by have := secN_hi (b.length : Int); have := h.ww.cnt; omega⟩
  have hjw := h.ww.le
  have hwr := h.dn.wr (kv.getD jv 0)
  have hwt := h.dn.wt
  refine (wstep_calls h.dk h.vv h.x1 hj (fun x hx => by rw [h.dn.la]; exact (hK.av x hx).2.2.2) (by omega) (by omega) (by omega) h.tt.tab).mono ?_
  rintro e w' ⟨rv', V', rfl, h1, h2, h3, h4, h5⟩
  have hlt : ∀ x, Fw pv gv rv x → x < W.heap.size := fun x hx => h.vv.lt hx
  have hF : ∀ x, Fw pv gv rv' x → Fw pv gv rv x := fun x hx => hx.imp id (fun hx => hx.imp id (fun hx => h4 x hx))
  refine ⟨_, rv', V', _, rfl, h1, h.dn.stepV hK hj hjw, h2, h.ww.up h5 (fun x hx hf => ?_), h.rr.up h5 (fun x hx hf => ?_), h.got, fun x hx hf => ?_, fun x hx hf => ?_, fun x hx hf => ?_, fun x hx => h.x4 x (hF x hx), fun x hx => h.x5 x (hF x hx), h.x6, fun x hx => ?_, fun x hx => h.l2 x (hF x hx), h.l3, h.l4, Nat.le_trans h.hB h5.size, h.tt.up h5 (fun x hx => ?_), ?_⟩
  · rcases hf with hf | hf
    · exact h.x4 x (Or.inl hf) hx
    · exact h.x2 x hx hf
  · rcases hf with hf | hf
    · exact h.x5 x (Or.inl hf) hx
    · exact h.x3 x hx hf
  · rcases h3 x hf with hf | hf
    · exact h.x1 x (hF x hx) hf
    · have := hlt x (hF x hx); omega
  · rcases h3 x hf with hf | hf
    · exact h.x2 x hx hf
    · have := h.ww.lt hx; omega
  · rcases h3 x hf with hf | hf
    · exact h.x3 x hx hf
    · have := h.rr.lt hx; omega
  · rcases h3 x hx with hx | hx
    · exact h.l1 x hx
    · exact Nat.le_trans h.bel.size hx
  · rcases hx with hx | hx
    · exact h.gs hT (h.l2 x (Or.inl hx))
    · exact h.gs hT (h.l1 x hx)
  · exact h.bel.trans (h5.below h.bel.size (fun x hx => by
      rcases hx with hx | hx
      · exact h.l2 x (Or.inl hx)
      · exact h.l1 x hx))
theorem Tn.stepW (h : Tn w W p gl gm V D heap sd a b kv kw pv gv cv rv jv pw gn cw rw_ jw B pr up ug nv bv jr S) (hK : KC heap sd a b kv kw) (hT : TT w) (hj : jw < kw.length) :
    Calls Tryz.prog 39 #[.pointer (some ⟨pw, 0, none⟩)] W fun e w' => ∃ u rw' V' D', e = .returned u ∧ Tn w w' p gl gm V' D' heap sd a b kv kw pv gv cv rv jv pw gn cw rw' (jw + 1) B pr up ug nv bv jr S := by
  have hk9 : kv.length ≤ 2185 ∧ kw.length ≤ 2185 := ⟨by have := secN_hi (a.length : Int); have := h.vv.cnt; omega, by have := secN_hi (b.length : Int); have := h.ww.cnt; omega⟩
  have hjv := h.vv.le
  have hwr := h.dn.wr (kw.getD jw 0)
  have hwt := h.dn.wt
  refine (wstep_calls h.dk h.ww h.x2 hj (fun x hx => by rw [h.dn.la]; exact (hK.aw x hx).2.2.2) (by omega) (by omega) (by omega) h.tt.tab).mono ?_
  rintro e w' ⟨rv', V', rfl, h1, h2, h3, h4, h5⟩
  have hF : ∀ x, Fw pw gn rv' x → Fw pw gn rw_ x := fun x hx => hx.imp id (fun hx => hx.imp id (fun hx => h4 x hx))
  refine ⟨_, rv', V', _, rfl, h1, h.dn.stepW hK hj hjv, h.vv.up h5 (fun x hx hf => ?_), h2, h.rr.up h5 (fun x hx hf => ?_), h.got, fun x hx hf => ?_, fun x hx hf => ?_, fun x hx hf => ?_, fun x hx hy => h.x4 x hx (hF x hy), h.x5, fun x hx => h.x6 x (hF x hx), fun x hx => ?_, h.l2, fun x hx => h.l3 x (hF x hx), h.l4, Nat.le_trans h.hB h5.size, h.tt.up h5 (fun x hx => ?_), ?_⟩
  · rcases hf with hf | hf
    · exact h.x4 x hx (Or.inl hf)
    · exact h.x1 x hx hf
  · rcases hf with hf | hf
    · exact h.x6 x (Or.inl hf) hx
    · exact h.x3 x hx hf
  · rcases h3 x hf with hf | hf
    · exact h.x1 x hx hf
    · have := h.vv.lt hx; omega
  · rcases h3 x hf with hf | hf
    · exact h.x2 x (hF x hx) hf
    · have := h.ww.lt (hF x hx); omega
  · rcases h3 x hf with hf | hf
    · exact h.x3 x hx hf
    · have := h.rr.lt hx; omega
  · rcases h3 x hx with hx | hx
    · exact h.l1 x hx
    · exact Nat.le_trans h.bel.size hx
  · rcases hx with hx | hx
    · exact h.gs hT (h.l3 x (Or.inl hx))
    · exact h.gs hT (h.l1 x hx)
  · exact h.bel.trans (h5.below h.bel.size (fun x hx => by
      rcases hx with hx | hx
      · exact h.l3 x (Or.inl hx)
      · exact h.l1 x hx))
theorem Tn.env (h : Tn w W p gl gm V D heap sd a b kv kw pv gv cv rv jv pw gn cw rw_ jw B pr up ug nv bv jr S) (hT : TT w) : Env W p gl gm V pr up ug nv bv :=
  ⟨fun _ hx => h.dk.lt hx, fun _ hx => h.rr.lt hx, h.x3, fun x hx => h.gs hT (h.l1 x hx), fun x hx => h.gs hT (h.l4 x hx), h.tt.size⟩
theorem Tn.stepR (h : Tn w W p gl gm V D heap sd a b kv kw pv gv cv rv jv pw gn cw rw_ jw B pr up ug nv bv jr S) (hK : KC heap sd a b kv kw) (hT : TT w) (hj : jr < jv) :
    Calls Tryz.prog 80 #[.pointer (some ⟨pr, 0, none⟩)] W fun e w' => ∃ u nv' bv' D' S', e = .returned u ∧ Tn w w' p gl gm V D' heap sd a b kv kw pv gv cv rv jv pw gn cw rw_ jw B pr up ug nv' bv' (jr + 1) S' := by
  have hk9 : kv.length ≤ 2185 := by have := secN_hi (a.length : Int); have := h.vv.cnt; omega
  have hjv := h.vv.le
  have hrd := h.dn.rd
  have hns : S.ns.length = jr := by rw [h.got.ns, List.length_take]; omega
  have hnx : S.nx < sd := by rw [h.got.nx]; exact (hK.av _ (getD_mem (by omega))).2.2.2
  have hby : S.by_.length ≤ 2000000 := by rw [h.got.by_, List.length_take]; have := h.vv.len; omega
  have hG := got_step1 (b := D.now S.nx) h.vv.len h.vv.cnt hK.av hK.nv (fi := ((kv.getD 0 0 : Nat) : Int)) (j := jr) (by omega) (by rw [h.got.nx]; exact h.dn.av jr hj) h.got
  refine (rstep_read h.dk h.rr (h.env hT) (by rw [h.dn.la]; exact hnx) (by omega) (by omega) h.tt h.hB (by rw [hns]; have := h.vv.cnt; omega) hby h.got.br).mono ?_
  rintro e w' ⟨rfl, nv', bv', h1, h2, h3, h4⟩
  have hup : ∀ x, (x = p ∨ Fr pr up ug nv bv x) → w.heap.size ≤ x := fun x hx => by
    rcases hx with hx | hx
    · exact h.l1 x (Or.inl hx)
    · exact h.l4 x hx
  refine ⟨_, nv', bv', _, _, rfl, h2, h.dn.stepR, h.vv.up h4 (fun x hx hf => ?_), h.ww.up h4 (fun x hx hf => ?_), h1, hG, h.x1, h.x2, fun x hx hf => ?_, h.x4, fun x hx hy => ?_, fun x hx hy => ?_, h.l1, h.l2, h.l3, fun x hx => ?_, Nat.le_trans h.hB h4.size, h.tt.up h4 (fun x hx => h.gs hT (hup x hx)), h.bel.trans (h4.below h.bel.size hup)⟩
  · rcases hf with hf | hf
    · exact h.x1 x hx (Or.inl hf)
    · exact h.x5 x hx hf
  · rcases hf with hf | hf
    · exact h.x2 x hx (Or.inl hf)
    · exact h.x6 x hx hf
  · rcases h3 x hx with hx | hx
    · exact h.x3 x hx hf
    · have := h.dk.lt hf; omega
  · rcases h3 x hy with hy | hy
    · exact h.x5 x hx hy
    · have := h.vv.lt hx; omega
  · rcases h3 x hy with hy | hy
    · exact h.x6 x hx hy
    · have := h.ww.lt hx; omega
  · rcases h3 x hx with hx | hx
    · exact h.l4 x hx
    · exact Nat.le_trans h.bel.size hx
end
end Go.Proofs.YtdafiobonhikiaaGreatDoor

namespace Go.Proofs.YtdafiobonhikiaaGreatDoor
open Go.RowKit Go.Maps

theorem has_claim_self {fr to_ : Nat} {ws : List Nat} (hl : ws.length = (to_ - fr + 63) / 64) (n : Int) : hasB fr to_ (claimW fr to_ ws n) n = false := by
  by_cases hn : hasB fr to_ ws n = true
  · have hn' := hn
    unfold claimW
    rw [if_pos hn]
    unfold hasB at hn'
    simp only [Bool.and_eq_true, decide_eq_true_eq] at hn'
    unfold hasB
    rw [flip_bit (by omega), if_pos rfl, hn'.2]
    simp
  · unfold claimW
    rw [if_neg hn]
    simpa using hn
theorem has_claimAll {fr to_ : Nat} : ∀ (l : List Nat) {ws : List Nat}, ws.length = (to_ - fr + 63) / 64 → ∀ x : Int, hasB fr to_ (claimAll fr to_ ws l) x = (hasB fr to_ ws x && decide (∀ n ∈ l, (n : Int) ≠ x))
  | [], ws, _, x => by simp [claimAll]
  | n :: l, ws, hl, x => by
    have ih := has_claimAll l (ws := claimW fr to_ ws (n : Int)) (by rw [claimW_len]; exact hl) x
    show hasB fr to_ (claimAll fr to_ (claimW fr to_ ws (n : Int)) l) x = _
    rw [ih]
    by_cases e : x = (n : Int)
    · rw [e, has_claim_self hl]
      have : decide (∀ m ∈ n :: l, (m : Int) ≠ (n : Int)) = false := decide_eq_false (fun h => h n (by simp) rfl)
      rw [this]
      simp
    · rw [has_claim hl _ _ e]
      congr 1
      apply decide_eq_decide.2
      constructor
      · intro h m hm
        rcases List.mem_cons.1 hm with rfl | hm
        · exact fun h2 => e h2.symm
        · exact h m hm
      · exact fun h m hm => h m (List.mem_cons_of_mem _ hm)
theorem allF_nodup {w : World} {B g gw fr to_ : Nat} {ws : List Nat} (h : Sp w B g gw fr to_ ws) : (allF fr 0 ws).Nodup := by
  rw [h.all]
  unfold setB
  refine List.Pairwise.map _ (fun a b hab e => hab (by omega)) (List.Pairwise.filter _ List.nodup_range)
theorem filter_drop : ∀ {l : List Nat}, l.Nodup → ∀ k, l.filter (fun x => decide (x ∉ l.take k)) = l.drop k
  | [], _, k => by simp
  | x :: l, h, 0 => by simp
  | x :: l, h, k + 1 => by
    have hx : x ∉ l := (List.nodup_cons.1 h).1
    rw [List.take_succ_cons, List.drop_succ_cons, List.filter_cons, if_neg (by simp), ← filter_drop (List.nodup_cons.1 h).2 k]
    apply List.filter_congr
    intro y hy
    apply decide_eq_decide.2
    constructor
    · exact fun h2 h3 => h2 (List.mem_cons_of_mem _ h3)
    · intro h2 h3
      rcases List.mem_cons.1 h3 with rfl | h3
      · exact hx hy
      · exact h2 h3
theorem bit_has {fr to_ : Nat} (ws : List Nat) {i : Nat} (hi : i < to_ - fr) : bitAt ws i = hasB fr to_ ws ((fr + i : Nat) : Int) := by
  unfold hasB
  rw [decide_eq_true (by omega), show (((fr + i : Nat) : Int) - (fr : Int)).toNat = i by omega, Bool.true_and]
/-- What is free behind so many were taken. -/
theorem allF_taken {w w' : World} {B g gw fr to_ B' g' gw' : Nat} {ws : List Nat} {k : Nat} (h : Sp w B g gw fr to_ ws) (h' : Sp w' B' g' gw' fr to_ (claimAll fr to_ ws ((allF fr 0 ws).take k))) : allF fr 0 (claimAll fr to_ ws ((allF fr 0 ws).take k)) = (allF fr 0 ws).drop k := by
  rw [← filter_drop (allF_nodup h) k, h'.all]
  generalize hK : (allF fr 0 ws).take k = K at *
  rw [h.all, List.filter_map]
  congr 1
  unfold setB
  rw [List.filter_filter]
  apply List.filter_congr
  intro i hi
  have hi := List.mem_range.1 hi
  rw [bit_has _ hi, has_claimAll K h.len, bit_has ws hi, Bool.and_comm]
  congr 1
  simp only [Function.comp]
  apply decide_eq_decide.2
  constructor
  · exact fun h2 h3 => h2 _ h3 rfl
  · exact fun h2 n hn e => h2 (by have h9 : n = fr + i := (by omega); rw [← h9]; exact hn)
theorem allF_new {w : World} {B g gw fr to_ : Nat} (h : Sp w B g gw fr to_ (newW (to_ - fr))) : allF fr 0 (newW (to_ - fr)) = (List.range (to_ - fr)).map (fr + ·) := by
  rw [h.all]
  unfold setB
  congr 1
  rw [List.filter_eq_self]
  intro i hi
  have := h.rng
  rw [newW_bit (by omega)]
  exact decide_eq_true (List.mem_range.1 hi)
end Go.Proofs.YtdafiobonhikiaaGreatDoor

namespace Go.Proofs.YtdafiobonhikiaaGreatDoor
open Go.RowKit

/-- The list says of each number what the words say. -/
structure Tw (fr to_ : Nat) (ws : List Nat) (bs : List Bool) : Prop where
  len : bs.length = to_ - fr
  wide : to_ - fr ≤ 64 * ws.length
  at_ : ∀ i, i < to_ - fr → bs.getD i false = bitAt ws i
theorem Tw.has {fr to_ : Nat} {ws : List Nat} {bs : List Bool} (h : Tw fr to_ ws bs) (n : Int) : hasR fr to_ bs n = hasB fr to_ ws n := by
  unfold hasR hasB
  by_cases hn : (fr : Int) ≤ n ∧ n < (to_ : Int)
  · rw [h.at_ _ (by omega)]
  · rw [decide_eq_false hn]; rfl
theorem Tw.set {fr to_ : Nat} {ws : List Nat} {bs : List Bool} (h : Tw fr to_ ws bs) {a : Nat} (ha : a < to_ - fr) {b : Bool} (hb : bitAt ws a = !b) : Tw fr to_ (flip ws a) (bs.set a b) := by
  have hw := h.wide
  refine ⟨by rw [List.length_set]; exact h.len, by rw [flip_len]; exact hw, fun i hi => ?_⟩
  rw [flip_bit (by omega), List.getD_eq_getElem?_getD]
  by_cases hia : i = a
  · rw [if_pos hia, hia, List.getElem?_set_self (by rw [h.len]; exact ha), hb]
    simp
  · rw [if_neg hia, List.getElem?_set_ne (fun e => hia e.symm), ← List.getD_eq_getElem?_getD, h.at_ i hi]
theorem Tw.claim {fr to_ : Nat} {ws : List Nat} {bs : List Bool} (h : Tw fr to_ ws bs) (n : Int) : Tw fr to_ (claimW fr to_ ws n) (claimR fr to_ bs n) := by
  unfold claimW claimR
  rw [h.has n]
  by_cases hb : hasB fr to_ ws n = true
  · rw [if_pos hb, if_pos hb]
    unfold hasB at hb
    simp only [Bool.and_eq_true, decide_eq_true_eq] at hb
    exact h.set (by omega) (by rw [hb.2]; rfl)
  · rw [if_neg hb, if_neg hb]
    exact h
theorem Tw.new {fr to_ : Nat} (h : fr < to_) : Tw fr to_ (newW (to_ - fr)) (List.replicate (to_ - fr) true) := by
  refine ⟨by rw [List.length_replicate], by rw [newW_len (by omega)]; omega, fun i hi => ?_⟩
  rw [newW_bit (by omega), decide_eq_true hi, List.getD_eq_getElem?_getD, List.getElem?_replicate, if_pos hi]
  rfl
end Go.Proofs.YtdafiobonhikiaaGreatDoor

namespace Go.Proofs.YtdafiobonhikiaaGreatDoor

/-- The value is a slice of ints; in this world it reads the list. -/
structure IsT (w : World) (v : Value) (cs : List Int) : Prop where
  val : ∃ a cap, v = .slice a cs.length cap ∧ cs.length ≤ cap ∧ cap ≤ 9223372036854775807 ∧
    (0 < cs.length → ∃ b off, a = some ⟨b, off, none⟩ ∧ ∀ j, j < cs.length → w.cell? ⟨b, off + j, none⟩ = some (.int .i64 (cs.getD j 0)))
end Go.Proofs.YtdafiobonhikiaaGreatDoor
