/- ChainGreat: what stands behind Put. -/
import Derived.Test.YtdafiobonhikiaaDoorGtA
import Derived.Test.YtdafiobonhikiaaDoorGtP
import Derived.Test.YtdafiobonhikiaaDoorRfE
namespace Go.Proofs.YtdafiobonhikiaaDoor
open Go.RowKit Go.Maps

section
variable {ops : Array Oper} {rest : List Oper} {o : Oper} {a : Act} {Q : Exit → Act → World → Prop} {w : World}
set_option maxRecDepth 100000 in
/-- One int appended to a row of ints. -/
theorem wpList_appI6 (hgd : o.guard = none) (x y : Operand) (ho : o.op = .call { callee := .builtin .append, args := #[x, y], argTypes := #[33, 33] }) {B g : Nat} {v u : Value} {us : List Value} (hx : a.eval x = v) (hown : Row w B 3 v us) (hy : a.eval y = .slice (some ⟨g, 0, none⟩) 1 1)
    (hc : w.cell? ⟨g, 0, none⟩ = some u) (h1 : u.oneCell' = true) (hl : us.length ≤ 1000000) (hB : B ≤ w.heap.size)
    (hk : ∀ v' w', Row w' B 3 v' (us ++ [u]) → w.grownBy w' v.ownBlock → wpList Tryd.prog ops Q rest (a.put o.dst v') w') : wpList Tryd.prog ops Q (o :: rest) a w := by
  obtain ⟨i0, hi, hz0, hz1, hz2⟩ := info_parts infoI6
  refine wpList_plain hgd fun K hK => wp_append_own w x y 33 ho B 3 i0 _ 1 8 Tryd.underlying33 hi hz0 hz1 hz2 rfl (by decide) v us.length _ hx hown ⟨g, 0, none⟩ 1 1 [u] hy rfl (fun j z hu => ?_) (fun z hu => ?_) (by unfold maxLen; omega) (by omega) hB ?_
  · cases j with
    | zero =>
      injection hu with hu
      subst hu
      exact hc
    | succ j => simp at hu
  · rw [List.mem_singleton.1 hu]; exact h1
  · intro v' w' r1 r2 _
    refine hK _ _ (hk v' w' ?_ r2)
    unfold Row
    rw [List.length_append, List.length_singleton]
    exact r1
end
/-- The loop that names the sectors. -/
structure Gl (w W : World) (S p gl gm : Nat) (V : Nat → Value) (n m g gw F : Nat) (ap : Bool) (lv : Value) (i : Nat) : Prop where
  row : Row W S 3 lv (iV (grK F ap i))
  sp : Sp W m g gw F n (claimAll F n (newW (n - F)) (grC F ap i))
  dk : Dk W p gl gm V (zeroD n)
  tt : TT W
  bel : Below S w W
  sz : S ≤ W.heap.size
  lo : ∀ x, Ft p gl gm V x → S ≤ x ∧ x < m
  mg : m ≤ g ∧ S ≤ m ∧ GB ≤ S
section
variable {w W W1 W2 W3 : World} {S p gl gm n m g gw F i : Nat} {V : Nat → Value} {ap : Bool} {lv : Value}
/-- Blocks of ints from S on may change. -/
theorem Gl.upI {F' : Nat → Prop} (h : Gl w W S p gl gm V n m g gw F ap lv i) (hu : Up F' W W1) (hF : ∀ b, F' b → Ty W b 3 ∧ S ≤ b) :
    Sp W1 m g gw F n (claimAll F n (newW (n - F)) (grC F ap i)) ∧ Dk W1 p gl gm V (zeroD n) ∧ TT W1 ∧ Below S w W1 ∧ S ≤ W1.heap.size := by
  obtain ⟨⟨c1, m1, q1⟩, _, ⟨c2, m2, q2⟩⟩ := h.sp.cellsG
  refine ⟨h.sp.up hu (fun e => ?_) (fun e => ?_), h.dk.up hu (fun b hb e => ?_), h.tt.up hu (fun b e => Nat.le_trans h.mg.2.2 (hF b e).2), h.bel.trans (hu.below h.sz (fun b e => (hF b e).2)), Nat.le_trans h.sz hu.size⟩
  · exact absurd ((hF _ e).1.one ⟨c1, m1, q1⟩) (by decide)
  · exact absurd ((hF _ e).1.one ⟨c2, m2, q2⟩) (by decide)
  · rcases h.dk.ty hb (hF _ e).1 with e | e <;> exact absurd e (by decide)
theorem Gl.below (h : Gl w W S p gl gm V n m g gw F ap lv i) (hb : Below W.heap.size W W1) : Gl w W1 S p gl gm V n m g gw F ap lv i :=
  ⟨owns_up h.row (Up.of_below (F := fun _ => False) hb) (fun _ _ h => h), h.sp.below hb, h.dk.below hb, h.tt.below hb, h.bel.trans (hb.mono h.sz), Nat.le_trans h.sz hb.size, h.lo, h.mg⟩
theorem Gl.blk (h : Gl w W S p gl gm V n m g gw F ap lv i) {b : Nat} (hb : lv.ownBlock = some b) : Ty W b 3 ∧ S ≤ b := by
  obtain ⟨h1, c, m, h2⟩ := row_blk h.row hb
  exact ⟨⟨c, m, h2⟩, h1⟩
theorem iV_snoc (ks : List Nat) (y : Nat) : iV ks ++ [Value.int .i64 (y : Int)] = iV (ks ++ [y]) := by simp [iV]
theorem Gl.next0 {y : Nat} {v : Value} (h : Gl w W S p gl gm V n m g gw F false lv i) (hx : Sp W1 m g gw F n (claimAll F n (newW (n - F)) (grC F false i)) ∧ Dk W1 p gl gm V (zeroD n) ∧ TT W1 ∧ Below S w W1 ∧ S ≤ W1.heap.size) (hr : Row W1 S 3 v (iV (grK F false i) ++ [.int .i64 (y : Int)])) (hy : F + i = y) : Gl w W1 S p gl gm V n m g gw F false v (i + 1) := by
  obtain ⟨x1, x2, x3, x4, x5⟩ := hx
  refine ⟨?_, x1, x2, x3, x4, x5, h.lo, h.mg⟩
  rw [grK_succ]
  rw [iV_snoc] at hr
  subst hy
  exact hr
theorem Gl.next1 {y z k gL c : Nat} (h : Gl w W S p gl gm V n m g gw F true lv i) (hx : Sp W1 m g gw F n (claimAll F n (newW (n - F)) (grC F true i)) ∧ Dk W1 p gl gm V (zeroD n) ∧ TT W1 ∧ Below S w W1 ∧ S ≤ W1.heap.size) (hr : Row W1 S 3 (.slice (some ⟨gL, 0, none⟩) (i + 1) c) (iV (grK F true i) ++ [.int .i64 (y : Int)])) (hi : i < k) (hFk : F + 2 * k ≤ n) (hz : F + 2 * i = z) :
    W1.cell? ⟨gL, i, none⟩ = some (.int .i64 (y : Int)) ∧ W1.frozen? ⟨gL, i, none⟩ = false ∧ ∀ W2, W1.setCell ⟨gL, i, none⟩ (.int .i64 (z : Int)) = W2 → W2.cell? ⟨gL, i, none⟩ = some (.int .i64 (z : Int)) ∧ Calls Tryd.prog 17 #[.pointer (some ⟨g, 0, none⟩), .int .i64 ((z + 1 : Nat) : Int)] W2 (fun e w' => e = .returned (.bool true) ∧ Gl w w' S p gl gm V n m g gw F true (.slice (some ⟨gL, 0, none⟩) (i + 1) c) (i + 1)) := by
  obtain ⟨x1, x2, x3, x4, x5⟩ := hx
  have hl : (iV (grK F true i) ++ [Value.int .i64 (y : Int)]).length = i + 1 := by rw [List.length_append, iV_len, grK_len]; rfl
  have hat : (iV (grK F true i) ++ [Value.int .i64 (y : Int)])[i]? = some (.int .i64 (y : Int)) := by
    rw [List.getElem?_append_right (by rw [iV_len, grK_len]; omega), iV_len, grK_len, Nat.sub_self]; rfl
  refine ⟨by rw [hr.cellAt (by omega)]; exact hat, hr.frozenAt i, fun W2 hW2 => ?_⟩
  obtain ⟨hr2, hg2⟩ := hr.set i (.int .i64 (z : Int))
  rw [hW2] at hr2 hg2
  have hset : (iV (grK F true i) ++ [Value.int .i64 (y : Int)]).set i (.int .i64 (z : Int)) = iV (grK F true (i + 1)) := by
    rw [List.set_append_right _ _ (by rw [iV_len, grK_len]; omega), iV_len, grK_len, Nat.sub_self, List.set_cons_zero, iV_snoc, grK_succ, if_pos rfl, hz]
  rw [hset] at hr2
  obtain ⟨hS1, cl, ml, hcl⟩ := row_blk hr (g := gL) rfl
  have hu : Up (fun b => b = gL) W1 W2 := Up.of_grown hg2 (fun _ e => (Option.some.inj e).symm)
  obtain ⟨⟨c1, m1, q1⟩, q0, ⟨c2, m2, q2⟩⟩ := x1.cellsG
  have y1 := x1.up hu (fun e => blk_unlike q1 hcl (by decide) e) (fun e => blk_unlike q2 hcl (by decide) e)
  have y2 := x2.up hu (fun b hb e => by rcases x2.ty hb (t := 3) ⟨cl, ml, by rw [e]; exact hcl⟩ with e | e <;> exact absurd e (by decide))
  have hgb := h.mg.2.2
  have y3 := x3.up hu (fun b e => by omega)
  have y4 : Below S w W2 := x4.trans (hu.below x5 (fun b e => by omega))
  have y5 : S ≤ W2.heap.size := Nat.le_trans x5 hu.size
  have hfree : hasB F n (claimAll F n (newW (n - F)) (grC F true i)) ((z + 1 : Nat) : Int) = true := by
    have := grC_free (fr := F) (to_ := n) (k := i) (i := 2 * i + 1) (by omega) (by omega)
    rw [show F + (2 * i + 1) = z + 1 by omega] at this
    rw [this]
    refine decide_eq_true fun x hx => ?_
    unfold grC at hx
    rw [if_pos rfl] at hx
    obtain ⟨j, hj, rfl⟩ := List.mem_map.1 hx
    have := List.mem_range.1 hj
    omega
  refine ⟨?_, (claim_calls y1 ((z + 1 : Nat) : Int)).mono ?_⟩
  · rw [hr2.cellAt (by rw [iV_len, grK_len]; omega), iV_at (by rw [grK_len]; omega), grK_at F true (by omega), if_pos rfl, hz]
  · rintro e w' ⟨rfl, hs, hg⟩
    rw [hfree]
    have hu3 : Up (fun b => b = gw) W2 w' := Up.of_grown hg (fun _ e => (Option.some.inj e).symm)
    obtain ⟨⟨c3, m3, q3⟩, q30, ⟨c4, m4, q4⟩⟩ := y1.cellsG
    have e1 : claimW F n (claimAll F n (newW (n - F)) (grC F true i)) ((z + 1 : Nat) : Int) = claimAll F n (newW (n - F)) (grC F true (i + 1)) := by
      rw [grC_succ, claimAll_snoc, hz]
    rw [e1] at hs
    have hm1 := h.mg.1
    have hm2 := h.mg.2.1
    refine ⟨rfl, owns_up hr2 hu3 (fun b hb e => ?_), hs, y2.up hu3 (fun b hb e => ?_), y3.up hu3 (fun b e => by omega), y4.trans (hu3.below y5 (fun b e => by omega)), Nat.le_trans y5 hu3.size, h.lo, h.mg⟩
    · obtain ⟨_, c5, m5, q5⟩ := row_blk hr2 hb
      exact blk_unlike q5 q4 (by decide) e
    · have := (h.lo b hb).2; omega
end
/-- Between Lay and Put. -/
structure Gm (w W : World) (S p gl gm : Nat) (V : Nat → Value) (n m g gw F : Nat) (ap : Bool) (gL k lc BO gO co : Nat) (us : List Value) (rows : List (List Int)) (gT L : Nat) (TX : List Int) : Prop where
  gl : Gl w W S p gl gm V n m g gw F ap (.slice (some ⟨gL, 0, none⟩) k lc) k
  ig : Ig W BO (.slice (some ⟨gO, 0, none⟩) k co) us rows
  tx : IsB W (.slice (some ⟨gT, 0, none⟩) L L) TX
  tty : Ty W gT 5
theorem Gm.below {w W W1 : World} {S p gl gm n m g gw F gL k lc BO gO co gT L : Nat} {V : Nat → Value} {ap : Bool} {us : List Value} {rows : List (List Int)} {TX : List Int} (h : Gm w W S p gl gm V n m g gw F ap gL k lc BO gO co us rows gT L TX) (hb : Below W.heap.size W W1) : Gm w W1 S p gl gm V n m g gw F ap gL k lc BO gO co us rows gT L TX :=
  ⟨h.gl.below hb, h.ig.below hb, h.tx.below hb, h.tty.up (F := fun _ => False) (Up.of_below hb) (fun h => h)⟩
/-- Behind Put. -/
structure Gs (w W : World) (S p gl gm : Nat) (V : Nat → Value) (D : AD) (gL k : Nat) (ks : List Nat) (BO gO co : Nat) (us : List Value) (rows : List (List Int)) (gF : Nat) (rV : List Value) (gT L : Nat) (TX : List Int) (j : Nat) : Prop where
  dk : Dk W p gl gm V (D.reads j)
  lc : ∀ i, i < k → W.cell? ⟨gL, i, none⟩ = some (.int .i64 ((ks.getD i 0 : Nat) : Int))
  lty : Ty W gL 3
  ig : Ig W BO (.slice (some ⟨gO, 0, none⟩) k co) us rows
  rf : Arr W gF 26 rV
  tx : IsB W (.slice (some ⟨gT, 0, none⟩) L L) TX
  tty : Ty W gT 5
  tt : TT W
  bel : Below S w W
  lo : ∀ x, Ft p gl gm V x → GB ≤ x
  sp : S ≤ p
section
variable {w W W1 : World} {S p gl gm gL k BO gO co gF gT L j j' : Nat} {V : Nat → Value} {D : AD} {ks : List Nat} {us rV : List Value} {rows : List (List Int)} {TX : List Int}
theorem Gs.up (h : Gs w W S p gl gm V D gL k ks BO gO co us rows gF rV gT L TX j) (hu : Up (fun b => b = p) W W1) (hD : Dk W1 p gl gm V (D.reads j')) : Gs w W1 S p gl gm V D gL k ks BO gO co us rows gF rV gT L TX j' := by
  have hty := h.dk.blk.ty
  have hne : ∀ {b : Nat} {t : TypeId}, Ty W b t → t ≠ 75 → ¬ b = p := fun hb ht e => ht (hb.one (e ▸ hty))
  have hp := h.sp
  have hpl := hty.lt
  refine ⟨hD, fun i hi => hu.cell (h.lc i hi) (hne h.lty (by decide)), h.lty.up hu (hne h.lty (by decide)), h.ig.up hu (fun b hb => ?_) (fun b hb => hne hb (by decide)), h.rf.up hu (hne h.rf.ty (by decide)), h.tx.up hu (fun b hb => ?_), h.tty.up hu (hne h.tty (by decide)), h.tt.up hu (fun b e => by rw [e]; exact h.lo p (Or.inl rfl)), h.bel.trans (hu.below (by omega) (fun b e => by omega)), h.lo, h.sp⟩
  · obtain ⟨_, c, m, h2⟩ := row_blk h.ig.own hb
    exact hne ⟨c, m, h2⟩ (by decide)
  · cases hb
    exact hne h.tty (by decide)
theorem Gs.below (h : Gs w W S p gl gm V D gL k ks BO gO co us rows gF rV gT L TX j) (hb : Below W.heap.size W W1) : Gs w W1 S p gl gm V D gL k ks BO gO co us rows gF rV gT L TX j := h.up (Up.of_below hb) (h.dk.below hb)
end
section
variable {w W W1 W2 : World} {S p gl gm n m g gw F gL k lc BO gO co gF gT L : Nat} {V V' : Nat → Value} {ap : Bool} {us rV : List Value} {rows : List (List Int)} {TX : List Int}
theorem Gm.ne (h : Gm w W S p gl gm V n m g gw F ap gL k lc BO gO co us rows gT L TX) {b : Nat} {t : TypeId} (hb : Ty W b t) (h1 : t ≠ 78) (h2 : t ≠ 75) (h3 : t ≠ 94) : ¬ (b = gw ∨ Ft p gl gm V b) := fun e => by
  rcases e with e | e
  · obtain ⟨_, _, ⟨c, m, q⟩⟩ := h.gl.sp.cellsG
    exact h1 (hb.one (e ▸ ⟨c, m, q⟩))
  · rcases h.gl.dk.ty e hb with e | e
    · exact h2 e
    · exact h3 e
/-- What is put. -/
theorem Gm.put (h : Gm w W S p gl gm V n m g gw F ap gL k lc BO gO co us rows gT L TX) (hU : Up (fun b => b = gw ∨ Ft p gl gm V b) W W1) {D : AD} (hD : Dk W1 p gl gm V' D) (hF : ∀ b, Ft p gl gm V' b → Ft p gl gm V b ∨ W.heap.size ≤ b) (hb : Below W1.heap.size W1 W2) (hR : Arr W2 gF 26 rV) :
    Gs w W2 S p gl gm V' D gL k (grK F ap k) BO gO co us rows gF rV gT L TX 0 ∧ Row W2 S 3 (.slice (some ⟨gL, 0, none⟩) k lc) (iV (grK F ap k)) := by
  obtain ⟨_, cl, ml, hl⟩ := row_blk h.gl.row (g := gL) rfl
  have hlt : Ty W gL 3 := ⟨cl, ml, hl⟩
  have hrow1 : Row W1 S 3 (.slice (some ⟨gL, 0, none⟩) k lc) (iV (grK F ap k)) := owns_up h.gl.row hU (fun b hb => by cases hb; exact h.ne hlt (by decide) (by decide) (by decide))
  have hrow2 : Row W2 S 3 (.slice (some ⟨gL, 0, none⟩) k lc) (iV (grK F ap k)) := owns_up hrow1 (Up.of_below (F := fun _ => False) hb) (fun _ _ h => h)
  have hF0 : Up (fun _ => False) W1 W2 := Up.of_below hb
  have hgb := h.gl.mg.2.2
  have hm := h.gl.mg.2.1
  have hmg := h.gl.mg.1
  have hgw : m ≤ gw := h.gl.sp.row_lo.1
  have hsz := h.gl.sz
  have e0 : D.reads 0 = D := by simp [AD.reads]
  refine ⟨⟨by rw [e0]; exact hD.below hb, fun i hi => ?_, (hlt.up hU (h.ne hlt (by decide) (by decide) (by decide))).up hF0 (fun h => h), (h.ig.up hU (fun b hb => ?_) (fun b hb => h.ne hb (by decide) (by decide) (by decide))).below hb, hR, (h.tx.up hU (fun b hb => ?_)).below hb, (h.tty.up hU (h.ne h.tty (by decide) (by decide) (by decide))).up hF0 (fun h => h), (h.gl.tt.up hU (fun b e => ?_)).below hb, ?_, fun x hx => ?_, (h.gl.lo p (Or.inl rfl)).1⟩, hrow2⟩
  · rw [hrow2.cellAt (by rw [iV_len, grK_len]; exact hi)]
    exact iV_at (by rw [grK_len]; exact hi)
  · obtain ⟨_, c, m, h2⟩ := row_blk h.ig.own hb
    exact h.ne ⟨c, m, h2⟩ (by decide) (by decide) (by decide)
  · cases hb
    exact h.ne h.tty (by decide) (by decide) (by decide)
  · rcases e with e | e
    · omega
    · have := (h.gl.lo b e).1; omega
  · refine (h.gl.bel.trans (hU.below hsz (fun b e => ?_))).trans (hb.mono (by have := hU.size; omega))
    rcases e with e | e
    · omega
    · exact (h.gl.lo b e).1
  · rcases hF x hx with e | e
    · have := (h.gl.lo x e).1; omega
    · omega
end
end Go.Proofs.YtdafiobonhikiaaDoor
