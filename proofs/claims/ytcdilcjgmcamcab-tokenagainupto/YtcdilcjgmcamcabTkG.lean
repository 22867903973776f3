/- add, sign, end. -/
import Derived.Test.YtcdilcjgmcamcabTkF
namespace Go.Proofs.Ytcdilcjgmcamcab
open Go.RowKit Go.Maps

section
variable {ops : Array Oper} {o : Oper} {a : Act} {w : World} {K : Act → World → Prop} {Q : Exit → Act → World → Prop} {E : Prop}
theorem loadTk_run {W : World} {ad : Addr} {v : Value} (h : W.cell? ad = some v) : (Instr.loadAt 22 (.pointer (some ad))).run Try.prog W = .ok v W := by
  have hu := Try.underlying22
  go_simp
theorem step_loadTk (hgd : o.guard = none) (x : Operand) (ho : o.op = .load 22 x) {ad : Addr} {v : Value} (hx : a.eval x = .pointer (some ad)) (hc : w.cell? ad = some v) (hk : K (a.put o.dst v) w) : if Region.wanted o (yielded ops a.tmps) = true then Oper.wp Try.prog o a w K Q else E := by
  rw [if_pos (by simp [Region.wanted, hgd])]
  unfold Oper.wp execOp
  simp only [ho, hx, Sem.run_bind, loadTk_run hc, Result.andThen_ok, Sem.run_pure]
  exact hk
theorem storeTk_run {W : World} {ad : Addr} {v u : Value} {aa : Option Addr} {n c : Nat} (hv : v = .slice aa n c) (h : W.cell? ad = some u) (hf : W.frozen? ad = false) : (Instr.storeAt 22 (.pointer (some ad)) v).run Try.prog W = .ok () (W.setCell ad v) := by
  subst hv
  obtain ⟨b, o, s⟩ := ad
  have hs : s = none := by
    cases s with
    | none => rfl
    | some x => simp [World.cell?] at h; split at h <;> simp at h
  subst hs
  go_simp
theorem step_storeTk (hgd : o.guard = none) (x y : Operand) (ho : o.op = .store 22 x y) {ad : Addr} {v u : Value} {aa : Option Addr} {n c : Nat} (hx : a.eval x = .pointer (some ad)) (hy : a.eval y = v) (hv : v = .slice aa n c) (hc : w.cell? ad = some u) (hf : w.frozen? ad = false) (hk : K (a.put o.dst undef) (w.setCell ad v)) : if Region.wanted o (yielded ops a.tmps) = true then Oper.wp Try.prog o a w K Q else E := by
  rw [if_pos (by simp [Region.wanted, hgd])]
  unfold Oper.wp execOp
  simp only [ho, hx, hy, Sem.run_bind, storeTk_run hv hc hf, Result.andThen_ok, Sem.run_pure]
  exact hk
theorem step_buildTk (hgd : o.guard = none) (x : Operand) (ho : o.op = .buildSlice 22 1 #[(0, x)]) {k n p : Int} {t : ByteArray} (hx : a.eval x = .agg #[.int .i64 k, .string t, .int .i64 n, .int .i64 p])
    (hk : K (a.put o.dst (.slice (some ⟨w.heap.size, 0, none⟩) 1 1)) (w.alloc (.cells [.int .i64 k, .string t, .int .i64 n, .int .i64 p].toArray 26))) : if Region.wanted o (yielded ops a.tmps) = true then Oper.wp Try.prog o a w K Q else E := by
  rw [if_pos (by simp [Region.wanted, hgd])]
  have hrun : ∀ W, (Instr.buildSlice 22 1 #[(0, .agg #[.int .i64 k, .string t, .int .i64 n, .int .i64 p])]).run Try.prog W = .ok (.slice (some ⟨W.heap.size, 0, none⟩) 1 1) (W.alloc (.cells [.int .i64 k, .string t, .int .i64 n, .int .i64 p].toArray 26)) := fun W => by kernel_rfl
  unfold Oper.wp execOp
  simp only [ho, List.map_toArray, List.map_cons, List.map_nil, hx, Sem.run_bind, hrun, Result.andThen_ok, Sem.run_pure]
  exact hk
end
section
variable {w0 w w' : World} {g : Nat} {s : ByteArray} {a st bh ln : Nat} {out : List Tok} {wr : Int} {v : Value}
/-- Behind an append of tokens that is stored. -/
theorem Rd.pushed {w1 w2 : World} {v2 : Value} {t : Tok} (h : Rd w0 w1 g s a st bh ln out wr v) (hr : OwnT w2 w0.heap.size v2 (out ++ [t])) (hg : w1.grownBy w2 v.ownBlock) (hv : v.ownBlock = none ∨ ∃ b, v.ownBlock = some b ∧ w0.heap.size ≤ b) :
    (w2.cell? ⟨g, 5, none⟩ = some v ∧ w2.frozen? ⟨g, 5, none⟩ = false ∧ w2.cell? ⟨g, 2, none⟩ = some (.int .i64 (st : Int)) ∧ w2.cell? ⟨g, 4, none⟩ = some (.int .i64 (ln : Int))) ∧ Rd w0 (w2.setCell ⟨g, 5, none⟩ v2) g s a st bh ln (out ++ [t]) wr v2 ∧ (w2.setCell ⟨g, 5, none⟩ v2).cell? ⟨g, 2, none⟩ = some (.int .i64 (st : Int)) ∧ (w2.setCell ⟨g, 5, none⟩ v2).cell? ⟨g, 4, none⟩ = some (.int .i64 (ln : Int)) := by
  have hne := h.own.block h.arr (by decide)
  have harr : Arr w2 g 63 (rdC s a st bh ln v wr) := h.arr.keep (hg.block g h.arr.lt (by
    rcases hne with e | e
    · rw [e]; simp
    · exact fun e2 => e e2.symm))
  have hb2 : Below w0.heap.size w0 w2 := below_app h.below hg h.below.size hv
  have h2 : Rd w0 (w2.setCell ⟨g, 5, none⟩ v2) g s a st bh ln (out ++ [t]) wr v2 := ⟨harr.set 5 v2, hr.kept (grown_set w2 g 5 v2) (hr.block harr (by decide)), h.hg, hb2.setCell (p := ⟨g, 5, none⟩) h.hg v2⟩
  exact ⟨⟨harr.cell 5, harr.frozen 5, harr.cell 2, harr.cell 4⟩, h2, h2.cells.2.2.1, h2.cells.2.2.2.2.1⟩
set_option maxRecDepth 100000 in
set_option maxHeartbeats 4000000 in
theorem add_calls (h : Rd w0 w g s a st bh ln out wr v) (k : Int) (t : ByteArray) (fr : Nat) (hfr : st ≤ fr) (hs : fr ≤ 1000000) (ho : out.length ≤ 1000000) : Calls Try.prog 53 #[.pointer (some ⟨g, 0, none⟩), .int .i64 k, .string t, .int .i64 (fr : Int)] w fun e w' => e = .returned (.tuple #[]) ∧ ∃ v', Rd w0 w' g s a st a ln (out ++ [⟨k, t, ln, ((fr - st : Nat) : Int)⟩]) wr v' := by
  obtain ⟨va, vc, rfl⟩ := h.own.shape
  have HLN : Hid (out.length + [Tok.mk k t ln ((fr - st : Nat) : Int)].length ≤ 1000000000000) := by show _ ≤ _; simp; omega
  generalize hon : out.length = on at *
  have HON := hide hon
  have hsz := h.below.size
  have h := h.keep (w' := w.drew) ((Below.refl _ _).drew)
  have hwr : IntKind.i64.wrap ((fr : Int) - (st : Int)) = (fr : Int) - (st : Int) := by rw [IntKind.wrap_i64]; omega
  have c2 := h.cells.2.2.1
  have c4 := h.cells.2.2.2.2.1
  have c5 := h.cells.2.2.2.2.2.1
  have hbn := (Below.refl w.drew.heap.size w.drew).alloc (Nat.le_refl _) (.cells [.int .i64 k, .string t, .int .i64 (ln : Int), .int .i64 ((fr : Int) - (st : Int))].toArray 26)
  have h1 := h.keep hbn
  have d2 := h1.cells.2.2.1
  have d4 := h1.cells.2.2.2.2.1
  have d5 := h1.cells.2.2.2.2.2.1
  have hpl : ((fr - st : Nat) : Int) = (fr : Int) - (st : Int) := by omega
  have hnew := tok_new w.drew ⟨k, t, ln, ((fr - st : Nat) : Int)⟩
  unfold tkC at hnew
  rw [hpl] at hnew HLN
  have HNEW := hide hnew
  have HPU := hide (fun (w2 : World) (v2 : Value) (hr : OwnT w2 w0.heap.size v2 (out ++ [⟨k, t, ln, ((fr : Int) - (st : Int))⟩])) (hg : (w.drew.alloc (.cells [.int .i64 k, .string t, .int .i64 (ln : Int), .int .i64 ((fr : Int) - (st : Int))].toArray 26)).grownBy w2 (Value.slice va on vc).ownBlock) hv => h1.pushed hr hg hv)
  have HOW := hide h1.own
  have HSZ := hide h1.below.size
  have HPL := hide hpl
  clear h h1 hbn hnew hpl hsz hon ho
  go_enter Try.func53, Try.ntmps53
  go_wp2_with fail
  refine wp_region_held_drew (S := fun W => W.cell? ⟨g, 2, none⟩ = some (.int .i64 (st : Int)) ∧ W.cell? ⟨g, 4, none⟩ = some (.int .i64 (ln : Int))) (by kernel_rfl) (⟨c2, c4⟩) (fun hHeld => ?_)
  refine wpAnyH_take (i := 0) (v := .pointer (some ⟨g, 0, none⟩)) rfl (by kernel_rfl) (by kernel_rfl) (by kernel_rfl) (fun _ _ _ h => h) (Or.inl ⟨by rfl, fun w hSw => by obtain ⟨e2, e4⟩ := hSw; go_simp⟩) (by assumption) ?_
  simp only [List.getElem_toArray, List.getElem_cons_zero, Act.put, List.setIfInBounds_toArray, List.set_cons_zero, List.set_cons_succ]
  refine wpAnyH_take (i := 1) (v := .pointer (some ⟨g, 0, none⟩)) rfl (by kernel_rfl) (by kernel_rfl) (by kernel_rfl) (fun _ _ _ h => h) (Or.inl ⟨by rfl, fun w hSw => by obtain ⟨e2, e4⟩ := hSw; go_simp⟩) (by assumption) ?_
  simp only [List.getElem_toArray, List.getElem_cons_succ, List.getElem_cons_zero, Act.put, List.setIfInBounds_toArray, List.set_cons_zero, List.set_cons_succ]
  refine wpAnyH_take (i := 2) (v := .pointer (some ⟨g, 0, none⟩)) rfl (by kernel_rfl) (by kernel_rfl) (by kernel_rfl) (fun _ _ _ h => h) (Or.inl ⟨by rfl, fun w hSw => by obtain ⟨e2, e4⟩ := hSw; go_simp⟩) (by assumption) ?_
  simp only [List.getElem_toArray, List.getElem_cons_succ, List.getElem_cons_zero, Act.put, List.setIfInBounds_toArray, List.set_cons_zero, List.set_cons_succ]
  refine wpAnyH_take (i := 3) (v := .pointer (some ⟨g, 5, none⟩)) rfl (by kernel_rfl) (by kernel_rfl) (by kernel_rfl) (fun _ _ _ h => h) (Or.inl ⟨by rfl, fun w hSw => by obtain ⟨e2, e4⟩ := hSw; go_simp⟩) (by assumption) ?_
  simp only [List.getElem_toArray, List.getElem_cons_succ, List.getElem_cons_zero, Act.put, List.setIfInBounds_toArray, List.set_cons_zero, List.set_cons_succ]
  refine wpAnyH_take (i := 5) (v := .int .i64 k) rfl (by kernel_rfl) (by kernel_rfl) (by kernel_rfl) (fun _ _ _ h => h) (Or.inl ⟨by rfl, fun w hSw => by obtain ⟨e2, e4⟩ := hSw; go_simp⟩) (by assumption) ?_
  simp only [List.getElem_toArray, List.getElem_cons_succ, List.getElem_cons_zero, Act.put, List.setIfInBounds_toArray, List.set_cons_zero, List.set_cons_succ]
  refine wpAnyH_take (i := 6) (v := .string t) rfl (by kernel_rfl) (by kernel_rfl) (by kernel_rfl) (fun _ _ _ h => h) (Or.inl ⟨by rfl, fun w hSw => by obtain ⟨e2, e4⟩ := hSw; go_simp⟩) (by assumption) ?_
  simp only [List.getElem_toArray, List.getElem_cons_succ, List.getElem_cons_zero, Act.put, List.setIfInBounds_toArray, List.set_cons_zero, List.set_cons_succ]
  refine wpAnyH_take (i := 7) (v := .pointer (some ⟨g, 0, none⟩)) rfl (by kernel_rfl) (by kernel_rfl) (by kernel_rfl) (fun _ _ _ h => h) (Or.inl ⟨by rfl, fun w hSw => by obtain ⟨e2, e4⟩ := hSw; go_simp⟩) (by assumption) ?_
  simp only [List.getElem_toArray, List.getElem_cons_succ, List.getElem_cons_zero, Act.put, List.setIfInBounds_toArray, List.set_cons_zero, List.set_cons_succ]
  refine wpAnyH_take (i := 8) (v := .pointer (some ⟨g, 0, none⟩)) rfl (by kernel_rfl) (by kernel_rfl) (by kernel_rfl) (fun _ _ _ h => h) (Or.inl ⟨by rfl, fun w hSw => by obtain ⟨e2, e4⟩ := hSw; go_simp⟩) (by assumption) ?_
  simp only [List.getElem_toArray, List.getElem_cons_succ, List.getElem_cons_zero, Act.put, List.setIfInBounds_toArray, List.set_cons_zero, List.set_cons_succ]
  refine wpAnyH_take (i := 9) (v := .pointer (some ⟨g, 4, none⟩)) rfl (by kernel_rfl) (by kernel_rfl) (by kernel_rfl) (fun _ _ _ h => h) (Or.inl ⟨by rfl, fun w hSw => by obtain ⟨e2, e4⟩ := hSw; go_simp⟩) (by assumption) ?_
  simp only [List.getElem_toArray, List.getElem_cons_succ, List.getElem_cons_zero, Act.put, List.setIfInBounds_toArray, List.set_cons_zero, List.set_cons_succ]
  refine wpAnyH_take (i := 10) (v := .int .i64 (ln : Int)) rfl (by kernel_rfl) (by kernel_rfl) (by kernel_rfl) (fun _ _ _ h => h) (Or.inl ⟨by rfl, fun w hSw => by obtain ⟨e2, e4⟩ := hSw; go_simp⟩) (by assumption) ?_
  simp only [List.getElem_toArray, List.getElem_cons_succ, List.getElem_cons_zero, Act.put, List.setIfInBounds_toArray, List.set_cons_zero, List.set_cons_succ]
  refine wpAnyH_take (i := 11) (v := .int .i64 (fr : Int)) rfl (by kernel_rfl) (by kernel_rfl) (by kernel_rfl) (fun _ _ _ h => h) (Or.inl ⟨by rfl, fun w hSw => by obtain ⟨e2, e4⟩ := hSw; go_simp⟩) (by assumption) ?_
  simp only [List.getElem_toArray, List.getElem_cons_succ, List.getElem_cons_zero, Act.put, List.setIfInBounds_toArray, List.set_cons_zero, List.set_cons_succ]
  refine wpAnyH_take (i := 12) (v := .pointer (some ⟨g, 0, none⟩)) rfl (by kernel_rfl) (by kernel_rfl) (by kernel_rfl) (fun _ _ _ h => h) (Or.inl ⟨by rfl, fun w hSw => by obtain ⟨e2, e4⟩ := hSw; go_simp⟩) (by assumption) ?_
  simp only [List.getElem_toArray, List.getElem_cons_succ, List.getElem_cons_zero, Act.put, List.setIfInBounds_toArray, List.set_cons_zero, List.set_cons_succ]
  refine wpAnyH_take (i := 13) (v := .pointer (some ⟨g, 0, none⟩)) rfl (by kernel_rfl) (by kernel_rfl) (by kernel_rfl) (fun _ _ _ h => h) (Or.inl ⟨by rfl, fun w hSw => by obtain ⟨e2, e4⟩ := hSw; go_simp⟩) (by assumption) ?_
  simp only [List.getElem_toArray, List.getElem_cons_succ, List.getElem_cons_zero, Act.put, List.setIfInBounds_toArray, List.set_cons_zero, List.set_cons_succ]
  refine wpAnyH_take (i := 14) (v := .pointer (some ⟨g, 2, none⟩)) rfl (by kernel_rfl) (by kernel_rfl) (by kernel_rfl) (fun _ _ _ h => h) (Or.inl ⟨by rfl, fun w hSw => by obtain ⟨e2, e4⟩ := hSw; go_simp⟩) (by assumption) ?_
  simp only [List.getElem_toArray, List.getElem_cons_succ, List.getElem_cons_zero, Act.put, List.setIfInBounds_toArray, List.set_cons_zero, List.set_cons_succ]
  refine wpAnyH_take (i := 15) (v := .int .i64 (st : Int)) rfl (by kernel_rfl) (by kernel_rfl) (by kernel_rfl) (fun _ _ _ h => h) (Or.inl ⟨by rfl, fun w hSw => by obtain ⟨e2, e4⟩ := hSw; go_simp⟩) (by assumption) ?_
  simp only [List.getElem_toArray, List.getElem_cons_succ, List.getElem_cons_zero, Act.put, List.setIfInBounds_toArray, List.set_cons_zero, List.set_cons_succ]
  refine wpAnyH_take (i := 16) (v := .int .i64 ((fr : Int) - (st : Int))) rfl (by kernel_rfl) (by kernel_rfl) (by kernel_rfl) (fun _ _ _ h => h) (Or.inl ⟨by rfl, fun w hSw => by obtain ⟨e2, e4⟩ := hSw; go_simp⟩) (by assumption) ?_
  simp only [List.getElem_toArray, List.getElem_cons_succ, List.getElem_cons_zero, Act.put, List.setIfInBounds_toArray, List.set_cons_zero, List.set_cons_succ]
  refine wpAnyH_take (i := 17) (v := .agg #[.int .i64 k, .string t, .int .i64 (ln : Int), .int .i64 ((fr : Int) - (st : Int))]) rfl (by kernel_rfl) (by kernel_rfl) (by kernel_rfl) (fun _ _ _ h => h) (Or.inl ⟨by rfl, fun w hSw => by obtain ⟨e2, e4⟩ := hSw; go_simp⟩) (by assumption) ?_
  simp only [List.getElem_toArray, List.getElem_cons_succ, List.getElem_cons_zero, Act.put, List.setIfInBounds_toArray, List.set_cons_zero, List.set_cons_succ]
  refine wpAnyH_ready (rs := [4, 18]) (by kernel_rfl) (by simp) (AllReadyH.cons rfl (fun K hK => ?_) (AllReadyH.cons rfl (fun K hK => ?_) AllReadyH.nil))
  · refine step_loadTk (by rfl) (.tmp 11) rfl rfl c5 ?_
    refine hK.out _ _ (⟨c2, c4⟩) (fun hHeld2 => ?_)
    clear hK K
    simp only [List.getElem_toArray, List.getElem_cons_succ, List.getElem_cons_zero, Act.put, List.setIfInBounds_toArray, List.set_cons_zero, List.set_cons_succ]
    refine wpAnyH_ready (rs := [18]) (by kernel_rfl) (by simp) (AllReadyH.cons rfl (fun K hK => ?_) AllReadyH.nil)
    refine step_buildTk (by rfl) (.tmp 25) rfl rfl ?_
    refine hK.out _ _ (⟨d2, d4⟩) (fun hHeld3 => ?_)
    clear hK K
    simp only [List.getElem_toArray, List.getElem_cons_succ, List.getElem_cons_zero, Act.put, List.setIfInBounds_toArray, List.set_cons_zero, List.set_cons_succ]
    refine wpAnyH_ready (rs := [19]) (by kernel_rfl) (by simp) (AllReadyH.cons rfl (fun K hK => ?_) AllReadyH.nil)
    refine step_appTk (by rfl) (.tmp 12) (.tmp 26) rfl rfl (l := out) (m := [⟨k, t, ln, ((fr : Int) - (st : Int))⟩]) HOW.out rfl rfl HNEW.out (by rw [HON.out]; exact HLN.out) HSZ.out ?_
    intro v3 w3 hr3 hg3 hv3 hat3
    obtain ⟨⟨e5, f5, e2, e4⟩, hR3, q2, q4⟩ := unhide HPU w3 v3 hr3 hg3 hv3
    obtain ⟨a3, c3, rfl⟩ := hr3.shape
    have HR3 := hide hR3
    clear hr3 hg3 hv3 hat3 hR3
    generalize (out ++ [Tok.mk k t ln ((fr : Int) - (st : Int))]).length = n3 at *
    refine hK.out _ _ (⟨e2, e4⟩) (fun hHeld4 => ?_)
    clear hK K
    simp only [List.getElem_toArray, List.getElem_cons_succ, List.getElem_cons_zero, Act.put, List.setIfInBounds_toArray, List.set_cons_zero, List.set_cons_succ]
    refine wpAnyH_take (i := 20) (v := .pointer (some ⟨g, 0, none⟩)) rfl (by kernel_rfl) (by kernel_rfl) (by kernel_rfl) (fun _ _ _ h => h) (Or.inl ⟨by rfl, fun w hSw => by obtain ⟨e2, e4⟩ := hSw; go_simp⟩) (by assumption) ?_
    simp only [List.getElem_toArray, List.getElem_cons_succ, List.getElem_cons_zero, Act.put, List.setIfInBounds_toArray, List.set_cons_zero, List.set_cons_succ]
    refine wpAnyH_take (i := 21) (v := .pointer (some ⟨g, 5, none⟩)) rfl (by kernel_rfl) (by kernel_rfl) (by kernel_rfl) (fun _ _ _ h => h) (Or.inl ⟨by rfl, fun w hSw => by obtain ⟨e2, e4⟩ := hSw; go_simp⟩) (by assumption) ?_
    simp only [List.getElem_toArray, List.getElem_cons_succ, List.getElem_cons_zero, Act.put, List.setIfInBounds_toArray, List.set_cons_zero, List.set_cons_succ]
    refine wpAnyH_ready (rs := [22]) (by kernel_rfl) (by simp) (AllReadyH.cons rfl (fun K hK => ?_) AllReadyH.nil)
    refine step_storeTk (by rfl) (.tmp 29) (.tmp 27) rfl (v := .slice a3 n3 c3) rfl rfl rfl e5 f5 ?_
    refine hK.out _ _ (⟨q2, q4⟩) (fun hHeld5 => ?_)
    clear hK K
    simp only [List.getElem_toArray, List.getElem_cons_succ, List.getElem_cons_zero, Act.put]
    refine wpAnyH_done (by kernel_rfl) ?_ _
    obtain ⟨_, c1, _⟩ := HR3.out.cells
    have c3x := HR3.out.cells.2.2.2.1
    have f3 := HR3.out.frozen 3
    have HR4 := hide (HR3.out.setBehind a)
    clear hHeld hHeld2 hHeld3 hHeld4 hHeld5 HPU HOW HNEW e5 f5 e2 e4 q2 q4
    go_wp2
    go_end0
    exact ⟨rfl, _, by rw [HPL.out]; exact HR4.out⟩
  · refine step_buildTk (by rfl) (.tmp 25) rfl rfl ?_
    refine hK.out _ _ (⟨d2, d4⟩) (fun hHeld2 => ?_)
    clear hK K
    simp only [List.getElem_toArray, List.getElem_cons_succ, List.getElem_cons_zero, Act.put, List.setIfInBounds_toArray, List.set_cons_zero, List.set_cons_succ]
    refine wpAnyH_ready (rs := [4]) (by kernel_rfl) (by simp) (AllReadyH.cons rfl (fun K hK => ?_) AllReadyH.nil)
    refine step_loadTk (by rfl) (.tmp 11) rfl rfl d5 ?_
    refine hK.out _ _ (⟨d2, d4⟩) (fun hHeld3 => ?_)
    clear hK K
    simp only [List.getElem_toArray, List.getElem_cons_succ, List.getElem_cons_zero, Act.put, List.setIfInBounds_toArray, List.set_cons_zero, List.set_cons_succ]
    refine wpAnyH_ready (rs := [19]) (by kernel_rfl) (by simp) (AllReadyH.cons rfl (fun K hK => ?_) AllReadyH.nil)
    refine step_appTk (by rfl) (.tmp 12) (.tmp 26) rfl rfl (l := out) (m := [⟨k, t, ln, ((fr : Int) - (st : Int))⟩]) HOW.out rfl rfl HNEW.out (by rw [HON.out]; exact HLN.out) HSZ.out ?_
    intro v3 w3 hr3 hg3 hv3 hat3
    obtain ⟨⟨e5, f5, e2, e4⟩, hR3, q2, q4⟩ := unhide HPU w3 v3 hr3 hg3 hv3
    obtain ⟨a3, c3, rfl⟩ := hr3.shape
    have HR3 := hide hR3
    clear hr3 hg3 hv3 hat3 hR3
    generalize (out ++ [Tok.mk k t ln ((fr : Int) - (st : Int))]).length = n3 at *
    refine hK.out _ _ (⟨e2, e4⟩) (fun hHeld4 => ?_)
    clear hK K
    simp only [List.getElem_toArray, List.getElem_cons_succ, List.getElem_cons_zero, Act.put, List.setIfInBounds_toArray, List.set_cons_zero, List.set_cons_succ]
    refine wpAnyH_take (i := 20) (v := .pointer (some ⟨g, 0, none⟩)) rfl (by kernel_rfl) (by kernel_rfl) (by kernel_rfl) (fun _ _ _ h => h) (Or.inl ⟨by rfl, fun w hSw => by obtain ⟨e2, e4⟩ := hSw; go_simp⟩) (by assumption) ?_
    simp only [List.getElem_toArray, List.getElem_cons_succ, List.getElem_cons_zero, Act.put, List.setIfInBounds_toArray, List.set_cons_zero, List.set_cons_succ]
    refine wpAnyH_take (i := 21) (v := .pointer (some ⟨g, 5, none⟩)) rfl (by kernel_rfl) (by kernel_rfl) (by kernel_rfl) (fun _ _ _ h => h) (Or.inl ⟨by rfl, fun w hSw => by obtain ⟨e2, e4⟩ := hSw; go_simp⟩) (by assumption) ?_
    simp only [List.getElem_toArray, List.getElem_cons_succ, List.getElem_cons_zero, Act.put, List.setIfInBounds_toArray, List.set_cons_zero, List.set_cons_succ]
    refine wpAnyH_ready (rs := [22]) (by kernel_rfl) (by simp) (AllReadyH.cons rfl (fun K hK => ?_) AllReadyH.nil)
    refine step_storeTk (by rfl) (.tmp 29) (.tmp 27) rfl (v := .slice a3 n3 c3) rfl rfl rfl e5 f5 ?_
    refine hK.out _ _ (⟨q2, q4⟩) (fun hHeld5 => ?_)
    clear hK K
    simp only [List.getElem_toArray, List.getElem_cons_succ, List.getElem_cons_zero, Act.put]
    refine wpAnyH_done (by kernel_rfl) ?_ _
    obtain ⟨_, c1, _⟩ := HR3.out.cells
    have c3x := HR3.out.cells.2.2.2.1
    have f3 := HR3.out.frozen 3
    have HR4 := hide (HR3.out.setBehind a)
    clear hHeld hHeld2 hHeld3 hHeld4 hHeld5 HPU HOW HNEW e5 f5 e2 e4 q2 q4
    go_wp2
    go_end0
    exact ⟨rfl, _, by rw [HPL.out]; exact HR4.out⟩
end
end Go.Proofs.Ytcdilcjgmcamcab
