/- Calls of three and four arguments, and conversions, in a drawn region; guarded ones too. The document's Flush. -/
import Derived.Test.YtbgknbjpbobebaaDoorKQ
namespace Go.Proofs.YtbgknbjpbobebaaDoor
open Go.RowKit Go.Maps

section
variable {ops : Array Oper} {o : Oper} {a : Act} {w : World} {K : Act → World → Prop} {Q : Exit → Act → World → Prop} {E : Prop}
theorem step_call3Gd (hw : Region.wanted o (yielded ops a.tmps) = true) (f : Nat) (hf : ∀ (v u z : Value) (W : World), (callFunc f #[v, u, z]).run Tryd.prog W = .ok (.enter f #[v, u, z]) W) (x y t : Operand) (ts : Array TypeId) (ho : o.op = .call { callee := .value (.func f), args := #[x, y, t], argTypes := ts }) {v u z : Value} (hx : a.eval x = v) (hy : a.eval y = u) (ht : a.eval t = z)
    {Post : Ending → World → Prop} (hc : Calls Tryd.prog f #[v, u, z] w Post) (hk : ∀ e w2, Post e w2 → ∃ r, e = .returned r ∧ K (a.put o.dst r) w2) :
    if Region.wanted o (yielded ops a.tmps) = true then Oper.wp Tryd.prog o a w K Q else E := by
  rw [if_pos hw]
  have hrun : (execOp a.eval o).run Tryd.prog w = .ok (.enter f #[v, u, z]) w := by
    have h1 := hf v u z w
    unfold execOp
    have hfv : a.eval (.func f) = .func (.func f) #[] #[] := rfl
    simp [ho, hx, hy, ht, hfv, resolve, invoke, Deferred.ofValue, h1]
  unfold Oper.wp
  rw [hrun]
  refine hc.mono ?_
  intro e w2 hp
  obtain ⟨r, rfl, hK⟩ := hk e w2 hp
  exact hK
theorem step_call4Gd (hw : Region.wanted o (yielded ops a.tmps) = true) (f : Nat) (hf : ∀ (v u z q : Value) (W : World), (callFunc f #[v, u, z, q]).run Tryd.prog W = .ok (.enter f #[v, u, z, q]) W) (x y t s : Operand) (ts : Array TypeId) (ho : o.op = .call { callee := .value (.func f), args := #[x, y, t, s], argTypes := ts }) {v u z q : Value} (hx : a.eval x = v) (hy : a.eval y = u) (ht : a.eval t = z) (hs : a.eval s = q)
    {Post : Ending → World → Prop} (hc : Calls Tryd.prog f #[v, u, z, q] w Post) (hk : ∀ e w2, Post e w2 → ∃ r, e = .returned r ∧ K (a.put o.dst r) w2) :
    if Region.wanted o (yielded ops a.tmps) = true then Oper.wp Tryd.prog o a w K Q else E := by
  rw [if_pos hw]
  have hrun : (execOp a.eval o).run Tryd.prog w = .ok (.enter f #[v, u, z, q]) w := by
    have h1 := hf v u z q w
    unfold execOp
    have hfv : a.eval (.func f) = .func (.func f) #[] #[] := rfl
    simp [ho, hx, hy, ht, hs, hfv, resolve, invoke, Deferred.ofValue, h1]
  unfold Oper.wp
  rw [hrun]
  refine hc.mono ?_
  intro e w2 hp
  obtain ⟨r, rfl, hK⟩ := hk e w2 hp
  exact hK
theorem step_conv (hw : Region.wanted o (yielded ops a.tmps) = true) (x : Operand) (ho : o.op = .convert 28 9 x) {v r : Value} (hx : a.eval x = v) (hrun : (convert 28 9 v).run Tryd.prog w = .ok r w)
    (hk : K (a.put o.dst r) w) : if Region.wanted o (yielded ops a.tmps) = true then Oper.wp Tryd.prog o a w K Q else E := by
  rw [if_pos hw]
  unfold Oper.wp execOp
  simp only [ho, hx, Sem.run_bind, hrun, Result.andThen_ok, Sem.run_pure]
  exact hk
end
end Go.Proofs.YtbgknbjpbobebaaDoor

namespace Go.Proofs.YtbgknbjpbobebaaDoor
open Go.RowKit Go.Maps

theorem put_enter (v u z : Value) (W : World) : (callFunc 47 #[v, u, z]).run Tryd.prog W = .ok (.enter 47 #[v, u, z]) W := by kernel_rfl
theorem putL_len (l : Ats) (n : Int) (b : List Int) : (putL l n b).length ≤ l.length + 1 := by
  unfold putL
  rw [List.length_append, List.length_singleton]
  have := List.length_filter_le (fun a : Int × List Int => a.1 != n) l
  omega
theorem flushL_len (la wr : Ats) : (RD.flushL la wr).length ≤ la.length + wr.length := by
  refine snoc_ind (P := fun wr => (RD.flushL la wr).length ≤ la.length + wr.length) (by simp [RD.flushL]) (fun wr a ih => ?_) wr
  rw [flushL_snoc, List.length_append, List.length_singleton]
  have := putL_len (RD.flushL la wr) a.1 a.2
  omega
theorem flushL_take {la wr : Ats} {k : Nat} (hk : k < wr.length) : RD.flushL la (wr.take (k + 1)) = putL (RD.flushL la (wr.take k)) (wr.getD k dA).1 (wr.getD k dA).2 := by
  rw [List.take_succ_eq_append_getElem hk, flushL_snoc, getD_eq hk]
theorem results1 {fn : Func} {p : Tmp} {t : TypeId} {g : Nat} {tmps : Array Value} {w : World} {v : Value} (h : fn.results = #[.cell p t]) (ha : tmps.getD p undef = .pointer (some ⟨g, 0, none⟩)) (hl : (loadVar t ⟨g, 0, none⟩).run Tryd.prog w = .ok v w) : (results fn tmps).run Tryd.prog w = .ok v w := by
  have ha' : tmps[p]?.getD undef = .pointer (some ⟨g, 0, none⟩) := by simpa using ha
  simp [results, h, asAddr, ha', hl]
set_option maxRecDepth 100000 in
set_option maxHeartbeats 2000000 in
theorem rflush_calls {w : World} {a1 a2 : Option Addr} {n1 n2 c1 c2 : Nat} {n rd wt fl : Int} {l ws : Ats} (ha : IsAts w (.slice a1 n1 c1) l) (h : IsAts w (.slice a2 n2 c2) ws) (hl : l.length + ws.length ≤ 549755813888) (hf0 : 0 ≤ fl) (hf1 : fl ≤ 1152921504606846976) :
    Calls Tryd.prog 18 #[.agg #[.int .i64 n, .slice a1 n1 c1, .slice a2 n2 c2, .int .i64 rd, .int .i64 wt, .int .i64 fl]] w fun e w' => ∃ a3 n3 c3, e = .returned (.agg (rdC n a3 n3 c3 none 0 0 rd wt (fl + 1)).toArray) ∧ IsAts w' (.slice a3 n3 c3) (RD.flushL l ws) ∧ Below w.heap.size w w' := by
  obtain ⟨a2', c2', e2, hp⟩ := h.shape
  injection e2 with e2a e2b e2c
  subst e2a e2b e2c
  have HA := hide h
  have HLN : Hid (∀ k, k ≤ ws.length → (RD.flushL l (ws.take k)).length ≤ 549755813888) := fun k hk => by
    have := flushL_len l (ws.take k)
    rw [List.length_take] at this
    omega
  have HST := hide (fun k (hk : k < ws.length) => flushL_take (la := l) hk)
  have HEND : Hid (ws.take ws.length = ws) := List.take_length
  have hlen : ws.length ≤ 549755813888 := by omega
  generalize hm : ws.length = m at *
  have HM := hide hm
  clear hm
  have hZ0 : Arr ((w.alloc (.cells #[.int .i64 n, .slice a1 n1 c1, .slice a2 m c2, .int .i64 rd, .int .i64 wt, .int .i64 fl] 44)).alloc (.cells z36.toArray 44)) (w.heap.size + 1) 44 z36 := by
    have := Arr.new (w.alloc (.cells #[.int .i64 n, .slice a1 n1 c1, .slice a2 m c2, .int .i64 rd, .int .i64 wt, .int .i64 fl] 44)) z36 44
    rw [size_alloc] at this
    exact this
  have hX0 : Arr ((w.alloc (.cells #[.int .i64 n, .slice a1 n1 c1, .slice a2 m c2, .int .i64 rd, .int .i64 wt, .int .i64 fl] 44)).alloc (.cells z36.toArray 44)) w.heap.size 44 (rdC n a1 n1 c1 a2 m c2 rd wt fl) :=
    (Arr.new w (rdC n a1 n1 c1 a2 m c2 rd wt fl) 44).below ((Below.refl _ _).alloc (Nat.le_refl _) _)
  have hb0 : Below w.heap.size w ((w.alloc (.cells #[.int .i64 n, .slice a1 n1 c1, .slice a2 m c2, .int .i64 rd, .int .i64 wt, .int .i64 fl] 44)).alloc (.cells z36.toArray 44)) := ((Below.refl _ _).alloc (Nat.le_refl _) _).alloc (by simp) _
  have HA0 := hide (ha.below hb0)
  clear h ha
  go_enter Tryd.func18, Tryd.ntmps18
  go_wp2
  go_loopw [3] (fun iv wr => ∃ k : Nat, k ≤ m ∧ iv = .int .i64 (k : Int) ∧ Hid (∃ a3 n3 c3, IsAts wr (.slice a3 n3 c3) (RD.flushL l (ws.take k)) ∧ Arr wr w.heap.size 44 (rdC n a3 n3 c3 a2 m c2 rd wt fl) ∧ Arr wr (w.heap.size + 1) 44 z36 ∧ Below w.heap.size w wr)) (fun iv _ => m - (intOf iv).toNat)
  case atStart => exact ⟨0, by omega, rfl, a1, n1, c1, HA0.out, hX0, hZ0, hb0⟩
  case round =>
    clear hX0 hZ0 hb0 HA0
    obtain ⟨k, hk, rfl, HR⟩ := hrel
    obtain ⟨a3, n3, c3, hI, hX, hZ, hnx⟩ := HR.out
    clear HR
    have hsz := hnx.size
    have hx2 := hX.cell_of (j := 2) rfl
    have hx1 := hX.cell_of (j := 1) rfl
    have hxl := hX.lt
    by_cases hlt : k < m
    · obtain ⟨g, rfl, hle, hcm⟩ := hp (by omega)
      obtain ⟨z, hc1, hc2, hz⟩ := (HA.out.below hnx).elem (j := k) (by rw [HM.out]; exact hlt)
      obtain ⟨za, zn, zc, rfl⟩ := (Own8.isB hz).shape
      have HST2 := hide (unhide HST k hlt)
      have hfl := unhide HLN k hk
      have hgX : g ≠ w.heap.size := fun e => by
        have := World.block_lt_of_cell? w _ (HA.out.elem (j := k) (by rw [HM.out]; exact hlt)).choose_spec.1
        have h9 : g < w.heap.size := this
        omega
      have hglt : g < wr.heap.size := World.block_lt_of_cell? wr _ hc1
      have HPUT : Hid (∀ W, Below wr.heap.size wr W → Calls Tryd.prog 47 #[.slice a3 n3 c3, .int .i64 (ws.getD k dA).1, .slice za zn zc] W fun e w' => ∃ v, e = .returned v ∧ IsAts w' v (putL (RD.flushL l (ws.take k)) (ws.getD k dA).1 (ws.getD k dA).2) ∧ Below wr.heap.size wr w') := fun W hW =>
        (put_calls (hI.below hW) (hz.below hW) hfl).mono fun e w' ⟨v, h1, h2, h3⟩ => ⟨v, h1, h2, hW.trans (h3.mono hW.size)⟩
      rw [← HST2.out] at HPUT
      have HSS : Hid (∀ W : World, W.heap[g]? = wr.heap[g]? → W.cell? ⟨w.heap.size, 2, none⟩ = some (.slice (some ⟨g, 0, none⟩) m c2) → W.cell? ⟨w.heap.size, 2, none⟩ = some (.slice (some ⟨g, 0, none⟩) m c2) ∧ W.cell? ⟨g, k * 2, none⟩ = some (.int .i64 (ws.getD k dA).1) ∧ W.cell? ⟨g, k * 2 + 1, none⟩ = some (.slice za zn zc)) := fun W hW hc =>
        ⟨hc, (World.cell?_of_block (a := ⟨g, k * 2, none⟩) hW).trans hc1, (World.cell?_of_block (a := ⟨g, k * 2 + 1, none⟩) hW).trans hc2⟩
      have HX := hide hX
      have HZ := hide hZ
      have HNX := hide hnx
      clear hI hX hZ hnx hz
      generalize (ws.getD k dA).1 = y at *
      generalize (ws.getD k dA).2 = ys at *
      go_wp2_with fail
      refine wp_region_held_drew (S := fun W => W.cell? ⟨w.heap.size, 2, none⟩ = some (.slice (some ⟨g, 0, none⟩) m c2) ∧ W.cell? ⟨g, k * 2, none⟩ = some (.int .i64 y) ∧ W.cell? ⟨g, k * 2 + 1, none⟩ = some (.slice za zn zc)) (by kernel_rfl) (unhide HSS _ rfl hx2) (fun hHeld => ?_)
      refine wpAnyH_take (i := 0) (v := .pointer (some ⟨w.heap.size, 1, none⟩)) rfl (by kernel_rfl) (by kernel_rfl) (by kernel_rfl) (fun _ _ _ h => h) (Or.inl ⟨by rfl, fun w hSw => by obtain ⟨hS1, hS2, hS3⟩ := hSw; go_simp⟩) (by assumption) ?_
      simp only [List.getElem_toArray, List.getElem_cons_zero, Act.put, List.setIfInBounds_toArray, List.set_cons_zero, List.set_cons_succ]
      refine wpAnyH_take (i := 2) (v := .pointer (some ⟨w.heap.size, 2, none⟩)) rfl (by kernel_rfl) (by kernel_rfl) (by kernel_rfl) (fun _ _ _ h => h) (Or.inl ⟨by rfl, fun w hSw => by obtain ⟨hS1, hS2, hS3⟩ := hSw; go_simp⟩) (by assumption) ?_
      simp only [List.getElem_toArray, List.getElem_cons_succ, List.getElem_cons_zero, Act.put, List.setIfInBounds_toArray, List.set_cons_zero, List.set_cons_succ]
      refine wpAnyH_take (i := 3) (v := .slice (some ⟨g, 0, none⟩) m c2) rfl (by kernel_rfl) (by kernel_rfl) (by kernel_rfl) (fun _ _ _ h => h) (Or.inl ⟨by rfl, fun w hSw => by obtain ⟨hS1, hS2, hS3⟩ := hSw; go_simp⟩) (by assumption) ?_
      simp only [List.getElem_toArray, List.getElem_cons_succ, List.getElem_cons_zero, Act.put, List.setIfInBounds_toArray, List.set_cons_zero, List.set_cons_succ]
      refine wpAnyH_take (i := 4) (v := .int .i64 (k : Int)) rfl (by kernel_rfl) (by kernel_rfl) (by kernel_rfl) (fun _ _ _ h => h) (Or.inl ⟨by rfl, fun w hSw => by obtain ⟨hS1, hS2, hS3⟩ := hSw; go_simp⟩) (by assumption) ?_
      simp only [List.getElem_toArray, List.getElem_cons_succ, List.getElem_cons_zero, Act.put, List.setIfInBounds_toArray, List.set_cons_zero, List.set_cons_succ]
      refine wpAnyH_take (i := 5) (v := .pointer (some ⟨g, k * 2, none⟩)) rfl (by kernel_rfl) (by kernel_rfl) (by kernel_rfl) (fun _ _ _ h => h) (Or.inl ⟨by rfl, fun w hSw => by obtain ⟨hS1, hS2, hS3⟩ := hSw; go_simp⟩) (by assumption) ?_
      simp only [List.getElem_toArray, List.getElem_cons_succ, List.getElem_cons_zero, Act.put, List.setIfInBounds_toArray, List.set_cons_zero, List.set_cons_succ]
      refine wpAnyH_take (i := 6) (v := .pointer (some ⟨g, k * 2, none⟩)) rfl (by kernel_rfl) (by kernel_rfl) (by kernel_rfl) (fun _ _ _ h => h) (Or.inl ⟨by rfl, fun w hSw => by obtain ⟨hS1, hS2, hS3⟩ := hSw; go_simp⟩) (by assumption) ?_
      simp only [List.getElem_toArray, List.getElem_cons_succ, List.getElem_cons_zero, Act.put, List.setIfInBounds_toArray, List.set_cons_zero, List.set_cons_succ]
      refine wpAnyH_take (i := 7) (v := .int .i64 y) rfl (by kernel_rfl) (by kernel_rfl) (by kernel_rfl) (fun _ _ _ h => h) (Or.inl ⟨by rfl, fun w hSw => by obtain ⟨hS1, hS2, hS3⟩ := hSw; go_simp⟩) (by assumption) ?_
      simp only [List.getElem_toArray, List.getElem_cons_succ, List.getElem_cons_zero, Act.put, List.setIfInBounds_toArray, List.set_cons_zero, List.set_cons_succ]
      refine wpAnyH_take (i := 8) (v := .pointer (some ⟨w.heap.size, 2, none⟩)) rfl (by kernel_rfl) (by kernel_rfl) (by kernel_rfl) (fun _ _ _ h => h) (Or.inl ⟨by rfl, fun w hSw => by obtain ⟨hS1, hS2, hS3⟩ := hSw; go_simp⟩) (by assumption) ?_
      simp only [List.getElem_toArray, List.getElem_cons_succ, List.getElem_cons_zero, Act.put, List.setIfInBounds_toArray, List.set_cons_zero, List.set_cons_succ]
      refine wpAnyH_take (i := 9) (v := .slice (some ⟨g, 0, none⟩) m c2) rfl (by kernel_rfl) (by kernel_rfl) (by kernel_rfl) (fun _ _ _ h => h) (Or.inl ⟨by rfl, fun w hSw => by obtain ⟨hS1, hS2, hS3⟩ := hSw; go_simp⟩) (by assumption) ?_
      simp only [List.getElem_toArray, List.getElem_cons_succ, List.getElem_cons_zero, Act.put, List.setIfInBounds_toArray, List.set_cons_zero, List.set_cons_succ]
      refine wpAnyH_take (i := 10) (v := .int .i64 (k : Int)) rfl (by kernel_rfl) (by kernel_rfl) (by kernel_rfl) (fun _ _ _ h => h) (Or.inl ⟨by rfl, fun w hSw => by obtain ⟨hS1, hS2, hS3⟩ := hSw; go_simp⟩) (by assumption) ?_
      simp only [List.getElem_toArray, List.getElem_cons_succ, List.getElem_cons_zero, Act.put, List.setIfInBounds_toArray, List.set_cons_zero, List.set_cons_succ]
      refine wpAnyH_take (i := 11) (v := .pointer (some ⟨g, k * 2, none⟩)) rfl (by kernel_rfl) (by kernel_rfl) (by kernel_rfl) (fun _ _ _ h => h) (Or.inl ⟨by rfl, fun w hSw => by obtain ⟨hS1, hS2, hS3⟩ := hSw; go_simp⟩) (by assumption) ?_
      simp only [List.getElem_toArray, List.getElem_cons_succ, List.getElem_cons_zero, Act.put, List.setIfInBounds_toArray, List.set_cons_zero, List.set_cons_succ]
      refine wpAnyH_take (i := 12) (v := .pointer (some ⟨g, k * 2 + 1, none⟩)) rfl (by kernel_rfl) (by kernel_rfl) (by kernel_rfl) (fun _ _ _ h => h) (Or.inl ⟨by rfl, fun w hSw => by obtain ⟨hS1, hS2, hS3⟩ := hSw; go_simp⟩) (by assumption) ?_
      simp only [List.getElem_toArray, List.getElem_cons_succ, List.getElem_cons_zero, Act.put, List.setIfInBounds_toArray, List.set_cons_zero, List.set_cons_succ]
      refine wpAnyH_take (i := 13) (v := .slice za zn zc) rfl (by kernel_rfl) (by kernel_rfl) (by kernel_rfl) (fun _ _ _ h => h) (Or.inl ⟨by rfl, fun w hSw => by obtain ⟨hS1, hS2, hS3⟩ := hSw; go_simp⟩) (by assumption) ?_
      simp only [List.getElem_toArray, List.getElem_cons_succ, List.getElem_cons_zero, Act.put, List.setIfInBounds_toArray, List.set_cons_zero, List.set_cons_succ]
      refine wpAnyH_ready (rs := [1]) (by kernel_rfl) (by simp) (AllReadyH.cons rfl (fun K hK => ?_) AllReadyH.nil)
      refine step_load34 rfl (.tmp 11) rfl rfl hx1 ?_
      refine hK.out _ _ (hHeld) (fun hHeld1 => ?_)
      clear hK K
      simp only [List.getElem_toArray, List.getElem_cons_succ, List.getElem_cons_zero, Act.put, List.setIfInBounds_toArray, List.set_cons_zero, List.set_cons_succ]
      refine wpAnyH_ready (rs := [14]) (by kernel_rfl) (by simp) (AllReadyH.cons rfl (fun K hK => ?_) AllReadyH.nil)
      refine step_call3Gd (by rfl) 47 put_enter (.tmp 12) (.tmp 18) (.tmp 24) _ rfl rfl rfl rfl (unhide HPUT _ (Below.refl _ _).drew) ?_
      rintro e w6 ⟨v6, rfl, hI6, hb6⟩
      obtain ⟨ya, yn, yc, rfl⟩ : ∃ a n c, v6 = .slice a n c := by obtain ⟨a, c, h1, _⟩ := hI6.shape; exact ⟨_, _, _, h1⟩
      have hX6 := HX.out.below hb6
      have hZ6 := HZ.out.below hb6
      refine ⟨_, rfl, ?_⟩
      refine hK.out _ _ (unhide HSS _ (hb6.block g hglt) (hX6.cell_of (j := 2) rfl)) (fun hHeld2 => ?_)
      clear hK K
      simp only [List.getElem_toArray, List.getElem_cons_succ, List.getElem_cons_zero, Act.put, List.setIfInBounds_toArray, List.set_cons_zero, List.set_cons_succ]
      refine wpAnyH_take (i := 15) (v := .pointer (some ⟨w.heap.size, 1, none⟩)) rfl (by kernel_rfl) (by kernel_rfl) (by kernel_rfl) (fun _ _ _ h => h) (Or.inl ⟨by rfl, fun w hSw => by obtain ⟨hS1, hS2, hS3⟩ := hSw; go_simp⟩) (by assumption) ?_
      simp only [List.getElem_toArray, List.getElem_cons_succ, List.getElem_cons_zero, Act.put, List.setIfInBounds_toArray, List.set_cons_zero, List.set_cons_succ]
      refine wpAnyH_ready (rs := [16]) (by kernel_rfl) (by simp) (AllReadyH.cons rfl (fun K hK => ?_) AllReadyH.nil)
      refine step_store34 (v := .slice ya yn yc) rfl (.tmp 26) (.tmp 25) rfl rfl rfl rfl (hX6.cell_of (j := 1) rfl) (hX6.frozen 1) ?_
      have hg7 := grown_cell w6 w.heap.size 1 (.slice ya yn yc)
      have hX7 := hX6.set 1 (.slice ya yn yc)
      have hI7 := hI6.other hg7 hX6 (by decide) (by decide)
      have hZ7 := hZ6.other ⟨w.heap.size, 1, none⟩ (.slice ya yn yc) (by simp)
      have hbb7 : Below w.heap.size w (w6.setCell ⟨w.heap.size, 1, none⟩ (.slice ya yn yc)) := (HNX.out.trans (hb6.mono hsz)).setCell (Nat.le_refl _) _
      refine hK.out _ _ (unhide HSS _ ((hg7.block g (Nat.lt_of_lt_of_le hglt hb6.size) (by simpa using hgX)).trans (hb6.block g hglt)) (hX7.cell_of (j := 2) rfl)) (fun hHeld3 => ?_)
      clear hK K
      simp only [List.getElem_toArray, List.getElem_cons_succ, List.getElem_cons_zero, Act.put]
      refine wpAnyH_done (by kernel_rfl) ?_ _
      go_wp2
      go_roundw
      case rel => exact ⟨k + 1, by omega, by go_num, ya, yn, yc, hI7, hX7, hZ7, hbb7⟩
      case measure => simp [intOf]; omega
    · have hkm : k = m := by omega
      have HE : Hid (RD.flushL l (ws.take k) = RD.flushL l ws) := by rw [hkm, HEND.out]; exact rfl
      rw [HE.out] at hI
      have hx5 := hX.cell_of (j := 5) rfl
      have hf2 := hX.frozen 2
      have hf5 := hX.frozen 5
      have hX7 : Arr ((wr.setCell ⟨w.heap.size, 2, none⟩ (.slice none 0 0)).setCell ⟨w.heap.size, 5, none⟩ (.int .i64 (fl + 1))) w.heap.size 44 (rdC n a3 n3 c3 none 0 0 rd wt (fl + 1)) := (hX.set 2 _).set 5 _
      have hZ7 : Arr ((wr.setCell ⟨w.heap.size, 2, none⟩ (.slice none 0 0)).setCell ⟨w.heap.size, 5, none⟩ (.int .i64 (fl + 1))) (w.heap.size + 1) 44 z36 := (hZ.other ⟨w.heap.size, 2, none⟩ _ (by simp)).other ⟨w.heap.size, 5, none⟩ _ (by simp)
      have hund := Tryd.underlying44
      have HI := hide hI
      have HX := hide hX
      have HNX := hide hnx
      clear hI hX hZ hnx hkm
      go_wp2_with (first
        | (refine wpList_load_mid rfl 44 (.tmp 1) rfl w.heap.size 0 rfl (rdC n a3 n3 c3 none 0 0 rd wt (fl + 1)) _ hX7.range hund rfl info36 ?_)
        | (refine wpList_storeRow (cs := (rdC n a3 n3 c3 none 0 0 rd wt (fl + 1))) rfl (.tmp 2) (.tmp 34) 44 rfl rfl rfl hZ7.there info36 (rdC_one _ _ _ _ _ _ _ _ _ _) ?_))
      have hg8a := grown_cell wr w.heap.size 2 (.slice none 0 0)
      have hg8b := grown_cell (wr.setCell ⟨w.heap.size, 2, none⟩ (.slice none 0 0)) w.heap.size 5 (.int .i64 (fl + 1))
      have hg8c := grown_setCells ((wr.setCell ⟨w.heap.size, 2, none⟩ (.slice none 0 0)).setCell ⟨w.heap.size, 5, none⟩ (.int .i64 (fl + 1))) (w.heap.size + 1) 0 (rdC n a3 n3 c3 none 0 0 rd wt (fl + 1))
      have hXa := HX.out.set 2 (.slice none 0 0)
      have hI8 := ((HI.out.other hg8a HX.out (by decide) (by decide)).other hg8b hXa (by decide) (by decide)).other hg8c hZ7 (by decide) (by decide)
      have hZ8 := hZ7.setAll (ds := (rdC n a3 n3 c3 none 0 0 rd wt (fl + 1))) rfl
      have hB8 : Below w.heap.size w (((wr.setCell ⟨w.heap.size, 2, none⟩ (.slice none 0 0)).setCell ⟨w.heap.size, 5, none⟩ (.int .i64 (fl + 1))).setCells (w.heap.size + 1) 0 (rdC n a3 n3 c3 none 0 0 rd wt (fl + 1))) := ((HNX.out.setCell (Nat.le_refl _) _).setCell (Nat.le_refl _) _).grown hg8c (by have := HNX.out.size; simp; omega) (fun j hj => by injection hj with hj; omega)
      generalize ((wr.setCell ⟨w.heap.size, 2, none⟩ (.slice none 0 0)).setCell ⟨w.heap.size, 5, none⟩ (.int .i64 (fl + 1))).setCells (w.heap.size + 1) 0 (rdC n a3 n3 c3 none 0 0 rd wt (fl + 1)) = w8 at *
      have hload : (loadVar 44 ⟨w.heap.size + 1, 0, none⟩).run Tryd.prog w8 = .ok (.agg (rdC n a3 n3 c3 none 0 0 rd wt (fl + 1)).toArray) w8 := run_loadVar_mid _ _ 0 _ _ _ hZ8.range hund rfl info36
      refine bodyPost_ret (v := .agg (rdC n a3 n3 c3 none 0 0 rd wt (fl + 1)).toArray) ?_ rfl ?_
      · exact results1 rfl rfl hload
      · exact ⟨a3, n3, c3, rfl, hI8, hB8⟩
end Go.Proofs.YtbgknbjpbobebaaDoor
