/- A disk and the document's beside it: what lasts, how many sectors, and both loaded anew. -/
import Derived.Test.YtfgjhlnaaopdeaaDkD3
namespace Go.Proofs.Ytfgjhlnaaopdeaa
open Go.RowKit Go.Maps

theorem image_enter (v : Value) (W : World) : (callFunc 21 #[v]).run Try.prog W = .ok (.enter 21 #[v]) W := by kernel_rfl
theorem rimage_enter (v : Value) (W : World) : (callFunc 37 #[v]).run Try.prog W = .ok (.enter 37 #[v]) W := by kernel_rfl
theorem sameImg_enter (v u : Value) (W : World) : (callFunc 36 #[v, u]).run Try.prog W = .ok (.enter 36 #[v, u]) W := by kernel_rfl
theorem pload_good {w : World} {v : Value} {xss : List (List Int)} (h : IsBB w v xss) (hs : ∀ s ∈ xss, IsSec s) (h2 : 2 ≤ xss.length) (h6 : xss.length ≤ 65536) :
    Calls Try.prog 14 #[v] w fun e w' => ∃ p gl gm V, e = .returned (.tuple #[.pointer (some ⟨p, 0, none⟩), .int .i64 0]) ∧ Dk w' p gl gm V ⟨xss, fun _ => [], 0, 0, 0⟩ ∧ (∀ b, Ft p gl gm V b → w.heap.size ≤ b) ∧ Below w.heap.size w w' := by
  obtain ⟨a, cap, rfl, hl, hm, hc⟩ := h
  obtain ⟨b, off, rfl, hcell⟩ := hc (by omega)
  refine (load_walk rfl h2 h6 hl hm hcell).mono ?_
  rintro e w' ⟨hb, ⟨_, j, hj, hne⟩ | ⟨p, gl, gm, V, rfl, _, hd, h1, h3, h4, hV⟩⟩
  · rw [getD_eq hj] at hne
    exact absurd (hs _ (List.getElem_mem hj)).1 hne
  · refine ⟨p, gl, gm, V, rfl, hd, ?_, hb⟩
    rintro b (rfl | rfl | rfl | ⟨i, hi⟩)
    · exact h1
    · exact h3
    · exact h4
    · rw [hV i] at hi; cases hi
theorem rload_good {w : World} {v : Value} {xss : List (List Int)} (h : IsBB w v xss) (hs : ∀ s ∈ xss, IsSec s) (h2 : 2 ≤ xss.length) (h6 : xss.length ≤ 65536) :
    Calls Try.prog 15 #[v] w fun e w' => ∃ a3 n3 c3, e = .returned (.tuple #[.agg (rdC xss.length a3 n3 c3 none 0 0 0 0 0).toArray, .int .i64 0]) ∧ IsAts w' (.slice a3 n3 c3) (atsOf xss) ∧ Below w.heap.size w w' := by
  obtain ⟨a, cap, rfl, hl, hm, hc⟩ := h
  obtain ⟨b, off, rfl, hcell⟩ := hc (by omega)
  refine (rload_walk rfl h2 h6 hl hm hcell).mono ?_
  rintro e w' ⟨hb, ⟨_, j, hj, hne⟩ | ⟨a3, n3, c3, rfl, _, hI⟩⟩
  · rw [getD_eq hj] at hne
    exact absurd (hs _ (List.getElem_mem hj)).1 hne
  · exact ⟨a3, n3, c3, rfl, hI, hb⟩
section
variable {ops : Array Oper} {rest : List Oper} {o : Oper} {a : Act} {Q : Exit → Act → World → Prop} {w : World}
theorem wpList_alloc36 (hgd : o.guard = none) (ho : o.op = .alloc 36) (hk : wpList Try.prog ops Q rest (a.put o.dst (.pointer (some ⟨w.heap.size, 0, none⟩))) (w.alloc (.cells z36.toArray 36))) : wpList Try.prog ops Q (o :: rest) a w :=
  wpList_plain hgd fun K hK => by
    unfold Oper.wp execOp
    simp only [ho, Sem.run_bind, alloc36_run w, Result.andThen_ok, Sem.run_pure]
    exact hK _ _ hk
end
/-- The document's image is the disk's. -/
theorem pr_images {w1 : World} {g p gl gm : Nat} {V : Nat → Value} {D : AD} {R : RD} (h : Pr w1 g p gl gm V D R) : ∃ a1 n1 c1 a2 n2 c2, Arr w1 g 38 (.pointer (some ⟨p, 0, none⟩) :: rdC R.n a1 n1 c1 a2 n2 c2 R.rd R.wt R.fl) ∧
    (∀ W, Below w1.heap.size w1 W → Calls Try.prog 21 #[.pointer (some ⟨p, 0, none⟩)] W fun e w' => ∃ v, e = .returned v ∧ IsBB w' v D.la ∧ Below w1.heap.size w1 w') ∧
    (∀ W, Below w1.heap.size w1 W → Calls Try.prog 37 #[.agg (rdC R.n a1 n1 c1 a2 n2 c2 R.rd R.wt R.fl).toArray] W fun e w' => ∃ v, e = .returned v ∧ IsBB w' v D.la ∧ Below W.heap.size W w') := by
  obtain ⟨a1, n1, c1, a2, n2, c2, hG, hL, hW⟩ := h.blk
  have hhi := h.dk.ok.hi
  refine ⟨a1, n1, c1, a2, n2, c2, hG, fun W hB => ?_, fun W hB => ?_⟩
  · refine (image_calls (h.dk.below hB)).mono ?_
    rintro e w' ⟨v, rfl, hI, hb⟩
    exact ⟨v, rfl, hI.isBB hhi, hB.trans (hb.mono hB.size)⟩
  · have := rimage_calls (vb := .slice a2 n2 c2) (n := R.n) (rd := R.rd) (wt := R.wt) (fl := R.fl) (hL.below hB) h.rel.lok (by rw [h.rel.n]; exact hhi)
    rw [rel_image h.rel] at this
    exact this
set_option maxRecDepth 100000 in
set_option maxHeartbeats 4000000 in
theorem does_image {w : World} {g p gl gm : Nat} {V : Nat → Value} {D : AD} {R : RD} (h : Pr w g p gl gm V D R) (x y z : Int) (vb vf : Value) (hv1 : ∃ a n c, vb = .slice a n c) (hv2 : ∃ a n c, vf = .slice a n c) :
    Calls Try.prog 10 #[.pointer (some ⟨g, 0, none⟩), .agg #[.int .i64 5, .int .i64 x, .int .i64 y, vb, .int .i64 z, vf]] w fun e w' => e = .returned (.bool true) ∧ Below w.heap.size w w' := by
  obtain ⟨ba, bn, bc, rfl⟩ := hv1
  obtain ⟨fa, fn, fc, rfl⟩ := hv2
  have hb1 := (Below.refl w.heap.size w).alloc (Nat.le_refl _) (.cells #[.int .i64 5, .int .i64 x, .int .i64 y, .slice ba bn bc, .int .i64 z, .slice fa fn fc] 30)
  have HP1 := hide (h.below hb1)
  have HB1 := hide hb1
  have hlo := h.dk.ok.lo
  clear h hb1
  go_enter Try.func10, Try.ntmps10
  go_wp2_with fail
  generalize w.alloc (.cells #[.int .i64 5, .int .i64 x, .int .i64 y, .slice ba bn bc, .int .i64 z, .slice fa fn fc] 30) = w1 at *
  have hund := Try.underlying36
  obtain ⟨a1, n1, c1, a2, n2, c2, hG1, hIM, hRI⟩ := pr_images HP1.out
  have HIM := hide hIM
  have HRI := hide hRI
  have HS : Hid (∀ W, Below w1.heap.size w1 W → W.cell? ⟨g, 0, none⟩ = some (.pointer (some ⟨p, 0, none⟩)) ∧ W.rangeAt g 1 (rdC R.n a1 n1 c1 a2 n2 c2 R.rd R.wt R.fl)) := fun W hW => ⟨(hG1.below hW).cell_of (j := 0) rfl, (hG1.below hW).tailRange⟩
  clear hIM hRI hG1
  refine wp_region_held_drew (S := fun W => W.cell? ⟨g, 0, none⟩ = some (.pointer (some ⟨p, 0, none⟩)) ∧ W.rangeAt g 1 (rdC R.n a1 n1 c1 a2 n2 c2 R.rd R.wt R.fl)) (by kernel_rfl) (unhide HS _ (Below.refl _ _).drew) (fun hHeld => ?_)
  refine wpAnyH_take (i := 0) (v := .pointer (some ⟨g, 0, none⟩)) rfl (by kernel_rfl) (by kernel_rfl) (by kernel_rfl) (fun _ _ _ h => h) (Or.inl ⟨by rfl, fun w hSw => by obtain ⟨hS1, hS2⟩ := hSw; go_simp⟩) (by assumption) ?_
  simp only [List.getElem_toArray, List.getElem_cons_zero, Act.put, List.setIfInBounds_toArray, List.set_cons_zero, List.set_cons_succ]
  refine wpAnyH_take (i := 1) (v := .pointer (some ⟨g, 0, none⟩)) rfl (by kernel_rfl) (by kernel_rfl) (by kernel_rfl) (fun _ _ _ h => h) (Or.inl ⟨by rfl, fun w hSw => by obtain ⟨hS1, hS2⟩ := hSw; go_simp⟩) (by assumption) ?_
  simp only [List.getElem_toArray, List.getElem_cons_succ, List.getElem_cons_zero, Act.put, List.setIfInBounds_toArray, List.set_cons_zero, List.set_cons_succ]
  refine wpAnyH_take (i := 2) (v := .pointer (some ⟨g, 0, none⟩)) rfl (by kernel_rfl) (by kernel_rfl) (by kernel_rfl) (fun _ _ _ h => h) (Or.inl ⟨by rfl, fun w hSw => by obtain ⟨hS1, hS2⟩ := hSw; go_simp⟩) (by assumption) ?_
  simp only [List.getElem_toArray, List.getElem_cons_succ, List.getElem_cons_zero, Act.put, List.setIfInBounds_toArray, List.set_cons_zero, List.set_cons_succ]
  refine wpAnyH_take (i := 3) (v := .pointer (some ⟨p, 0, none⟩)) rfl (by kernel_rfl) (by kernel_rfl) (by kernel_rfl) (fun _ _ _ h => h) (Or.inl ⟨by rfl, fun w hSw => by obtain ⟨hS1, hS2⟩ := hSw; go_simp⟩) (by assumption) ?_
  simp only [List.getElem_toArray, List.getElem_cons_succ, List.getElem_cons_zero, Act.put, List.setIfInBounds_toArray, List.set_cons_zero, List.set_cons_succ]
  refine wpAnyH_take (i := 5) (v := .pointer (some ⟨g, 0, none⟩)) rfl (by kernel_rfl) (by kernel_rfl) (by kernel_rfl) (fun _ _ _ h => h) (Or.inl ⟨by rfl, fun w hSw => by obtain ⟨hS1, hS2⟩ := hSw; go_simp⟩) (by assumption) ?_
  simp only [List.getElem_toArray, List.getElem_cons_succ, List.getElem_cons_zero, Act.put, List.setIfInBounds_toArray, List.set_cons_zero, List.set_cons_succ]
  refine wpAnyH_take (i := 6) (v := .pointer (some ⟨g, 0, none⟩)) rfl (by kernel_rfl) (by kernel_rfl) (by kernel_rfl) (fun _ _ _ h => h) (Or.inl ⟨by rfl, fun w hSw => by obtain ⟨hS1, hS2⟩ := hSw; go_simp⟩) (by assumption) ?_
  simp only [List.getElem_toArray, List.getElem_cons_succ, List.getElem_cons_zero, Act.put, List.setIfInBounds_toArray, List.set_cons_zero, List.set_cons_succ]
  refine wpAnyH_take (i := 7) (v := .pointer (some ⟨g, 1, none⟩)) rfl (by kernel_rfl) (by kernel_rfl) (by kernel_rfl) (fun _ _ _ h => h) (Or.inl ⟨by rfl, fun w hSw => by obtain ⟨hS1, hS2⟩ := hSw; go_simp⟩) (by assumption) ?_
  simp only [List.getElem_toArray, List.getElem_cons_succ, List.getElem_cons_zero, Act.put, List.setIfInBounds_toArray, List.set_cons_zero, List.set_cons_succ]
  refine wpAnyH_take (i := 8) (v := .agg (rdC R.n a1 n1 c1 a2 n2 c2 R.rd R.wt R.fl).toArray) rfl (by kernel_rfl) (by kernel_rfl) (by kernel_rfl) (fun _ _ _ h => h) (yieldsIf_load_mid (by rfl) _ _ rfl _ _ rfl _ _ (fun w hSw => hSw.2) hund rfl info36) (by assumption) ?_
  simp only [List.getElem_toArray, List.getElem_cons_succ, List.getElem_cons_zero, Act.put, List.setIfInBounds_toArray, List.set_cons_zero, List.set_cons_succ]
  refine wpAnyH_ready (rs := [4]) (by kernel_rfl) (by simp) (AllReadyH.cons rfl (fun K hK => ?_) AllReadyH.nil)
  refine step_call1Q rfl 21 image_enter (.tmp 158) _ rfl rfl (unhide HIM _ (Below.refl _ _).drew) ?_
  rintro e w2 ⟨v2, rfl, hB2, hb2⟩
  have HB2 := hide hB2
  refine ⟨_, rfl, ?_⟩
  refine hK.out _ _ (unhide HS _ hb2) (fun hHeld1 => ?_)
  clear hK K
  simp only [List.getElem_toArray, List.getElem_cons_succ, List.getElem_cons_zero, Act.put, List.setIfInBounds_toArray, List.set_cons_zero, List.set_cons_succ]
  refine wpAnyH_ready (rs := [9]) (by kernel_rfl) (by simp) (AllReadyH.cons rfl (fun K hK => ?_) AllReadyH.nil)
  refine step_call1Q rfl 37 rimage_enter (.tmp 163) _ rfl rfl (unhide HRI _ hb2) ?_
  rintro e w3 ⟨v3, rfl, hB3, hb3⟩
  have hbb3 := hb2.trans (hb3.mono hb2.size)
  have HSI := hide (sameImg_calls (HB2.out.below hb3) hB3 (by omega))
  refine ⟨_, rfl, ?_⟩
  refine hK.out _ _ (unhide HS _ hbb3) (fun hHeld2 => ?_)
  clear hK K
  simp only [List.getElem_toArray, List.getElem_cons_succ, List.getElem_cons_zero, Act.put, List.setIfInBounds_toArray, List.set_cons_zero, List.set_cons_succ]
  refine wpAnyH_ready (rs := [10]) (by kernel_rfl) (by simp) (AllReadyH.cons rfl (fun K hK => ?_) AllReadyH.nil)
  refine step_call2Q rfl 36 sameImg_enter (.tmp 159) (.tmp 164) _ rfl rfl rfl (unhide HSI) ?_
  rintro e w4 ⟨rfl, hb4'⟩
  have hb4 := hbb3.trans (hb4'.mono hbb3.size)
  refine ⟨_, rfl, ?_⟩
  refine hK.out _ _ (unhide HS _ hb4) (fun hHeld3 => ?_)
  clear hK K
  simp only [List.getElem_toArray, List.getElem_cons_succ, List.getElem_cons_zero, Act.put, List.setIfInBounds_toArray, List.set_cons_zero, List.set_cons_succ]
  refine wpAnyH_take (i := 11) (v := .bool true) rfl (by kernel_rfl) (by kernel_rfl) (by kernel_rfl) (fun _ _ _ h => h) (Or.inl ⟨by rfl, fun w hSw => by obtain ⟨hS1, hS2⟩ := hSw; go_simp⟩) (by assumption) ?_
  simp only [List.getElem_toArray, List.getElem_cons_succ, List.getElem_cons_zero, Act.put, List.setIfInBounds_toArray, List.set_cons_zero, List.set_cons_succ]
  refine wpAnyH_done (by kernel_rfl) ?_ _
  go_wp2
  go_ret
  exact ⟨rfl, HB1.out.trans (hb4.mono HB1.out.size)⟩
set_option maxRecDepth 100000 in
set_option maxHeartbeats 4000000 in
theorem does_sectors {w : World} {g p gl gm : Nat} {V : Nat → Value} {D : AD} {R : RD} (h : Pr w g p gl gm V D R) (x y z : Int) (vb vf : Value) (hv1 : ∃ a n c, vb = .slice a n c) (hv2 : ∃ a n c, vf = .slice a n c) :
    Calls Try.prog 10 #[.pointer (some ⟨g, 0, none⟩), .agg #[.int .i64 6, .int .i64 x, .int .i64 y, vb, .int .i64 z, vf]] w fun e w' => e = .returned (.bool true) ∧ Below w.heap.size w w' := by
  obtain ⟨ba, bn, bc, rfl⟩ := hv1
  obtain ⟨fa, fn, fc, rfl⟩ := hv2
  have hb1 := (Below.refl w.heap.size w).alloc (Nat.le_refl _) (.cells #[.int .i64 6, .int .i64 x, .int .i64 y, .slice ba bn bc, .int .i64 z, .slice fa fn fc] 30)
  have HP1 := hide (h.below hb1)
  have HB1 := hide hb1
  have hn := h.rel.n
  clear h hb1
  go_enter Try.func10, Try.ntmps10
  go_wp2_with fail
  generalize w.alloc (.cells #[.int .i64 6, .int .i64 x, .int .i64 y, .slice ba bn bc, .int .i64 z, .slice fa fn fc] 30) = w1 at *
  obtain ⟨a1, n1, c1, a2, n2, c2, hG1, _⟩ := HP1.out.blk
  have hc0 := HP1.out.dk.cells.1
  rw [← hn] at hc0
  have HSE : Hid (∀ W, W = w1.drew → Calls Try.prog 13 #[.pointer (some ⟨p, 0, none⟩)] W fun e w' => e = .returned (.int .i64 (R.n : Int)) ∧ w' = W) := fun W hW => by
    subst hW
    exact sectors_calls (w := w1.drew) hc0
  have HS : Hid (∀ W, Below w1.heap.size w1 W → W.cell? ⟨g, 0, none⟩ = some (.pointer (some ⟨p, 0, none⟩)) ∧ W.cell? ⟨g, 1, none⟩ = some (.int .i64 (R.n : Int))) := fun W hW => ⟨(hG1.below hW).cell_of (j := 0) rfl, (hG1.below hW).cell_of (j := 1) rfl⟩
  clear hG1 hc0 hn
  generalize R.n = rn at *
  refine wp_region_held_drew (S := fun W => W.cell? ⟨g, 0, none⟩ = some (.pointer (some ⟨p, 0, none⟩)) ∧ W.cell? ⟨g, 1, none⟩ = some (.int .i64 (rn : Int))) (by kernel_rfl) (unhide HS _ (Below.refl _ _).drew) (fun hHeld => ?_)
  refine wpAnyH_take (i := 0) (v := .pointer (some ⟨g, 0, none⟩)) rfl (by kernel_rfl) (by kernel_rfl) (by kernel_rfl) (fun _ _ _ h => h) (Or.inl ⟨by rfl, fun w hSw => by obtain ⟨hS1, hS2⟩ := hSw; go_simp⟩) (by assumption) ?_
  simp only [List.getElem_toArray, List.getElem_cons_zero, Act.put, List.setIfInBounds_toArray, List.set_cons_zero, List.set_cons_succ]
  refine wpAnyH_take (i := 1) (v := .pointer (some ⟨g, 0, none⟩)) rfl (by kernel_rfl) (by kernel_rfl) (by kernel_rfl) (fun _ _ _ h => h) (Or.inl ⟨by rfl, fun w hSw => by obtain ⟨hS1, hS2⟩ := hSw; go_simp⟩) (by assumption) ?_
  simp only [List.getElem_toArray, List.getElem_cons_succ, List.getElem_cons_zero, Act.put, List.setIfInBounds_toArray, List.set_cons_zero, List.set_cons_succ]
  refine wpAnyH_take (i := 2) (v := .pointer (some ⟨g, 0, none⟩)) rfl (by kernel_rfl) (by kernel_rfl) (by kernel_rfl) (fun _ _ _ h => h) (Or.inl ⟨by rfl, fun w hSw => by obtain ⟨hS1, hS2⟩ := hSw; go_simp⟩) (by assumption) ?_
  simp only [List.getElem_toArray, List.getElem_cons_succ, List.getElem_cons_zero, Act.put, List.setIfInBounds_toArray, List.set_cons_zero, List.set_cons_succ]
  refine wpAnyH_take (i := 3) (v := .pointer (some ⟨p, 0, none⟩)) rfl (by kernel_rfl) (by kernel_rfl) (by kernel_rfl) (fun _ _ _ h => h) (Or.inl ⟨by rfl, fun w hSw => by obtain ⟨hS1, hS2⟩ := hSw; go_simp⟩) (by assumption) ?_
  simp only [List.getElem_toArray, List.getElem_cons_succ, List.getElem_cons_zero, Act.put, List.setIfInBounds_toArray, List.set_cons_zero, List.set_cons_succ]
  refine wpAnyH_take (i := 5) (v := .pointer (some ⟨g, 0, none⟩)) rfl (by kernel_rfl) (by kernel_rfl) (by kernel_rfl) (fun _ _ _ h => h) (Or.inl ⟨by rfl, fun w hSw => by obtain ⟨hS1, hS2⟩ := hSw; go_simp⟩) (by assumption) ?_
  simp only [List.getElem_toArray, List.getElem_cons_succ, List.getElem_cons_zero, Act.put, List.setIfInBounds_toArray, List.set_cons_zero, List.set_cons_succ]
  refine wpAnyH_take (i := 6) (v := .pointer (some ⟨g, 0, none⟩)) rfl (by kernel_rfl) (by kernel_rfl) (by kernel_rfl) (fun _ _ _ h => h) (Or.inl ⟨by rfl, fun w hSw => by obtain ⟨hS1, hS2⟩ := hSw; go_simp⟩) (by assumption) ?_
  simp only [List.getElem_toArray, List.getElem_cons_succ, List.getElem_cons_zero, Act.put, List.setIfInBounds_toArray, List.set_cons_zero, List.set_cons_succ]
  refine wpAnyH_take (i := 7) (v := .pointer (some ⟨g, 1, none⟩)) rfl (by kernel_rfl) (by kernel_rfl) (by kernel_rfl) (fun _ _ _ h => h) (Or.inl ⟨by rfl, fun w hSw => by obtain ⟨hS1, hS2⟩ := hSw; go_simp⟩) (by assumption) ?_
  simp only [List.getElem_toArray, List.getElem_cons_succ, List.getElem_cons_zero, Act.put, List.setIfInBounds_toArray, List.set_cons_zero, List.set_cons_succ]
  refine wpAnyH_take (i := 8) (v := .pointer (some ⟨g, 1, none⟩)) rfl (by kernel_rfl) (by kernel_rfl) (by kernel_rfl) (fun _ _ _ h => h) (Or.inl ⟨by rfl, fun w hSw => by obtain ⟨hS1, hS2⟩ := hSw; go_simp⟩) (by assumption) ?_
  simp only [List.getElem_toArray, List.getElem_cons_succ, List.getElem_cons_zero, Act.put, List.setIfInBounds_toArray, List.set_cons_zero, List.set_cons_succ]
  refine wpAnyH_take (i := 9) (v := .int .i64 (rn : Int)) rfl (by kernel_rfl) (by kernel_rfl) (by kernel_rfl) (fun _ _ _ h => h) (Or.inl ⟨by rfl, fun w hSw => by obtain ⟨hS1, hS2⟩ := hSw; go_simp⟩) (by assumption) ?_
  simp only [List.getElem_toArray, List.getElem_cons_succ, List.getElem_cons_zero, Act.put, List.setIfInBounds_toArray, List.set_cons_zero, List.set_cons_succ]
  refine wpAnyH_ready (rs := [4]) (by kernel_rfl) (by simp) (AllReadyH.cons rfl (fun K hK => ?_) AllReadyH.nil)
  refine step_call1Q rfl 13 sect_enter (.tmp 171) _ rfl rfl (unhide HSE _ rfl) ?_
  rintro e w2 ⟨rfl, rfl⟩
  refine ⟨_, rfl, ?_⟩
  refine hK.out _ _ (hHeld) (fun hHeld1 => ?_)
  clear hK K
  simp only [List.getElem_toArray, List.getElem_cons_succ, List.getElem_cons_zero, Act.put, List.setIfInBounds_toArray, List.set_cons_zero, List.set_cons_succ]
  refine wpAnyH_take (i := 10) (v := .bool true) rfl (by kernel_rfl) (by kernel_rfl) (by kernel_rfl) (fun _ _ _ h => h) (Or.inl ⟨by rfl, fun w hSw => by obtain ⟨hS1, hS2⟩ := hSw; go_simp⟩) (by assumption) ?_
  simp only [List.getElem_toArray, List.getElem_cons_succ, List.getElem_cons_zero, Act.put, List.setIfInBounds_toArray, List.set_cons_zero, List.set_cons_succ]
  refine wpAnyH_take (i := 11) (v := .bool true) rfl (by kernel_rfl) (by kernel_rfl) (by kernel_rfl) (fun _ _ _ h => h) (Or.inl ⟨by rfl, fun w hSw => by obtain ⟨hS1, hS2⟩ := hSw; go_simp⟩) (by assumption) ?_
  simp only [List.getElem_toArray, List.getElem_cons_succ, List.getElem_cons_zero, Act.put, List.setIfInBounds_toArray, List.set_cons_zero, List.set_cons_succ]
  refine wpAnyH_done (by kernel_rfl) ?_ _
  go_wp2
  go_ret
  exact ⟨rfl, HB1.out.trans (((Below.refl _ _).drew).mono HB1.out.size)⟩
theorem fin_load {w1 w3 w5 : World} {g p gl gm p' gl' gm' : Nat} {V V' : Nat → Value} {D : AD} {R : RD} {a3 : Option Addr} {n3 c3 : Nat} (h : Pr w1 g p gl gm V D R) (hd : Dk w3 p' gl' gm' V' ⟨D.la, fun _ => [], 0, 0, 0⟩) (hft : ∀ b, Ft p' gl' gm' V' b → w1.heap.size ≤ b) (hb35 : Below w3.heap.size w3 w5) (hb15 : Below w1.heap.size w1 w5) (hI : IsAts w5 (.slice a3 n3 c3) (atsOf D.la)) {cs : List Value} (hcs : cs = rdC D.la.length a3 n3 c3 none 0 0 0 0 0)
    {w6 w7 w8 w9 : World} (e6 : w6 = w5.alloc (.cells z36.toArray 36)) (e7 : w7 = w6.setCells w5.heap.size 0 cs) (e8 : w8 = w7.setCell ⟨g, 0, none⟩ (.pointer (some ⟨p', 0, none⟩))) (e9 : w9 = w8.setCells g 1 cs) :
    w6.there w5.heap.size 0 cs.length ∧ w7.cell? ⟨g, 0, none⟩ = some (.pointer (some ⟨p, 0, none⟩)) ∧ w7.frozen? ⟨g, 0, none⟩ = false ∧ w8.rangeAt w5.heap.size 0 cs ∧ w8.there g 1 cs.length ∧
      Pr w9 g p' gl' gm' V' ⟨D.la, fun _ => [], 0, 0, 0⟩ ⟨D.la.length, atsOf D.la, [], 0, 0, 0⟩ ∧ Up (Fp g p gl gm V) w1 w9 := by
  obtain ⟨a1, n1, c1, a2, n2, c2, hG, _, _⟩ := h.blk
  have hcl : cs.length = 6 := by rw [hcs]; rfl
  have hg1 : g < w1.heap.size := hG.lt
  have hs15 := hb15.size
  have hb6 : Below w5.heap.size w5 w6 := by rw [e6]; exact (Below.refl _ _).alloc (Nat.le_refl _) _
  have hZ6 : Arr w6 w5.heap.size 36 z36 := by rw [e6]; exact Arr.new w5 z36 _
  have hG6 := (hG.below hb15).below hb6
  have hg7 : w6.grownBy w7 (some w5.heap.size) := by rw [e7]; exact grown_setCells w6 w5.heap.size 0 cs
  have hX7 : Arr w7 w5.heap.size 36 cs := by rw [e7]; exact hZ6.setAll (by rw [hcl]; rfl)
  have hne : g ≠ w5.heap.size := by omega
  have hG7 : Arr w7 g 38 (.pointer (some ⟨p, 0, none⟩) :: rdC R.n a1 n1 c1 a2 n2 c2 R.rd R.wt R.fl) := hG6.keep (hg7.block g hG6.lt (fun e => hne (Option.some.inj e)))
  have hg8 : w7.grownBy w8 (some g) := by rw [e8]; exact grown_cell w7 g 0 _
  have hG8 : Arr w8 g 38 (.pointer (some ⟨p', 0, none⟩) :: rdC R.n a1 n1 c1 a2 n2 c2 R.rd R.wt R.fl) := by rw [e8]; exact hG7.set 0 _
  have hX8 : Arr w8 w5.heap.size 36 cs := hX7.keep (hg8.block w5.heap.size hX7.lt (fun e => hne (Option.some.inj e).symm))
  have hg9 : w8.grownBy w9 (some g) := by rw [e9]; exact grown_setCells w8 g 1 cs
  have hG9 : Arr w9 g 38 (.pointer (some ⟨p', 0, none⟩) :: cs) := by rw [e9]; exact hG8.setTail (by rw [hcl]; rfl)
  have hI9 := (((hI.below hb6).other hg7 hZ6 (by decide) (by decide)).other hg8 hG7 (by decide) (by decide)).other hg9 hG8 (by decide) (by decide)
  have hu7 : Up (fun b => b = w5.heap.size) w6 w7 := Up.of_grown hg7 (fun b hb => (Option.some.inj hb).symm)
  have hu8 : Up (fun b => b = g) w7 w8 := Up.of_grown hg8 (fun b hb => (Option.some.inj hb).symm)
  have hu9 : Up (fun b => b = g) w8 w9 := Up.of_grown hg9 (fun b hb => (Option.some.inj hb).symm)
  have hs35 := hb35.size
  have hFg : ∀ b, Ft p' gl' gm' V' b → ¬ b = g := fun b hb e => by have := hft b hb; omega
  have hFX : ∀ b, Ft p' gl' gm' V' b → ¬ b = w5.heap.size := fun b hb e => by have := hd.lt hb; omega
  have hD9 := ((((hd.below hb35).below hb6).up hu7 hFX).up hu8 hFg).up hu9 hFg
  have hUp : Up (Fp g p gl gm V) w1 w9 := by
    have h16 : Up (Fp g p gl gm V) w1 w6 := (Up.of_below hb15).then_below hb6
    have h17 : Up (Fp g p gl gm V) w1 w7 := h16.trans hu7 (fun x hx => Or.inr (by have hx' : x = w5.heap.size := hx; omega))
    exact (h17.trans hu8 (fun x hx => Or.inl (Or.inl hx))).trans hu9 (fun x hx => Or.inl (Or.inl hx))
  refine ⟨by rw [show cs.length = z36.length by rw [hcl]; rfl]; exact hZ6.there, hG7.cell_of (j := 0) rfl, hG7.frozen 0, hX8.range, hG8.tailThere (by rw [hcl]; rfl), ⟨⟨a3, n3, c3, none, 0, 0, by rw [← hcs]; exact hG9, hI9, IsAts.nil w9⟩, hD9, rel_load h.dk.ok.las⟩, hUp⟩
set_option maxRecDepth 100000 in
set_option maxHeartbeats 4000000 in
theorem does_load {w : World} {g p gl gm : Nat} {V : Nat → Value} {D : AD} {R : RD} (h : Pr w g p gl gm V D R) (x y z : Int) (vb vf : Value) (hv1 : ∃ a n c, vb = .slice a n c) (hv2 : ∃ a n c, vf = .slice a n c) :
    Calls Try.prog 10 #[.pointer (some ⟨g, 0, none⟩), .agg #[.int .i64 7, .int .i64 x, .int .i64 y, vb, .int .i64 z, vf]] w fun e w' => e = .returned (.bool true) ∧ ∃ p' gl' gm' V', Pr w' g p' gl' gm' V' ⟨D.la, fun _ => [], 0, 0, 0⟩ ⟨D.la.length, atsOf D.la, [], 0, 0, 0⟩ ∧ (∀ b, Ft p' gl' gm' V' b → w.heap.size ≤ b) ∧ Up (Fp g p gl gm V) w w' := by
  obtain ⟨ba, bn, bc, rfl⟩ := hv1
  obtain ⟨fa, fn, fc, rfl⟩ := hv2
  have hb1 := (Below.refl w.heap.size w).alloc (Nat.le_refl _) (.cells #[.int .i64 7, .int .i64 x, .int .i64 y, .slice ba bn bc, .int .i64 z, .slice fa fn fc] 30)
  have HP1 := hide (h.below hb1)
  have HB1 := hide hb1
  have hlo := h.dk.ok.lo
  have hhi := h.dk.ok.hi
  have HLAS := hide h.dk.ok.las
  obtain ⟨a1, n1, c1, a2, n2, c2, hG1, hIM, hRI⟩ := pr_images (h.below hb1)
  have hc0 := hG1.cell_of (j := 0) rfl
  have HG1 := hide hG1
  have HIM := hide hIM
  have HRI := hide hRI
  clear h hb1 hG1 hIM hRI
  go_enter Try.func10, Try.ntmps10
  go_wp2_with fail
  generalize w.alloc (.cells #[.int .i64 7, .int .i64 x, .int .i64 y, .slice ba bn bc, .int .i64 z, .slice fa fn fc] 30) = w1 at *
  refine (unhide HIM w1 (Below.refl _ _)).mono ?_
  rintro e w2 ⟨v2, rfl, hB2, hb2⟩
  have HL2 := hide (pload_good hB2 HLAS.out hlo hhi)
  have HB2 := hide hb2
  clear hB2 hb2 HIM
  go_wp2_with fail
  refine (unhide HL2).mono ?_
  rintro e w3 ⟨p', gl', gm', V', rfl, hd3, hft, hb3⟩
  have HB3 : Hid (Below w1.heap.size w1 w3) := HB2.out.trans (hb3.mono HB2.out.size)
  have HD3 := hide hd3
  have HFT : Hid (∀ b, Ft p' gl' gm' V' b → w1.heap.size ≤ b) := fun b hb => Nat.le_trans HB2.out.size (hft b hb)
  have hc03 := (HG1.out.below HB3.out).cell_of (j := 0) rfl
  have hrg := (HG1.out.below HB3.out).tailRange
  have hund := Try.underlying36
  have HRI3 := hide (unhide HRI w3 HB3.out)
  clear HL2 hd3 hft hb3 HRI hc0
  go_wp2_with (first
    | (refine wpList_load_mid rfl 36 (.tmp 193) rfl g 1 rfl (rdC R.n a1 n1 c1 a2 n2 c2 R.rd R.wt R.fl) _ hrg hund rfl info36 ?_))
  refine (unhide HRI3).mono ?_
  rintro e w4 ⟨v4, rfl, hB4, hb4⟩
  have HL4 := hide (rload_good hB4 HLAS.out hlo hhi)
  have HB4 := hide hb4
  clear hB4 hb4 HRI3 hrg hc03
  go_wp2_with fail
  refine (unhide HL4).mono ?_
  rintro e w5 ⟨a3, n3, c3, rfl, hI5, hb5⟩
  generalize hcs : rdC D.la.length a3 n3 c3 none 0 0 0 0 0 = cs at *
  have hi6 : (Try.prog.info? 36).map (·.size) = some cs.length := by rw [← hcs]; exact info36
  have hone : ∀ u ∈ cs, u.oneCell' = true := by rw [← hcs]; exact rdC_one _ _ _ _ _ _ _ _ _ _
  obtain ⟨w6, e6⟩ : ∃ w6, w6 = w5.alloc (.cells z36.toArray 36) := ⟨_, rfl⟩
  obtain ⟨w7, e7⟩ : ∃ w7, w7 = w6.setCells w5.heap.size 0 cs := ⟨_, rfl⟩
  obtain ⟨w8, e8⟩ : ∃ w8, w8 = w7.setCell ⟨g, 0, none⟩ (.pointer (some ⟨p', 0, none⟩)) := ⟨_, rfl⟩
  obtain ⟨w9, e9⟩ : ∃ w9, w9 = w8.setCells g 1 cs := ⟨_, rfl⟩
  have hb45 := HB4.out.trans (hb5.mono HB4.out.size)
  obtain ⟨hth6, hc7, hf7, hr8, hth8, hPr9, hUp9⟩ := fin_load HP1.out HD3.out HFT.out hb45 (HB3.out.trans (hb45.mono HB3.out.size)) hI5 hcs.symm e6 e7 e8 e9
  have HFIN : Hid (∃ p' gl' gm' V', Pr w9 g p' gl' gm' V' ⟨D.la, fun _ => [], 0, 0, 0⟩ ⟨D.la.length, atsOf D.la, [], 0, 0, 0⟩ ∧ (∀ b, Ft p' gl' gm' V' b → w.heap.size ≤ b) ∧ Up (Fp g p gl gm V) w w9) :=
    ⟨p', gl', gm', V', hPr9, fun b hb => Nat.le_trans HB1.out.size (HFT.out b hb), (Up.of_below (F := Fp g p gl gm V) HB1.out).trans (F' := Fp g p gl gm V) hUp9 (fun _ h => Or.inl h)⟩
  have E6 := hide e6
  have E7 := hide e7
  have E8 := hide e8
  have E9 := hide e9
  clear HL4 hI5 hb5 hb45 hPr9 hUp9 HD3 HFT HP1 HG1 HB1 HB2 HB3 HB4 HLAS hcs e6 e7 e8 e9
  go_wp2_with (first
    | (refine wpList_alloc36 rfl rfl ?_; rw [← E6.out])
    | (refine wpList_storeRow (cs := cs) rfl (.tmp 18) (.tmp 197) 36 rfl rfl rfl hth6 hi6 hone ?_; rw [← E7.out])
    | (rw [← E8.out]; refine wpList_load_mid rfl 36 (.tmp 18) rfl w5.heap.size 0 rfl cs _ hr8 hund rfl hi6 ?_)
    | (refine wpList_storeRow (cs := cs) rfl (.tmp 213) (.tmp 211) 36 rfl rfl rfl hth8 hi6 hone ?_; rw [← E9.out]))
  go_ret
  exact ⟨rfl, HFIN.out⟩
end Go.Proofs.Ytfgjhlnaaopdeaa
