/- A disk and the document's beside it: a Write of both. -/
import Derived.Test.YtfgjhlnaaopdeaaDkWA
import Derived.Deep.DeepCutAuto
namespace Go.Proofs.Ytfgjhlnaaopdeaa
open Go.RowKit Go.Maps

theorem infoOp : (Try.prog.info? 30).map (·.size) = some 6 := by kernel_rfl
theorem body_enter (v : Value) (W : World) : (callFunc 31 #[v]).run Try.prog W = .ok (.enter 31 #[v]) W := by kernel_rfl
theorem rwrite_enter (v u z : Value) (W : World) : (callFunc 30 #[v, u, z]).run Try.prog W = .ok (.enter 30 #[v, u, z]) W := by kernel_rfl
theorem write_enter (v u z : Value) (W : World) : (callFunc 17 #[v, u, z]).run Try.prog W = .ok (.enter 17 #[v, u, z]) W := by kernel_rfl
set_option maxRecDepth 100000 in
set_option maxHeartbeats 4000000 in
theorem does_write {w : World} {g p gl gm : Nat} {V : Nat → Value} {D : AD} {R : RD} (h : Pr w g p gl gm V D R) (x y z : Int) {vb : Value} (vf : Value) {xs : List Int} (hv1 : IsB w vb xs) (hxl : xs.length ≤ 140737488355328) (hv2 : ∃ a n c, vf = .slice a n c) (hwl : ∀ i, (D.wr i).length ≤ 68719476736) (hl : R.wr.length ≤ 549755813888) (hw0 : 0 ≤ D.wt) (hw1 : D.wt ≤ 1152921504606846976) :
    Calls Try.prog 10 #[.pointer (some ⟨g, 0, none⟩), .agg #[.int .i64 1, .int .i64 x, .int .i64 y, vb, .int .i64 z, vf]] w fun e w' => e = .returned (.bool true) ∧ ∃ V', Pr w' g p gl gm V' (D.writeAt x (bodyOf z xs)) (R.writeAt (writeOk D x (bodyOf z xs)) x (bodyOf z xs)) ∧ (∀ b, Ft p gl gm V' b → Ft p gl gm V b ∨ w.heap.size ≤ b) ∧ Up (Fp g p gl gm V) w w' := by
  obtain ⟨a1, n1, c1, a2, n2, c2, hG, hL, hW⟩ := h.blk
  obtain ⟨ba, bn, bc, rfl⟩ := hv1.shape
  obtain ⟨fa, fn, fc, rfl⟩ := hv2
  have hDk := h.dk
  have hRel := h.rel
  have hgF : ¬ Ft p gl gm V g := fun hF => by
    have := hDk.tm g hF
    unfold Arr at hG
    exact (this _ _ _ hG).elim (by decide) (by decide)
  have hb1 := (Below.refl w.heap.size w).alloc (Nat.le_refl _) (.cells #[.int .i64 1, .int .i64 x, .int .i64 y, .slice ba bn bc, .int .i64 z, .slice fa fn fc] 30)
  have hO1 : Arr (w.alloc (.cells #[.int .i64 1, .int .i64 x, .int .i64 y, .slice ba bn bc, .int .i64 z, .slice fa fn fc] 30)) w.heap.size 30 [.int .i64 1, .int .i64 x, .int .i64 y, .slice ba bn bc, .int .i64 z, .slice fa fn fc] := Arr.new w _ _
  have hG1 := hG.below hb1
  have hL1 := hL.below hb1
  have hW1 := hW.below hb1
  have hD1 := hDk.below hb1
  have hoF : ¬ Ft p gl gm V w.heap.size := fun hF => by have := hDk.lt hF; omega
  have hgo : w.heap.size ≠ g := fun e => by have := hG.lt; omega
  clear hDk hG hL hW h
  have hB1 := hv1.below hb1
  have hsb : ∀ q ∈ bodyOf z xs, 0 ≤ q ∧ q ≤ 255 := by
    unfold bodyOf
    split
    · exact (secOf_is hv1.mem).2
    · exact hv1.mem
  have HRT := hide (hRel.writeAt x hsb)
  have hwt := hRel.wt
  have HBD : Hid (∀ W, Below (w.alloc (.cells #[.int .i64 1, .int .i64 x, .int .i64 y, .slice ba bn bc, .int .i64 z, .slice fa fn fc] 30)).heap.size (w.alloc (.cells #[.int .i64 1, .int .i64 x, .int .i64 y, .slice ba bn bc, .int .i64 z, .slice fa fn fc] 30)) W → _) := fun W hW => body_calls (k := 1) (x := x) (y := y) (z := z) (hB1.below hW) hxl ⟨fa, fn, fc, rfl⟩
  have HRR0 : Hid (∀ (W : World) (u : Value), Below (w.alloc (.cells #[.int .i64 1, .int .i64 x, .int .i64 y, .slice ba bn bc, .int .i64 z, .slice fa fn fc] 30)).heap.size (w.alloc (.cells #[.int .i64 1, .int .i64 x, .int .i64 y, .slice ba bn bc, .int .i64 z, .slice fa fn fc] 30)) W → Own8 W 0 u (bodyOf z xs) → _) := fun W u hW hu => rwrite_any hRel x (hW1.below hW) (hL1.below hW) (Own8.isB hu) hl (by omega) (by omega)
  have HPR0 : Hid (∀ (W : World) (u : Value), Below (w.alloc (.cells #[.int .i64 1, .int .i64 x, .int .i64 y, .slice ba bn bc, .int .i64 z, .slice fa fn fc] 30)).heap.size (w.alloc (.cells #[.int .i64 1, .int .i64 x, .int .i64 y, .slice ba bn bc, .int .i64 z, .slice fa fn fc] 30)) W → Own8 W (w.alloc (.cells #[.int .i64 1, .int .i64 x, .int .i64 y, .slice ba bn bc, .int .i64 z, .slice fa fn fc] 30)).heap.size u (bodyOf z xs) → _) := fun W u hW hu => pwrite_any (hD1.below hW) x hu (fun b hb => hD1.lt hb) hwl hw0 hw1
  clear hRel hl hwl hw0 hw1 hwt hxl hv1 hB1 hsb
  generalize R.writeAt (writeOk D x (bodyOf z xs)) x (bodyOf z xs) = R2 at *
  generalize wcode D x (bodyOf z xs) = ff at *
  generalize D.writeAt x (bodyOf z xs) = D2 at *
  generalize bodyOf z xs = bs at *
  go_enter Try.func10, Try.ntmps10
  go_wp2
  generalize w.alloc (.cells #[.int .i64 1, .int .i64 x, .int .i64 y, .slice ba bn bc, .int .i64 z, .slice fa fn fc] 30) = w1 at *
  have hund := Try.underlying36
  have hundO := Try.underlying30
  have HS : Hid (∀ W : World, Up (Ft p gl gm V) w1 W → W.cell? ⟨g, 0, none⟩ = some (.pointer (some ⟨p, 0, none⟩)) ∧ W.rangeAt g 1 (rdC R.n a1 n1 c1 a2 n2 c2 R.rd R.wt R.fl) ∧ W.cell? ⟨w.heap.size, 1, none⟩ = some (.int .i64 x) ∧ W.rangeAt w.heap.size 0 [.int .i64 1, .int .i64 x, .int .i64 y, .slice ba bn bc, .int .i64 z, .slice fa fn fc]) := fun W hW =>
    ⟨(hG1.up hW hgF).cell_of rfl, fun j v hv => (hG1.up hW hgF).cell_of (j := 1 + j) (by rw [Nat.add_comm, List.getElem?_cons_succ]; exact hv), (hO1.up hW hoF).cell_of rfl, (hO1.up hW hoF).range⟩
  have hglt := hG1.lt
  have HLT : Hid (∀ b, Ft p gl gm V b → b < w1.heap.size) := fun b hb => hD1.lt hb
  have HTM : Hid (∀ W, Below w1.heap.size w1 W → Tm W (Ft p gl gm V)) := fun W hW => (hD1.below hW).tm
  have HG1 := hide hG1
  have HL1 := hide hL1
  have HW1 := hide hW1
  clear hG1 hL1 hW1 hD1 hO1
  go_cut [10, 11] (fun v5 v7 wc => ∃ g5, v5 = .pointer (some ⟨g5, 0, none⟩) ∧ v7 = .int .i64 ff ∧ Hid (∃ a3 n3 c3 a4 n4 c4, IsAts wc (.slice a3 n3 c3) R2.la ∧ IsAts wc (.slice a4 n4 c4) R2.wr ∧ Arr wc g5 36 (rdC R2.n a3 n3 c3 a4 n4 c4 R2.rd R2.wt R2.fl) ∧ w1.heap.size ≤ g5 ∧ Below w1.heap.size w1 wc))
  case first =>
    refine wp_region_held_drew (S := fun W => W.cell? ⟨g, 0, none⟩ = some (.pointer (some ⟨p, 0, none⟩)) ∧ W.rangeAt g 1 (rdC R.n a1 n1 c1 a2 n2 c2 R.rd R.wt R.fl) ∧ W.cell? ⟨w.heap.size, 1, none⟩ = some (.int .i64 x) ∧ W.rangeAt w.heap.size 0 [.int .i64 1, .int .i64 x, .int .i64 y, .slice ba bn bc, .int .i64 z, .slice fa fn fc]) (by kernel_rfl) (unhide HS _ (Up.of_below (Below.refl _ _).drew)) (fun hHeld => ?_)
    refine wpAnyH_take (i := 0) (v := .pointer (some ⟨g, 0, none⟩)) rfl (by kernel_rfl) (by kernel_rfl) (by kernel_rfl) (fun _ _ _ h => h) (Or.inl ⟨by rfl, fun w hSw => by obtain ⟨hS1, hS2, hS3, hS4⟩ := hSw; go_simp⟩) (by assumption) ?_
    simp only [List.getElem_toArray, List.getElem_cons_zero, Act.put, List.setIfInBounds_toArray, List.set_cons_zero, List.set_cons_succ]
    refine wpAnyH_take (i := 1) (v := .pointer (some ⟨g, 0, none⟩)) rfl (by kernel_rfl) (by kernel_rfl) (by kernel_rfl) (fun _ _ _ h => h) (Or.inl ⟨by rfl, fun w hSw => by obtain ⟨hS1, hS2, hS3, hS4⟩ := hSw; go_simp⟩) (by assumption) ?_
    simp only [List.getElem_toArray, List.getElem_cons_succ, List.getElem_cons_zero, Act.put, List.setIfInBounds_toArray, List.set_cons_zero, List.set_cons_succ]
    refine wpAnyH_take (i := 2) (v := .pointer (some ⟨g, 1, none⟩)) rfl (by kernel_rfl) (by kernel_rfl) (by kernel_rfl) (fun _ _ _ h => h) (Or.inl ⟨by rfl, fun w hSw => by obtain ⟨hS1, hS2, hS3, hS4⟩ := hSw; go_simp⟩) (by assumption) ?_
    simp only [List.getElem_toArray, List.getElem_cons_succ, List.getElem_cons_zero, Act.put, List.setIfInBounds_toArray, List.set_cons_zero, List.set_cons_succ]
    refine wpAnyH_take (i := 3) (v := .agg (rdC R.n a1 n1 c1 a2 n2 c2 R.rd R.wt R.fl).toArray) rfl (by kernel_rfl) (by kernel_rfl) (by kernel_rfl) (fun _ _ _ h => h) (yieldsIf_load_mid (by rfl) _ _ rfl _ _ rfl _ _ (fun w hSw => hSw.2.1) hund rfl info36) (by assumption) ?_
    simp only [List.getElem_toArray, List.getElem_cons_succ, List.getElem_cons_zero, Act.put, List.setIfInBounds_toArray, List.set_cons_zero, List.set_cons_succ]
    refine wpAnyH_take (i := 4) (v := .pointer (some ⟨w.heap.size, 1, none⟩)) rfl (by kernel_rfl) (by kernel_rfl) (by kernel_rfl) (fun _ _ _ h => h) (Or.inl ⟨by rfl, fun w hSw => by obtain ⟨hS1, hS2, hS3, hS4⟩ := hSw; go_simp⟩) (by assumption) ?_
    simp only [List.getElem_toArray, List.getElem_cons_succ, List.getElem_cons_zero, Act.put, List.setIfInBounds_toArray, List.set_cons_zero, List.set_cons_succ]
    refine wpAnyH_take (i := 5) (v := .int .i64 x) rfl (by kernel_rfl) (by kernel_rfl) (by kernel_rfl) (fun _ _ _ h => h) (Or.inl ⟨by rfl, fun w hSw => by obtain ⟨hS1, hS2, hS3, hS4⟩ := hSw; go_simp⟩) (by assumption) ?_
    simp only [List.getElem_toArray, List.getElem_cons_succ, List.getElem_cons_zero, Act.put, List.setIfInBounds_toArray, List.set_cons_zero, List.set_cons_succ]
    refine wpAnyH_take (i := 6) (v := .agg ([.int .i64 1, .int .i64 x, .int .i64 y, .slice ba bn bc, .int .i64 z, .slice fa fn fc]).toArray) rfl (by kernel_rfl) (by kernel_rfl) (by kernel_rfl) (fun _ _ _ h => h) (yieldsIf_load_mid (by rfl) _ _ rfl _ _ rfl _ _ (fun w hSw => hSw.2.2.2) hundO rfl infoOp) (by assumption) ?_
    simp only [List.getElem_toArray, List.getElem_cons_succ, List.getElem_cons_zero, Act.put, List.setIfInBounds_toArray, List.set_cons_zero, List.set_cons_succ]
    refine wpAnyH_ready (rs := [7, 12]) (by kernel_rfl) (by simp) (AllReadyH.cons rfl (fun K hK => ?_) (AllReadyH.cons rfl (fun K hK => ?_) AllReadyH.nil))
    · refine step_call1Q rfl 31 body_enter (.tmp 68) _ rfl rfl (unhide HBD _ ((Below.refl _ _).drew)) ?_
      rintro e w2 ⟨u2, rfl, hu2, hb2'⟩
      have hb2 : Below w1.heap.size w1 w2 := below_drew hb2'
      refine ⟨_, rfl, ?_⟩
      refine hK.out _ _ (unhide HS _ (Up.of_below hb2)) (fun hHeld2 => ?_)
      clear hK K
      simp only [List.getElem_toArray, List.getElem_cons_succ, List.getElem_cons_zero, Act.put, List.setIfInBounds_toArray, List.set_cons_zero, List.set_cons_succ]
      refine wpAnyH_ready (rs := [8, 12]) (by kernel_rfl) (by simp) (AllReadyH.cons rfl (fun K hK => ?_) (AllReadyH.cons rfl (fun K hK => ?_) AllReadyH.nil))
      · refine step_call3Q rfl 30 rwrite_enter (.tmp 65) (.tmp 67) (.tmp 69) _ rfl rfl rfl rfl (unhide HRR0 _ _ (hb2) (hu2.mono (Nat.zero_le _))) ?_
        rintro e w3 ⟨a3, n3, c3, a4, n4, c4, rfl, hI3, hI4, hb3'⟩
        have hb3 : Below w1.heap.size w1 w3 := below_then hb2 hb3'
        refine ⟨_, rfl, ?_⟩
        refine hK.out _ _ (unhide HS _ (Up.of_below hb3)) (fun hHeld3 => ?_)
        clear hK K
        simp only [List.getElem_toArray, List.getElem_cons_succ, List.getElem_cons_zero, Act.put, List.setIfInBounds_toArray, List.set_cons_zero, List.set_cons_succ]
        refine wpAnyH_take (i := 9) (v := .tuple #[.agg (rdC R2.n a3 n3 c3 a4 n4 c4 R2.rd R2.wt R2.fl).toArray, .int .i64 ff]) rfl (by kernel_rfl) (by kernel_rfl) (by kernel_rfl) (fun _ _ _ h => h) (Or.inl ⟨by rfl, fun w hSw => by obtain ⟨hS1, hS2, hS3, hS4⟩ := hSw; go_simp⟩) (by assumption) ?_
        simp only [List.getElem_toArray, List.getElem_cons_succ, List.getElem_cons_zero, Act.put, List.setIfInBounds_toArray, List.set_cons_zero, List.set_cons_succ]
        refine wpAnyH_take (i := 10) (v := .agg (rdC R2.n a3 n3 c3 a4 n4 c4 R2.rd R2.wt R2.fl).toArray) rfl (by kernel_rfl) (by kernel_rfl) (by kernel_rfl) (fun _ _ _ h => h) (Or.inl ⟨by rfl, fun w hSw => by obtain ⟨hS1, hS2, hS3, hS4⟩ := hSw; go_simp⟩) (by assumption) ?_
        simp only [List.getElem_toArray, List.getElem_cons_succ, List.getElem_cons_zero, Act.put, List.setIfInBounds_toArray, List.set_cons_zero, List.set_cons_succ]
        refine wpAnyH_take (i := 11) (v := .int .i64 ff) rfl (by kernel_rfl) (by kernel_rfl) (by kernel_rfl) (fun _ _ _ h => h) (Or.inl ⟨by rfl, fun w hSw => by obtain ⟨hS1, hS2, hS3, hS4⟩ := hSw; go_simp⟩) (by assumption) ?_
        simp only [List.getElem_toArray, List.getElem_cons_succ, List.getElem_cons_zero, Act.put, List.setIfInBounds_toArray, List.set_cons_zero, List.set_cons_succ]
        refine wpAnyH_ready (rs := [12]) (by kernel_rfl) (by simp) (AllReadyH.cons rfl (fun K hK => ?_) AllReadyH.nil)
        refine step_alloc36 rfl rfl ?_
        refine hK.out _ _ (unhide HS _ (Up.of_below (hb3.alloc hb3.size _))) (fun hHeld4 => ?_)
        clear hK K
        simp only [List.getElem_toArray, List.getElem_cons_succ, List.getElem_cons_zero, Act.put, List.setIfInBounds_toArray, List.set_cons_zero, List.set_cons_succ]
        refine wpAnyH_ready (rs := [13]) (by kernel_rfl) (by simp) (AllReadyH.cons rfl (fun K hK => ?_) AllReadyH.nil)
        refine step_storeRow rfl (.tmp 10) (.tmp 71) 36 rfl rfl rfl (Arr.new w3 z36 36).there info36 (rdC_one _ _ _ _ _ _ _ _ _ _) ?_
        have hX3 := (Arr.new w3 z36 36).setAll (ds := rdC R2.n a3 n3 c3 a4 n4 c4 R2.rd R2.wt R2.fl) rfl
        have hb5 : Below w3.heap.size w3 ((w3.alloc (.cells z36.toArray 36)).setCells w3.heap.size 0 (rdC R2.n a3 n3 c3 a4 n4 c4 R2.rd R2.wt R2.fl)) := ((Below.refl _ _).alloc (Nat.le_refl _) _).grown (grown_setCells _ _ _ _) (by simp) (fun j hj => by injection hj with hj; omega)
        have hb4 := below_then hb3 hb5
        refine hK.out _ _ (unhide HS _ (Up.of_below hb4)) (fun hHeld5 => ?_)
        clear hK K
        simp only [List.getElem_toArray, List.getElem_cons_succ, List.getElem_cons_zero, Act.put]
        have hI3' := hI3.below hb5
        have hI4' := hI4.below hb5
        generalize (w3.alloc (.cells z36.toArray 36)).setCells w3.heap.size 0 (rdC R2.n a3 n3 c3 a4 n4 c4 R2.rd R2.wt R2.fl) = w4 at *
        refine wpAnyH_take (i := 14) (v := .int .i64 ff) rfl (by kernel_rfl) (by kernel_rfl) (by kernel_rfl) (fun _ _ _ h => h) (Or.inl ⟨by rfl, fun w hSw => by obtain ⟨hS1, hS2, hS3, hS4⟩ := hSw; go_simp⟩) (by assumption) ?_
        simp only [List.getElem_toArray, List.getElem_cons_succ, List.getElem_cons_zero, Act.put, List.setIfInBounds_toArray, List.set_cons_zero, List.set_cons_succ]
        refine wpAnyH_done (by kernel_rfl) ?_ _
        go_wp2
        go_meet
        exact ⟨w3.heap.size, rfl, rfl, hide ⟨a3, n3, c3, a4, n4, c4, hI3', hI4', hX3, hb3.size, hb4⟩⟩
      · refine step_alloc36 rfl rfl ?_
        have hb0' : Below w2.heap.size w2 (w2.alloc (.cells z36.toArray 36)) := (Below.refl _ _).alloc (Nat.le_refl _) _
        have hb0 : Below w1.heap.size w1 (w2.alloc (.cells z36.toArray 36)) := hb2.alloc hb2.size _
        have hX0 : Arr (w2.alloc (.cells z36.toArray 36)) w2.heap.size 36 z36 := Arr.new w2 z36 36
        have hu3 := hu2.below hb0'
        refine hK.out _ _ (unhide HS _ (Up.of_below hb0)) (fun hHeld3 => ?_)
        clear hK K
        simp only [List.getElem_toArray, List.getElem_cons_succ, List.getElem_cons_zero, Act.put, List.setIfInBounds_toArray, List.set_cons_zero, List.set_cons_succ]
        generalize w2.alloc (.cells z36.toArray 36) = w0 at *
        refine wpAnyH_ready (rs := [8]) (by kernel_rfl) (by simp) (AllReadyH.cons rfl (fun K hK => ?_) AllReadyH.nil)
        refine step_call3Q rfl 30 rwrite_enter (.tmp 65) (.tmp 67) (.tmp 69) _ rfl rfl rfl rfl (unhide HRR0 _ _ (hb0) (hu3.mono (Nat.zero_le _))) ?_
        rintro e w3 ⟨a3, n3, c3, a4, n4, c4, rfl, hI3, hI4, hb3'⟩
        have hb3 : Below w1.heap.size w1 w3 := below_then hb0 hb3'
        have hX2 := hX0.below hb3'
        refine ⟨_, rfl, ?_⟩
        refine hK.out _ _ (unhide HS _ (Up.of_below hb3)) (fun hHeld4 => ?_)
        clear hK K
        simp only [List.getElem_toArray, List.getElem_cons_succ, List.getElem_cons_zero, Act.put, List.setIfInBounds_toArray, List.set_cons_zero, List.set_cons_succ]
        refine wpAnyH_take (i := 9) (v := .tuple #[.agg (rdC R2.n a3 n3 c3 a4 n4 c4 R2.rd R2.wt R2.fl).toArray, .int .i64 ff]) rfl (by kernel_rfl) (by kernel_rfl) (by kernel_rfl) (fun _ _ _ h => h) (Or.inl ⟨by rfl, fun w hSw => by obtain ⟨hS1, hS2, hS3, hS4⟩ := hSw; go_simp⟩) (by assumption) ?_
        simp only [List.getElem_toArray, List.getElem_cons_succ, List.getElem_cons_zero, Act.put, List.setIfInBounds_toArray, List.set_cons_zero, List.set_cons_succ]
        refine wpAnyH_take (i := 10) (v := .agg (rdC R2.n a3 n3 c3 a4 n4 c4 R2.rd R2.wt R2.fl).toArray) rfl (by kernel_rfl) (by kernel_rfl) (by kernel_rfl) (fun _ _ _ h => h) (Or.inl ⟨by rfl, fun w hSw => by obtain ⟨hS1, hS2, hS3, hS4⟩ := hSw; go_simp⟩) (by assumption) ?_
        simp only [List.getElem_toArray, List.getElem_cons_succ, List.getElem_cons_zero, Act.put, List.setIfInBounds_toArray, List.set_cons_zero, List.set_cons_succ]
        refine wpAnyH_take (i := 11) (v := .int .i64 ff) rfl (by kernel_rfl) (by kernel_rfl) (by kernel_rfl) (fun _ _ _ h => h) (Or.inl ⟨by rfl, fun w hSw => by obtain ⟨hS1, hS2, hS3, hS4⟩ := hSw; go_simp⟩) (by assumption) ?_
        simp only [List.getElem_toArray, List.getElem_cons_succ, List.getElem_cons_zero, Act.put, List.setIfInBounds_toArray, List.set_cons_zero, List.set_cons_succ]
        refine wpAnyH_ready (rs := [13]) (by kernel_rfl) (by simp) (AllReadyH.cons rfl (fun K hK => ?_) AllReadyH.nil)
        refine step_storeRow rfl (.tmp 10) (.tmp 71) 36 rfl rfl rfl hX2.there info36 (rdC_one _ _ _ _ _ _ _ _ _ _) ?_
        have hX3 := hX2.setAll (ds := rdC R2.n a3 n3 c3 a4 n4 c4 R2.rd R2.wt R2.fl) rfl
        have hg4 := grown_setCells w3 w2.heap.size 0 (rdC R2.n a3 n3 c3 a4 n4 c4 R2.rd R2.wt R2.fl)
        have hI3' := hI3.other hg4 hX2 (by decide) (by decide)
        have hI4' := hI4.other hg4 hX2 (by decide) (by decide)
        have hb4 := hb3.grown hg4 hb3.size (fun j hj => by injection hj with hj; have := hb2.size; omega)
        refine hK.out _ _ (unhide HS _ (Up.of_below hb4)) (fun hHeld5 => ?_)
        clear hK K
        simp only [List.getElem_toArray, List.getElem_cons_succ, List.getElem_cons_zero, Act.put]
        generalize w3.setCells w2.heap.size 0 (rdC R2.n a3 n3 c3 a4 n4 c4 R2.rd R2.wt R2.fl) = w4 at *
        refine wpAnyH_take (i := 14) (v := .int .i64 ff) rfl (by kernel_rfl) (by kernel_rfl) (by kernel_rfl) (fun _ _ _ h => h) (Or.inl ⟨by rfl, fun w hSw => by obtain ⟨hS1, hS2, hS3, hS4⟩ := hSw; go_simp⟩) (by assumption) ?_
        simp only [List.getElem_toArray, List.getElem_cons_succ, List.getElem_cons_zero, Act.put, List.setIfInBounds_toArray, List.set_cons_zero, List.set_cons_succ]
        refine wpAnyH_done (by kernel_rfl) ?_ _
        go_wp2
        go_meet
        exact ⟨w2.heap.size, rfl, rfl, hide ⟨a3, n3, c3, a4, n4, c4, hI3', hI4', hX3, hb2.size, hb4⟩⟩
    · refine step_alloc36 rfl rfl ?_
      have hb0 : Below w1.heap.size w1 (w1.drew.alloc (.cells z36.toArray 36)) := ((Below.refl _ _).drew).alloc (Nat.le_refl _) _
      have hX0 : Arr (w1.drew.alloc (.cells z36.toArray 36)) w1.heap.size 36 z36 := Arr.new w1.drew z36 36
      refine hK.out _ _ (unhide HS _ (Up.of_below hb0)) (fun hHeld2 => ?_)
      clear hK K
      simp only [List.getElem_toArray, List.getElem_cons_succ, List.getElem_cons_zero, Act.put, List.setIfInBounds_toArray, List.set_cons_zero, List.set_cons_succ]
      simp only [drew_size]
      generalize w1.drew.alloc (.cells z36.toArray 36) = w0 at *
      refine wpAnyH_ready (rs := [7]) (by kernel_rfl) (by simp) (AllReadyH.cons rfl (fun K hK => ?_) AllReadyH.nil)
      refine step_call1Q rfl 31 body_enter (.tmp 68) _ rfl rfl (unhide HBD _ (hb0)) ?_
      rintro e w2 ⟨u2, rfl, hu2, hb2'⟩
      have hb2 : Below w1.heap.size w1 w2 := below_then hb0 hb2'
      refine ⟨_, rfl, ?_⟩
      refine hK.out _ _ (unhide HS _ (Up.of_below hb2)) (fun hHeld3 => ?_)
      clear hK K
      simp only [List.getElem_toArray, List.getElem_cons_succ, List.getElem_cons_zero, Act.put, List.setIfInBounds_toArray, List.set_cons_zero, List.set_cons_succ]
      refine wpAnyH_ready (rs := [8]) (by kernel_rfl) (by simp) (AllReadyH.cons rfl (fun K hK => ?_) AllReadyH.nil)
      refine step_call3Q rfl 30 rwrite_enter (.tmp 65) (.tmp 67) (.tmp 69) _ rfl rfl rfl rfl (unhide HRR0 _ _ (hb2) (hu2.mono (Nat.zero_le _))) ?_
      rintro e w3 ⟨a3, n3, c3, a4, n4, c4, rfl, hI3, hI4, hb3'⟩
      have hb3 : Below w1.heap.size w1 w3 := below_then hb2 hb3'
      have hX2 := (hX0.below hb2').below hb3'
      refine ⟨_, rfl, ?_⟩
      refine hK.out _ _ (unhide HS _ (Up.of_below hb3)) (fun hHeld4 => ?_)
      clear hK K
      simp only [List.getElem_toArray, List.getElem_cons_succ, List.getElem_cons_zero, Act.put, List.setIfInBounds_toArray, List.set_cons_zero, List.set_cons_succ]
      refine wpAnyH_take (i := 9) (v := .tuple #[.agg (rdC R2.n a3 n3 c3 a4 n4 c4 R2.rd R2.wt R2.fl).toArray, .int .i64 ff]) rfl (by kernel_rfl) (by kernel_rfl) (by kernel_rfl) (fun _ _ _ h => h) (Or.inl ⟨by rfl, fun w hSw => by obtain ⟨hS1, hS2, hS3, hS4⟩ := hSw; go_simp⟩) (by assumption) ?_
      simp only [List.getElem_toArray, List.getElem_cons_succ, List.getElem_cons_zero, Act.put, List.setIfInBounds_toArray, List.set_cons_zero, List.set_cons_succ]
      refine wpAnyH_take (i := 10) (v := .agg (rdC R2.n a3 n3 c3 a4 n4 c4 R2.rd R2.wt R2.fl).toArray) rfl (by kernel_rfl) (by kernel_rfl) (by kernel_rfl) (fun _ _ _ h => h) (Or.inl ⟨by rfl, fun w hSw => by obtain ⟨hS1, hS2, hS3, hS4⟩ := hSw; go_simp⟩) (by assumption) ?_
      simp only [List.getElem_toArray, List.getElem_cons_succ, List.getElem_cons_zero, Act.put, List.setIfInBounds_toArray, List.set_cons_zero, List.set_cons_succ]
      refine wpAnyH_take (i := 11) (v := .int .i64 ff) rfl (by kernel_rfl) (by kernel_rfl) (by kernel_rfl) (fun _ _ _ h => h) (Or.inl ⟨by rfl, fun w hSw => by obtain ⟨hS1, hS2, hS3, hS4⟩ := hSw; go_simp⟩) (by assumption) ?_
      simp only [List.getElem_toArray, List.getElem_cons_succ, List.getElem_cons_zero, Act.put, List.setIfInBounds_toArray, List.set_cons_zero, List.set_cons_succ]
      refine wpAnyH_ready (rs := [13]) (by kernel_rfl) (by simp) (AllReadyH.cons rfl (fun K hK => ?_) AllReadyH.nil)
      refine step_storeRow rfl (.tmp 10) (.tmp 71) 36 rfl rfl rfl hX2.there info36 (rdC_one _ _ _ _ _ _ _ _ _ _) ?_
      have hX3 := hX2.setAll (ds := rdC R2.n a3 n3 c3 a4 n4 c4 R2.rd R2.wt R2.fl) rfl
      have hg4 := grown_setCells w3 w1.heap.size 0 (rdC R2.n a3 n3 c3 a4 n4 c4 R2.rd R2.wt R2.fl)
      have hI3' := hI3.other hg4 hX2 (by decide) (by decide)
      have hI4' := hI4.other hg4 hX2 (by decide) (by decide)
      have hb4 := hb3.grown hg4 hb3.size (fun j hj => by injection hj with hj; have := hb3.size; omega)
      refine hK.out _ _ (unhide HS _ (Up.of_below hb4)) (fun hHeld5 => ?_)
      clear hK K
      simp only [List.getElem_toArray, List.getElem_cons_succ, List.getElem_cons_zero, Act.put]
      generalize w3.setCells w1.heap.size 0 (rdC R2.n a3 n3 c3 a4 n4 c4 R2.rd R2.wt R2.fl) = w4 at *
      refine wpAnyH_take (i := 14) (v := .int .i64 ff) rfl (by kernel_rfl) (by kernel_rfl) (by kernel_rfl) (fun _ _ _ h => h) (Or.inl ⟨by rfl, fun w hSw => by obtain ⟨hS1, hS2, hS3, hS4⟩ := hSw; go_simp⟩) (by assumption) ?_
      simp only [List.getElem_toArray, List.getElem_cons_succ, List.getElem_cons_zero, Act.put, List.setIfInBounds_toArray, List.set_cons_zero, List.set_cons_succ]
      refine wpAnyH_done (by kernel_rfl) ?_ _
      go_wp2
      go_meet
      exact ⟨w1.heap.size, rfl, rfl, hide ⟨a3, n3, c3, a4, n4, c4, hI3', hI4', hX3, Nat.le_refl _, hb4⟩⟩
  case rest =>
    obtain ⟨g5, rfl, rfl, HX⟩ := hcut
    obtain ⟨a3, n3, c3, a4, n4, c4, hI3, hI4, hX3, hg5, hb4⟩ := HX.out
    clear HX
    have hgx : g5 ≠ g := by omega
    go_wp2
    refine wp_region_held_drew (S := fun W => W.cell? ⟨g, 0, none⟩ = some (.pointer (some ⟨p, 0, none⟩)) ∧ W.rangeAt g 1 (rdC R.n a1 n1 c1 a2 n2 c2 R.rd R.wt R.fl) ∧ W.cell? ⟨w.heap.size, 1, none⟩ = some (.int .i64 x) ∧ W.rangeAt w.heap.size 0 [.int .i64 1, .int .i64 x, .int .i64 y, .slice ba bn bc, .int .i64 z, .slice fa fn fc]) (by kernel_rfl) (unhide HS _ (Up.of_below hb4.drew)) (fun hHeld => ?_)
    refine wpAnyH_take (i := 0) (v := .pointer (some ⟨g, 0, none⟩)) rfl (by kernel_rfl) (by kernel_rfl) (by kernel_rfl) (fun _ _ _ h => h) (Or.inl ⟨by rfl, fun w hSw => by obtain ⟨hS1, hS2, hS3, hS4⟩ := hSw; go_simp⟩) (by assumption) ?_
    simp only [List.getElem_toArray, List.getElem_cons_zero, Act.put, List.setIfInBounds_toArray, List.set_cons_zero, List.set_cons_succ]
    refine wpAnyH_take (i := 1) (v := .pointer (some ⟨g, 0, none⟩)) rfl (by kernel_rfl) (by kernel_rfl) (by kernel_rfl) (fun _ _ _ h => h) (Or.inl ⟨by rfl, fun w hSw => by obtain ⟨hS1, hS2, hS3, hS4⟩ := hSw; go_simp⟩) (by assumption) ?_
    simp only [List.getElem_toArray, List.getElem_cons_succ, List.getElem_cons_zero, Act.put, List.setIfInBounds_toArray, List.set_cons_zero, List.set_cons_succ]
    refine wpAnyH_take (i := 2) (v := .pointer (some ⟨g, 0, none⟩)) rfl (by kernel_rfl) (by kernel_rfl) (by kernel_rfl) (fun _ _ _ h => h) (Or.inl ⟨by rfl, fun w hSw => by obtain ⟨hS1, hS2, hS3, hS4⟩ := hSw; go_simp⟩) (by assumption) ?_
    simp only [List.getElem_toArray, List.getElem_cons_succ, List.getElem_cons_zero, Act.put, List.setIfInBounds_toArray, List.set_cons_zero, List.set_cons_succ]
    refine wpAnyH_take (i := 3) (v := .pointer (some ⟨p, 0, none⟩)) rfl (by kernel_rfl) (by kernel_rfl) (by kernel_rfl) (fun _ _ _ h => h) (Or.inl ⟨by rfl, fun w hSw => by obtain ⟨hS1, hS2, hS3, hS4⟩ := hSw; go_simp⟩) (by assumption) ?_
    simp only [List.getElem_toArray, List.getElem_cons_succ, List.getElem_cons_zero, Act.put, List.setIfInBounds_toArray, List.set_cons_zero, List.set_cons_succ]
    refine wpAnyH_take (i := 4) (v := .pointer (some ⟨w.heap.size, 1, none⟩)) rfl (by kernel_rfl) (by kernel_rfl) (by kernel_rfl) (fun _ _ _ h => h) (Or.inl ⟨by rfl, fun w hSw => by obtain ⟨hS1, hS2, hS3, hS4⟩ := hSw; go_simp⟩) (by assumption) ?_
    simp only [List.getElem_toArray, List.getElem_cons_succ, List.getElem_cons_zero, Act.put, List.setIfInBounds_toArray, List.set_cons_zero, List.set_cons_succ]
    refine wpAnyH_take (i := 5) (v := .int .i64 x) rfl (by kernel_rfl) (by kernel_rfl) (by kernel_rfl) (fun _ _ _ h => h) (Or.inl ⟨by rfl, fun w hSw => by obtain ⟨hS1, hS2, hS3, hS4⟩ := hSw; go_simp⟩) (by assumption) ?_
    simp only [List.getElem_toArray, List.getElem_cons_succ, List.getElem_cons_zero, Act.put, List.setIfInBounds_toArray, List.set_cons_zero, List.set_cons_succ]
    refine wpAnyH_take (i := 6) (v := .agg ([.int .i64 1, .int .i64 x, .int .i64 y, .slice ba bn bc, .int .i64 z, .slice fa fn fc]).toArray) rfl (by kernel_rfl) (by kernel_rfl) (by kernel_rfl) (fun _ _ _ h => h) (yieldsIf_load_mid (by rfl) _ _ rfl _ _ rfl _ _ (fun w hSw => hSw.2.2.2) hundO rfl infoOp) (by assumption) ?_
    simp only [List.getElem_toArray, List.getElem_cons_succ, List.getElem_cons_zero, Act.put, List.setIfInBounds_toArray, List.set_cons_zero, List.set_cons_succ]
    refine wpAnyH_ready (rs := [7]) (by kernel_rfl) (by simp) (AllReadyH.cons rfl (fun K hK => ?_) AllReadyH.nil)
    refine step_call1Q rfl 31 body_enter (.tmp 79) _ rfl rfl (unhide HBD _ hb4.drew) ?_
    rintro e w4 ⟨u4, rfl, hu4, hb5'⟩
    have hb5' : Below wc.heap.size wc w4 := below_drew hb5'
    have hb5 : Below w1.heap.size w1 w4 := below_then hb4 hb5'
    have hsz5 := hb5.size
    refine ⟨_, rfl, ?_⟩
    refine hK.out _ _ (unhide HS _ (Up.of_below hb5)) (fun hHeld2 => ?_)
    clear hK K
    simp only [List.getElem_toArray, List.getElem_cons_succ, List.getElem_cons_zero, Act.put, List.setIfInBounds_toArray, List.set_cons_zero, List.set_cons_succ]
    refine wpAnyH_ready (rs := [8]) (by kernel_rfl) (by simp) (AllReadyH.cons rfl (fun K hK => ?_) AllReadyH.nil)
    refine step_call3Q rfl 17 write_enter (.tmp 76) (.tmp 78) (.tmp 80) _ rfl rfl rfl rfl (unhide HPR0 _ _ hb5 (hu4.mono hb4.size)) ?_
    rintro e w5 ⟨rfl, V', hD5, hV5, hU5'⟩
    have hU5 : Up (Ft p gl gm V) wc w5 := (Up.of_below hb5').trans (F' := Ft p gl gm V) hU5' (fun _ h => Or.inl h)
    have hU6 : Up (Ft p gl gm V) w1 w5 := (Up.of_below hb4).trans (F' := Ft p gl gm V) hU5 (fun _ h => Or.inl h)
    refine ⟨_, rfl, ?_⟩
    refine hK.out _ _ (unhide HS _ hU6) (fun hHeld3 => ?_)
    clear hK K
    simp only [List.getElem_toArray, List.getElem_cons_succ, List.getElem_cons_zero, Act.put, List.setIfInBounds_toArray, List.set_cons_zero, List.set_cons_succ]
    refine wpAnyH_take (i := 9) (v := .int .i64 ff) rfl (by kernel_rfl) (by kernel_rfl) (by kernel_rfl) (fun _ _ _ h => h) (Or.inl ⟨by rfl, fun w hSw => by obtain ⟨hS1, hS2, hS3, hS4⟩ := hSw; go_simp⟩) (by assumption) ?_
    simp only [List.getElem_toArray, List.getElem_cons_succ, List.getElem_cons_zero, Act.put, List.setIfInBounds_toArray, List.set_cons_zero, List.set_cons_succ]
    refine wpAnyH_done (by kernel_rfl) ?_ _
    have hgF5 : ¬ Ft p gl gm V g5 := fun hF => by have := unhide HLT _ hF; omega
    have hX5 := hX3.up hU5 hgF5
    have hG5 := HG1.out.up hU6 hgF
    have hTm4 := unhide HTM _ hb4
    have hL5 := hI3.tm hU5 hTm4
    have hW5 := hI4.tm hU5 hTm4
    have hgl5 := hG5.lt
    have hth : w5.there g 1 (rdC R2.n a3 n3 c3 a4 n4 c4 R2.rd R2.wt R2.fl).length := fun j hj => by
      have hj6 : j < 6 := hj
      refine ⟨?_, hG5.frozen _⟩
      rw [hG5.cell, List.getElem?_eq_getElem (by show 1 + j < 7; omega)]
      rfl
    have hone := rdC_one R2.n a3 n3 c3 a4 n4 c4 R2.rd R2.wt R2.fl
    have hrg := hX5.range
    have hkg := grown_setCells w5 g 1 (rdC R2.n a3 n3 c3 a4 n4 c4 R2.rd R2.wt R2.fl)
    have HFIN : Hid (Pr (w5.setCells g 1 (rdC R2.n a3 n3 c3 a4 n4 c4 R2.rd R2.wt R2.fl)) g p gl gm V' D2 R2 ∧ (∀ b, Ft p gl gm V' b → Ft p gl gm V b ∨ w.heap.size ≤ b) ∧ Up (Fp g p gl gm V) w (w5.setCells g 1 (rdC R2.n a3 n3 c3 a4 n4 c4 R2.rd R2.wt R2.fl))) := by
      refine ⟨⟨⟨a3, n3, c3, a4, n4, c4, hG5.setTail rfl, hL5.other hkg hG5 (by decide) (by decide), hW5.other hkg hG5 (by decide) (by decide)⟩, hD5.up (Up.of_grown (F := fun b => b = g) hkg (fun b hb => by injection hb with hb; exact hb.symm)) (fun b hb e => (hV5 b hb).elim (fun h => hgF (e ▸ h)) (fun h => by have := hsz5; omega)), HRT.out⟩, fun b hb => (hV5 b hb).imp id (fun h => by have := hsz5; have := hb1.size; omega), ?_⟩
      refine ((Up.of_below (F := Fp g p gl gm V) hb1).trans (hU6.mono (F' := Fp g p gl gm V) (fun b hb => Or.inr hb)) (fun _ h => Or.inl h)).trans (F' := Fp g p gl gm V) (Up.of_grown hkg (fun b hb => ?_)) (fun _ h => Or.inl h)
      injection hb with hb
      exact Or.inl hb.symm
    clear hL5 hW5 hG5 hkg HRT hX3 hI3 hI4 hD5 hU5 hU6 hb4 HG1 HL1 HW1 HS HRR0 HPR0 HBD
    have hund2 := Try.underlying36
    generalize hw6 : w5.setCells g 1 (rdC R2.n a3 n3 c3 a4 n4 c4 R2.rd R2.wt R2.fl) = w6 at *
    go_wp2_with (first
      | (refine wpList_load_mid rfl 36 (.tmp 10) rfl g5 0 rfl (rdC R2.n a3 n3 c3 a4 n4 c4 R2.rd R2.wt R2.fl) _ hrg hund2 rfl info36 ?_)
      | (refine wpList_storeRow rfl (.tmp 85) (.tmp 83) 36 rfl rfl rfl hth info36 hone ?_; rw [hw6]))
    go_ret
    exact ⟨rfl, V', HFIN.out.1, HFIN.out.2.1, HFIN.out.2.2⟩
end Go.Proofs.Ytfgjhlnaaopdeaa
