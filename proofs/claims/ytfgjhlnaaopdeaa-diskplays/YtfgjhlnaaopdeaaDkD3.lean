/- A disk and the document's beside it: a Crash of both. -/
import Derived.Test.YtfgjhlnaaopdeaaDkRC
import Derived.Test.YtfgjhlnaaopdeaaDkD2
import Derived.Test.YtfgjhlnaaopdeaaDkO
namespace Go.Proofs.Ytfgjhlnaaopdeaa
open Go.RowKit Go.Maps

theorem crash_enter (v u : Value) (W : World) : (callFunc 22 #[v, u]).run Try.prog W = .ok (.enter 22 #[v, u]) W := by kernel_rfl
theorem rcrash_enter (v u : Value) (W : World) : (callFunc 33 #[v, u]).run Try.prog W = .ok (.enter 33 #[v, u]) W := by kernel_rfl
theorem fin_crash {w1 w2 W : World} {g p gl gm : Nat} {V : Nat → Value} {D : AD} {R : RD} (h : Pr w1 g p gl gm V D R) {a3 : Option Addr} {n3 c3 : Nat} {ks : List Int} {vf : Value} {xs : List Int} (hr : Rises R.wr R.wr.length ks) (hI : IsAts w2 (.slice a3 n3 c3) (crashL R.la R.wr ks (fun k => xs.getD k 0) ks.length)) (hb2 : Below w1.heap.size w1 w2) (hwl : ∀ i, (D.wr i).length ≤ 68719476736) (hi : IsI w1 vf xs) (hig : ∀ b, Value.inBlock vf b → ¬ Fp g p gl gm V b)
    (hW : Below (w2.setCells g 1 (rdC R.n a3 n3 c3 none 0 0 R.rd R.wt R.fl)).heap.size (w2.setCells g 1 (rdC R.n a3 n3 c3 none 0 0 R.rd R.wt R.fl)) W) :
    Calls Try.prog 22 #[.pointer (some ⟨p, 0, none⟩), vf] W fun e w' => e = .returned (.tuple #[]) ∧ ∃ gm', Pr w' g p gl gm' (fun _ => .slice none 0 0) (D.settle fun k => xs.getD k 0) (R.crash D.keys fun k => xs.getD k 0) ∧ w1.heap.size ≤ gm' ∧ Up (Fp g p gl gm V) w1 w' := by
  have hgF := h.gF
  obtain ⟨hD3, hG3, hI3, _, hU3⟩ := pr_stored h hb2 (ds := rdC R.n a3 n3 c3 none 0 0 R.rd R.wt R.fl) rfl
  have hgl : ∀ b, Value.inBlock vf b → b ≠ gl := fun b hb e => hig b hb (Or.inr (Or.inr (Or.inl e)))
  have hiW : IsI W vf xs := (hi.up hU3 hig).below hW
  have hsz := hW.size
  have hks := Rises.keys h.rel hr
  rw [hks, List.length_map, crashL_keys _ _ (Nat.le_refl _)] at hI
  refine (crash_calls (hD3.below hW) hwl hiW hgl).mono ?_
  rintro e w' ⟨rfl, gm', hgm, hd, hu⟩
  have hF2 : ∀ b, (b = p ∨ b = gl) → Ft p gl gm V b := fun b hb => hb.elim Or.inl (fun hb => Or.inr (Or.inl hb))
  have hnot : ¬ (g = p ∨ g = gl) := fun e => hgF (hF2 g e)
  have hs := hU3.size
  have hUU : Up (Fp g p gl gm V) w1 w' := (hU3.then_below hW).trans (F' := Fp g p gl gm V) (hu.mono (fun b hb => Or.inr (hF2 b hb))) (fun _ h => Or.inl h)
  exact ⟨rfl, gm', ⟨⟨a3, n3, c3, none, 0, 0, (hG3.below hW).up hu hnot, ((hI3 _ _ hI).below hW).tm hu (fun b hb => (hD3.below hW).tm b (hF2 b hb)), IsAts.nil w'⟩, hd, h.rel.crash _⟩, by omega, hUU⟩
set_option maxRecDepth 100000 in
set_option maxHeartbeats 4000000 in
theorem does_crash {w : World} {g p gl gm : Nat} {V : Nat → Value} {D : AD} {R : RD} (h : Pr w g p gl gm V D R) (x y z : Int) (vb vf : Value) {xs : List Int} (hv1 : ∃ a n c, vb = .slice a n c) (hi : IsI w vf xs) (hig : ∀ b, Value.inBlock vf b → ¬ Fp g p gl gm V b) (hwl : ∀ i, (D.wr i).length ≤ 68719476736) (hl : R.la.length + R.wr.length ≤ 549755813888) :
    Calls Try.prog 10 #[.pointer (some ⟨g, 0, none⟩), .agg #[.int .i64 3, .int .i64 x, .int .i64 y, vb, .int .i64 z, vf]] w fun e w' => e = .returned (.bool true) ∧ ∃ gm', Pr w' g p gl gm' (fun _ => .slice none 0 0) (D.settle fun k => xs.getD k 0) (R.crash D.keys fun k => xs.getD k 0) ∧ w.heap.size ≤ gm' ∧ Up (Fp g p gl gm V) w w' := by
  obtain ⟨ba, bn, bc, rfl⟩ := hv1
  obtain ⟨fa, fc, hvf⟩ : ∃ a c, vf = .slice a xs.length c := by obtain ⟨_, a, c, hv, _⟩ := hi; exact ⟨a, c, hv⟩
  subst hvf
  have HI0 := hide hi
  have HIG := hide hig
  clear hi hig
  generalize hfn : xs.length = fn at *
  clear hfn
  have hb1 := (Below.refl w.heap.size w).alloc (Nat.le_refl _) (.cells #[.int .i64 3, .int .i64 x, .int .i64 y, .slice ba bn bc, .int .i64 z, .slice fa fn fc] 30)
  have hP1 := h.below hb1
  have hO1 : Arr (w.alloc (.cells #[.int .i64 3, .int .i64 x, .int .i64 y, .slice ba bn bc, .int .i64 z, .slice fa fn fc] 30)) w.heap.size 30 [.int .i64 3, .int .i64 x, .int .i64 y, .slice ba bn bc, .int .i64 z, .slice fa fn fc] := Arr.new w _ _
  obtain ⟨a1, n1, c1, a2, n2, c2, hG1, hL1, hW1⟩ := hP1.blk
  have hgo : w.heap.size ≠ g := fun e => by
    obtain ⟨_, _, _, _, _, _, hG, _⟩ := h.blk
    have := hG.lt
    omega
  have hOF : ¬ Ft p gl gm V w.heap.size := fun hF => by have := h.dk.lt hF; omega
  have HP1 := hide hP1
  have HL1 := hide hL1
  have HW1 := hide hW1
  have HG1 := hide hG1
  have HO1 := hide hO1
  have HB1 := hide hb1
  have HWL := hide hwl
  have HB := hide hl
  clear h hP1 hG1 hL1 hW1 hb1 hwl hl hO1
  go_enter Try.func10, Try.ntmps10
  go_wp2_with fail
  generalize w.alloc (.cells #[.int .i64 3, .int .i64 x, .int .i64 y, .slice ba bn bc, .int .i64 z, .slice fa fn fc] 30) = w1 at *
  have hund := Try.underlying36
  have hrg : w1.drew.rangeAt g 1 (rdC R.n a1 n1 c1 a2 n2 c2 R.rd R.wt R.fl) := (HG1.out.drew).tailRange
  have HI1 := hide (HI0.out.below HB1.out)
  have HRC : Hid (∀ W, Below w1.heap.size w1 W → Calls Try.prog 33 #[.agg (rdC R.n a1 n1 c1 a2 n2 c2 R.rd R.wt R.fl).toArray, .slice fa fn fc] W fun e w' => ∃ a3 n3 c3 ks, e = .returned (.agg (rdC R.n a3 n3 c3 none 0 0 R.rd R.wt R.fl).toArray) ∧ Rises R.wr R.wr.length ks ∧ IsAts w' (.slice a3 n3 c3) (crashL R.la R.wr ks (fun k => xs.getD k 0) ks.length) ∧ Below w1.heap.size w1 w') := fun W hW =>
    (rcrash_calls (HL1.out.below hW) (HW1.out.below hW) (HI1.out.below hW) HB.out).mono fun e w' ⟨a3, n3, c3, ks, q1, q2, q3, q4⟩ => ⟨a3, n3, c3, ks, q1, q2, q3, hW.trans (q4.mono hW.size)⟩
  have HSO : Hid (∀ W : World, W.heap[w.heap.size]? = w1.heap[w.heap.size]? → W.cell? ⟨w.heap.size, 5, none⟩ = some (.slice fa fn fc)) := fun W hW => (World.cell?_of_block (a := ⟨w.heap.size, 5, none⟩) hW).trans (HO1.out.cell_of (j := 5) rfl)
  have holt := HO1.out.lt
  refine wp_region_held_drew (S := fun W => W.cell? ⟨w.heap.size, 5, none⟩ = some (.slice fa fn fc)) (by kernel_rfl) (unhide HSO _ rfl) (fun hHeld => ?_)
  refine wpAnyH_take (i := 0) (v := .pointer (some ⟨g, 0, none⟩)) rfl (by kernel_rfl) (by kernel_rfl) (by kernel_rfl) (fun _ _ _ h => h) (Or.inl ⟨by rfl, fun w hSw => by go_simp⟩) (by assumption) ?_
  simp only [List.getElem_toArray, List.getElem_cons_zero, Act.put, List.setIfInBounds_toArray, List.set_cons_zero, List.set_cons_succ]
  refine wpAnyH_take (i := 1) (v := .pointer (some ⟨g, 0, none⟩)) rfl (by kernel_rfl) (by kernel_rfl) (by kernel_rfl) (fun _ _ _ h => h) (Or.inl ⟨by rfl, fun w hSw => by go_simp⟩) (by assumption) ?_
  simp only [List.getElem_toArray, List.getElem_cons_succ, List.getElem_cons_zero, Act.put, List.setIfInBounds_toArray, List.set_cons_zero, List.set_cons_succ]
  refine wpAnyH_take (i := 2) (v := .pointer (some ⟨g, 0, none⟩)) rfl (by kernel_rfl) (by kernel_rfl) (by kernel_rfl) (fun _ _ _ h => h) (Or.inl ⟨by rfl, fun w hSw => by go_simp⟩) (by assumption) ?_
  simp only [List.getElem_toArray, List.getElem_cons_succ, List.getElem_cons_zero, Act.put, List.setIfInBounds_toArray, List.set_cons_zero, List.set_cons_succ]
  refine wpAnyH_take (i := 3) (v := .pointer (some ⟨g, 1, none⟩)) rfl (by kernel_rfl) (by kernel_rfl) (by kernel_rfl) (fun _ _ _ h => h) (Or.inl ⟨by rfl, fun w hSw => by go_simp⟩) (by assumption) ?_
  simp only [List.getElem_toArray, List.getElem_cons_succ, List.getElem_cons_zero, Act.put, List.setIfInBounds_toArray, List.set_cons_zero, List.set_cons_succ]
  refine wpAnyH_take (i := 5) (v := .pointer (some ⟨w.heap.size, 5, none⟩)) rfl (by kernel_rfl) (by kernel_rfl) (by kernel_rfl) (fun _ _ _ h => h) (Or.inl ⟨by rfl, fun w hSw => by go_simp⟩) (by assumption) ?_
  simp only [List.getElem_toArray, List.getElem_cons_succ, List.getElem_cons_zero, Act.put, List.setIfInBounds_toArray, List.set_cons_zero, List.set_cons_succ]
  refine wpAnyH_take (i := 6) (v := .slice fa fn fc) rfl (by kernel_rfl) (by kernel_rfl) (by kernel_rfl) (fun _ _ _ h => h) (Or.inl ⟨by rfl, fun w hSw => by go_simp⟩) (by assumption) ?_
  simp only [List.getElem_toArray, List.getElem_cons_succ, List.getElem_cons_zero, Act.put, List.setIfInBounds_toArray, List.set_cons_zero, List.set_cons_succ]
  refine wpAnyH_ready (rs := [4]) (by kernel_rfl) (by simp) (AllReadyH.cons rfl (fun K hK => ?_) AllReadyH.nil)
  refine step_loadGd (by rfl) (.tmp 109) 36 rfl rfl hrg hund rfl info36 ?_
  refine hK.out _ _ (hHeld) (fun hHeld1 => ?_)
  clear hK K
  simp only [List.getElem_toArray, List.getElem_cons_succ, List.getElem_cons_zero, Act.put, List.setIfInBounds_toArray, List.set_cons_zero, List.set_cons_succ]
  refine wpAnyH_ready (rs := [7]) (by kernel_rfl) (by simp) (AllReadyH.cons rfl (fun K hK => ?_) AllReadyH.nil)
  refine step_call2Q rfl 33 rcrash_enter (.tmp 110) (.tmp 112) _ rfl rfl rfl (unhide HRC _ (Below.refl _ _).drew) ?_
  rintro e w2 ⟨a3, n3, c3, ks, rfl, hris, hI2, hb2⟩
  obtain ⟨_, hG3, _, hth, _⟩ := pr_stored HP1.out hb2 (ds := rdC R.n a3 n3 c3 none 0 0 R.rd R.wt R.fl) rfl
  have HFC : Hid (∀ W, Below (w2.setCells g 1 (rdC R.n a3 n3 c3 none 0 0 R.rd R.wt R.fl)).heap.size (w2.setCells g 1 (rdC R.n a3 n3 c3 none 0 0 R.rd R.wt R.fl)) W → _) := fun W hW => fin_crash HP1.out hris hI2 hb2 HWL.out HI1.out HIG.out hW
  have hc2 := hG3.cell_of (j := 0) rfl
  have hone := rdC_one R.n a3 n3 c3 none 0 0 R.rd R.wt R.fl
  have hbo := (hb2.block w.heap.size holt)
  have hg3 := (grown_setCells w2 g 1 (rdC R.n a3 n3 c3 none 0 0 R.rd R.wt R.fl)).block w.heap.size (Nat.lt_of_lt_of_le holt hb2.size) (fun e => hgo (Option.some.inj e))
  refine ⟨_, rfl, ?_⟩
  refine hK.out _ _ (unhide HSO _ hbo) (fun hHeld2 => ?_)
  clear hK K
  simp only [List.getElem_toArray, List.getElem_cons_succ, List.getElem_cons_zero, Act.put, List.setIfInBounds_toArray, List.set_cons_zero, List.set_cons_succ]
  refine wpAnyH_take (i := 8) (v := .pointer (some ⟨g, 0, none⟩)) rfl (by kernel_rfl) (by kernel_rfl) (by kernel_rfl) (fun _ _ _ h => h) (Or.inl ⟨by rfl, fun w hSw => by go_simp⟩) (by assumption) ?_
  simp only [List.getElem_toArray, List.getElem_cons_succ, List.getElem_cons_zero, Act.put, List.setIfInBounds_toArray, List.set_cons_zero, List.set_cons_succ]
  refine wpAnyH_take (i := 9) (v := .pointer (some ⟨g, 1, none⟩)) rfl (by kernel_rfl) (by kernel_rfl) (by kernel_rfl) (fun _ _ _ h => h) (Or.inl ⟨by rfl, fun w hSw => by go_simp⟩) (by assumption) ?_
  simp only [List.getElem_toArray, List.getElem_cons_succ, List.getElem_cons_zero, Act.put, List.setIfInBounds_toArray, List.set_cons_zero, List.set_cons_succ]
  refine wpAnyH_ready (rs := [10]) (by kernel_rfl) (by simp) (AllReadyH.cons rfl (fun K hK => ?_) AllReadyH.nil)
  refine step_storeRow rfl (.tmp 115) (.tmp 113) 36 rfl rfl rfl hth info36 hone ?_
  refine hK.out _ _ (unhide HSO _ (hg3.trans hbo)) (fun hHeld3 => ?_)
  clear hK K
  simp only [List.getElem_toArray, List.getElem_cons_succ, List.getElem_cons_zero, Act.put]
  refine wpAnyH_done (by kernel_rfl) ?_ _
  generalize hw3 : w2.setCells g 1 (rdC R.n a3 n3 c3 none 0 0 R.rd R.wt R.fl) = w3 at *
  have HW3 := hide hw3
  clear hw3 hHeld hHeld1 hHeld2 hHeld3
  go_wp2_with fail
  refine wp_region_held_drew (S := fun W => W.cell? ⟨g, 0, none⟩ = some (.pointer (some ⟨p, 0, none⟩)) ∧ W.cell? ⟨w.heap.size, 5, none⟩ = some (.slice fa fn fc)) (by kernel_rfl) (⟨hc2, unhide HSO _ (hg3.trans hbo)⟩) (fun hHeld => ?_)
  refine wpAnyH_take (i := 0) (v := .pointer (some ⟨g, 0, none⟩)) rfl (by kernel_rfl) (by kernel_rfl) (by kernel_rfl) (fun _ _ _ h => h) (Or.inl ⟨by rfl, fun w hSw => by obtain ⟨hS1, hS2⟩ := hSw; go_simp⟩) (by assumption) ?_
  simp only [List.getElem_toArray, List.getElem_cons_zero, Act.put, List.setIfInBounds_toArray, List.set_cons_zero, List.set_cons_succ]
  refine wpAnyH_take (i := 1) (v := .pointer (some ⟨g, 0, none⟩)) rfl (by kernel_rfl) (by kernel_rfl) (by kernel_rfl) (fun _ _ _ h => h) (Or.inl ⟨by rfl, fun w hSw => by obtain ⟨hS1, hS2⟩ := hSw; go_simp⟩) (by assumption) ?_
  simp only [List.getElem_toArray, List.getElem_cons_succ, List.getElem_cons_zero, Act.put, List.setIfInBounds_toArray, List.set_cons_zero, List.set_cons_succ]
  refine wpAnyH_take (i := 2) (v := .pointer (some ⟨g, 0, none⟩)) rfl (by kernel_rfl) (by kernel_rfl) (by kernel_rfl) (fun _ _ _ h => h) (Or.inl ⟨by rfl, fun w hSw => by obtain ⟨hS1, hS2⟩ := hSw; go_simp⟩) (by assumption) ?_
  simp only [List.getElem_toArray, List.getElem_cons_succ, List.getElem_cons_zero, Act.put, List.setIfInBounds_toArray, List.set_cons_zero, List.set_cons_succ]
  refine wpAnyH_take (i := 3) (v := .pointer (some ⟨p, 0, none⟩)) rfl (by kernel_rfl) (by kernel_rfl) (by kernel_rfl) (fun _ _ _ h => h) (Or.inl ⟨by rfl, fun w hSw => by obtain ⟨hS1, hS2⟩ := hSw; go_simp⟩) (by assumption) ?_
  simp only [List.getElem_toArray, List.getElem_cons_succ, List.getElem_cons_zero, Act.put, List.setIfInBounds_toArray, List.set_cons_zero, List.set_cons_succ]
  refine wpAnyH_take (i := 4) (v := .pointer (some ⟨w.heap.size, 5, none⟩)) rfl (by kernel_rfl) (by kernel_rfl) (by kernel_rfl) (fun _ _ _ h => h) (Or.inl ⟨by rfl, fun w hSw => by obtain ⟨hS1, hS2⟩ := hSw; go_simp⟩) (by assumption) ?_
  simp only [List.getElem_toArray, List.getElem_cons_succ, List.getElem_cons_zero, Act.put, List.setIfInBounds_toArray, List.set_cons_zero, List.set_cons_succ]
  refine wpAnyH_take (i := 5) (v := .slice fa fn fc) rfl (by kernel_rfl) (by kernel_rfl) (by kernel_rfl) (fun _ _ _ h => h) (Or.inl ⟨by rfl, fun w hSw => by obtain ⟨hS1, hS2⟩ := hSw; go_simp⟩) (by assumption) ?_
  simp only [List.getElem_toArray, List.getElem_cons_succ, List.getElem_cons_zero, Act.put, List.setIfInBounds_toArray, List.set_cons_zero, List.set_cons_succ]
  refine wpAnyH_ready (rs := [6]) (by kernel_rfl) (by simp) (AllReadyH.cons rfl (fun K hK => ?_) AllReadyH.nil)
  refine step_call2Q rfl 22 crash_enter (.tmp 119) (.tmp 121) _ rfl rfl rfl (unhide HFC _ (Below.refl _ _).drew) ?_
  rintro e w4 ⟨rfl, gm', h4, h5, h6⟩
  refine ⟨_, rfl, ?_⟩
  refine hK.out _ _ (⟨(by obtain ⟨_, _, _, _, _, _, hG4, _⟩ := h4.blk; exact hG4.cell_of (j := 0) rfl), unhide HSO _ (h6.block w.heap.size holt (fun hF => hF.elim hgo (fun hF => hOF hF)))⟩) (fun hHeld1 => ?_)
  clear hK K
  simp only [List.getElem_toArray, List.getElem_cons_succ, List.getElem_cons_zero, Act.put, List.setIfInBounds_toArray, List.set_cons_zero, List.set_cons_succ]
  refine wpAnyH_done (by kernel_rfl) ?_ _
  have H4 : Hid (∃ gm', Pr w4 g p gl gm' (fun _ => .slice none 0 0) (D.settle fun k => xs.getD k 0) (R.crash D.keys fun k => xs.getD k 0) ∧ w.heap.size ≤ gm' ∧ Up (Fp g p gl gm V) w w4) := ⟨gm', h4, by have := HB1.out.size; omega, (Up.of_below (F := Fp g p gl gm V) HB1.out).trans (F' := Fp g p gl gm V) h6 (fun _ h => Or.inl h)⟩
  clear h4 h5 h6 hHeld hHeld1
  go_wp2
  go_ret
  exact ⟨rfl, H4.out⟩
end Go.Proofs.Ytfgjhlnaaopdeaa
