/- What Step answers. -/
import Derived.Test.YtbgknbjpbobebaaDoorRtW
namespace Go.Proofs.YtbgknbjpbobebaaDoor
open Go.RowKit Go.Maps

/-- A writer beside its disk. -/
structure Rw (w0 W : World) (p : Nat) (D : AD) (pw : Nat) (s : SL) (d : Int) : Prop where
  sn : Sn w0 W p D
  wr : Arr W pw 104 (rwV p s d)
  lo : w0.heap.size ≤ pw
theorem Rw.below {w0 W W' : World} {p : Nat} {D : AD} {pw : Nat} {s : SL} {d : Int} (h : Rw w0 W p D pw s d) (hb : Below W.heap.size W W') : Rw w0 W' p D pw s d := ⟨h.sn.below hb, h.wr.below hb, h.lo⟩
theorem Rw.cells {w0 W : World} {p : Nat} {D : AD} {pw : Nat} {s : SL} {d : Int} (hs : s.Ok) (h : Rw w0 W p D pw s d) : W.cell? ⟨pw, 0, none⟩ = some (.pointer (some ⟨p, 0, none⟩)) ∧ W.cell? ⟨pw, 106, none⟩ = some (.int .i64 d) ∧ W.rangeAt pw 1 (slV s) := ⟨h.wr.cell 0, (h.wr.cell 106).trans (rwV_d hs p d), rwV_s h.wr⟩
theorem Rw.set {w0 W : World} {p : Nat} {D : AD} {pw : Nat} {s : SL} {d : Int} (hs : s.Ok) (h : Rw w0 W p D pw s d) (e : Int) : Rw w0 (W.setCell ⟨pw, 106, none⟩ (.int .i64 e)) p D pw s e ∧ Cj TWr W (W.setCell ⟨pw, 106, none⟩ (.int .i64 e)) := by
  refine ⟨⟨h.sn.set (sgrown_set _ _ _ _) h.wr tdk_wr h.lo, ?_, h.lo⟩, Cj.of_grown (sgrown_set _ _ _ _) h.wr (Or.inr rfl)⟩
  have := sarr_set (j := 106) h.wr (.int .i64 e)
  rw [rwV_set hs] at this
  exact this
theorem cjd_wr {w w' : World} (h : Cj TDk w w') : Cj TWr w w' := h.mono (fun _ h => Or.inl h)
set_option maxRecDepth 100000 in
set_option maxHeartbeats 1000000 in
theorem wstep_two {w0 w : World} {p : Nat} {D : AD} {pw : Nat} {s : SL} (hs : s.Ok) (h : Rw w0 w p D pw s 2) : Calls Tryd.prog 23 #[.pointer (some ⟨pw, 0, none⟩)] w fun e w' => e = .returned (.tuple #[.bool true, .int .i64 0]) ∧ w' = w := by
  obtain ⟨c0, c2, _⟩ := h.cells hs
  clear h hs
  go_enter Tryd.func23, Tryd.ntmps23
  go_wp2
  go_ret2
  exact ⟨rfl, rfl⟩
set_option maxRecDepth 100000 in
set_option maxHeartbeats 2000000 in
theorem wstep_one {w0 w : World} {p : Nat} {D : AD} {pw : Nat} {s : SL} (hs : s.Ok) (h : Rw w0 w p D pw s 1) (hwl : ∀ i, (D.wr i).length ≤ 68719476736) (hf0 : 0 ≤ D.fl) (hf1 : D.fl ≤ 1152921504606846976) :
    Calls Tryd.prog 23 #[.pointer (some ⟨pw, 0, none⟩)] w fun e w' => e = .returned (.tuple #[.bool true, .int .i64 0]) ∧ Rw w0 w' p D.flush pw s 2 ∧ Cj TWr w w' := by
  obtain ⟨c0, c2, _⟩ := h.cells hs
  have HFL := hide (sn_flush h.sn hwl hf0 hf1)
  have HX : Hid (∀ w2, Sn w0 w2 p D.flush → Cj TDk w w2 → Rw w0 w2 p D.flush pw s 1) := hide (fun w2 h1 h2 => ⟨h1, h.wr.cj h2 tdk_wr, h.lo⟩)
  have HOK := hide hs
  clear h hs hwl
  go_enter Tryd.func23, Tryd.ntmps23
  go_wp2_with fail
  refine (unhide HFL).mono ?_
  rintro e w2 ⟨rfl, hS2, hC2⟩
  have hR2 := unhide HX w2 hS2 hC2
  obtain ⟨d0, d2, _⟩ := hR2.cells HOK.out
  have hfr := hR2.wr.frozen 106
  obtain ⟨r3, k3⟩ := hR2.set HOK.out 2
  obtain ⟨e0, e2, _⟩ := r3.cells HOK.out
  have HR3 := hide r3
  have HC3 := hide ((cjd_wr hC2).trans k3)
  clear HFL HX hS2 hC2 hR2 c0 c2 r3 k3
  go_wp2
  go_ret2
  exact ⟨rfl, HR3.out, HC3.out⟩
set_option maxRecDepth 100000 in
set_option maxHeartbeats 2000000 in
theorem wstep_zero {w0 w : World} {p : Nat} {D : AD} {pw i : Nat} {s : SL} (hs : s.Ok) (hm : s.May) (ht : Tab w0) (h : Rw w0 w p D pw s 0) (hi : s.t % 2 = (i : Int)) (hil : i < D.la.length) (hw0 : 0 ≤ D.wt) (hw1 : D.wt ≤ 1152921504606846976) (hwl : (D.wr i).length ≤ 68719476736) :
    Calls Tryd.prog 23 #[.pointer (some ⟨pw, 0, none⟩)] w fun e w' => e = .returned (.tuple #[.bool false, .int .i64 0]) ∧ Rw w0 w' p (D.write i (slL s)) pw s 1 ∧ Cj TWr w w' := by
  obtain ⟨c0, c2, hrg⟩ := h.cells hs
  have hsec : IsSec (slL s) := ⟨slL_len hs, slL_by hs⟩
  have HEN := hide (senc_good hs hm (ht.below h.sn.be))
  have HPL : Hid (∀ W, Calls Tryd.prog 51 #[.agg (slV s).toArray] W fun e w' => e = .returned (.int .i64 (i : Int)) ∧ Below W.heap.size W w') := hide (fun W => by have := splace_calls (w := W) hm.t.1; rw [hi] at this; exact this)
  have HWR : Hid (∀ W B u, Below w.heap.size w W → Own8 W B u (slL s) → Calls Tryd.prog 14 #[.pointer (some ⟨p, 0, none⟩), .int .i64 (i : Int), u] W fun e w' => e = .returned (.int .i64 0) ∧ Rw w0 w' p (D.write i (slL s)) pw s 0 ∧ Cj TDk W w') := hide (fun W B u hW ho => (sn_write (h.sn.below hW) hil hw0 hw1 hwl hsec ho).mono fun e w' ⟨h1, h2, h3⟩ => ⟨h1, ⟨h2, (h.wr.below hW).cj h3 tdk_wr, h.lo⟩, h3⟩)
  have HS : Hid (∀ W, Below w.heap.size w W → W.cell? ⟨pw, 0, none⟩ = some (.pointer (some ⟨p, 0, none⟩)) ∧ W.rangeAt pw 1 (slV s)) := hide (fun W hW => by obtain ⟨a1, _, a3⟩ := (h.below hW).cells hs; exact ⟨a1, a3⟩)
  have HS2 : Hid (∀ W, Rw w0 W p (D.write i (slL s)) pw s 0 → W.cell? ⟨pw, 0, none⟩ = some (.pointer (some ⟨p, 0, none⟩)) ∧ W.rangeAt pw 1 (slV s)) := hide (fun W hW => by obtain ⟨a1, _, a3⟩ := hW.cells hs; exact ⟨a1, a3⟩)
  have hinf := infoSof hs
  have HOK := hide hs
  generalize hbb : slL s = bb at *
  generalize hcs : slV s = cs1 at *
  clear h hs hm ht hi hil hwl hsec hcs hbb
  go_enter Tryd.func23, Tryd.ntmps23
  go_wp2_with (first
    | (refine wpList_loadJ rfl 27 (.tmp 15) rfl pw 1 rfl cs1 _ hrg Tryd.underlying27 rfl hinf ?_)
    | fail)
  refine (unhide HEN).mono ?_
  rintro e w2 ⟨u, rfl, ho2, hb2⟩
  obtain ⟨ua, un, uc, rfl⟩ := ho2.shape
  have HO2 := hide ho2
  have HB2 := hide hb2
  clear HEN ho2 hb2 hrg
  go_wp2_with fail
  have HBD := hide ((Below.refl w2.heap.size w2).drew)
  refine wp_region_held_drew (S := fun W => W.cell? ⟨pw, 0, none⟩ = some (.pointer (some ⟨p, 0, none⟩)) ∧ W.rangeAt pw 1 cs1) (by kernel_rfl) (unhide HS _ (below_then HB2.out HBD.out)) (fun hHeld => ?_)
  refine wpAnyH_take (i := 0) (v := .pointer (some ⟨pw, 0, none⟩)) rfl (by kernel_rfl) (by kernel_rfl) (by kernel_rfl) (fun _ _ _ h => h) (Or.inl ⟨by rfl, fun w hSw => by obtain ⟨hS1, hS2⟩ := hSw; go_simp⟩) (by assumption) ?_
  simp only [List.getElem_toArray, List.getElem_cons_zero, Act.put, List.setIfInBounds_toArray, List.set_cons_zero, List.set_cons_succ]
  refine wpAnyH_take (i := 1) (v := .pointer (some ⟨pw, 0, none⟩)) rfl (by kernel_rfl) (by kernel_rfl) (by kernel_rfl) (fun _ _ _ h => h) (Or.inl ⟨by rfl, fun w hSw => by obtain ⟨hS1, hS2⟩ := hSw; go_simp⟩) (by assumption) ?_
  simp only [List.getElem_toArray, List.getElem_cons_succ, List.getElem_cons_zero, Act.put, List.setIfInBounds_toArray, List.set_cons_zero, List.set_cons_succ]
  refine wpAnyH_take (i := 2) (v := .pointer (some ⟨pw, 0, none⟩)) rfl (by kernel_rfl) (by kernel_rfl) (by kernel_rfl) (fun _ _ _ h => h) (Or.inl ⟨by rfl, fun w hSw => by obtain ⟨hS1, hS2⟩ := hSw; go_simp⟩) (by assumption) ?_
  simp only [List.getElem_toArray, List.getElem_cons_succ, List.getElem_cons_zero, Act.put, List.setIfInBounds_toArray, List.set_cons_zero, List.set_cons_succ]
  refine wpAnyH_take (i := 3) (v := .pointer (some ⟨p, 0, none⟩)) rfl (by kernel_rfl) (by kernel_rfl) (by kernel_rfl) (fun _ _ _ h => h) (Or.inl ⟨by rfl, fun w hSw => by obtain ⟨hS1, hS2⟩ := hSw; go_simp⟩) (by assumption) ?_
  simp only [List.getElem_toArray, List.getElem_cons_succ, List.getElem_cons_zero, Act.put, List.setIfInBounds_toArray, List.set_cons_zero, List.set_cons_succ]
  refine wpAnyH_take (i := 4) (v := .pointer (some ⟨pw, 0, none⟩)) rfl (by kernel_rfl) (by kernel_rfl) (by kernel_rfl) (fun _ _ _ h => h) (Or.inl ⟨by rfl, fun w hSw => by obtain ⟨hS1, hS2⟩ := hSw; go_simp⟩) (by assumption) ?_
  simp only [List.getElem_toArray, List.getElem_cons_succ, List.getElem_cons_zero, Act.put, List.setIfInBounds_toArray, List.set_cons_zero, List.set_cons_succ]
  refine wpAnyH_take (i := 5) (v := .pointer (some ⟨pw, 0, none⟩)) rfl (by kernel_rfl) (by kernel_rfl) (by kernel_rfl) (fun _ _ _ h => h) (Or.inl ⟨by rfl, fun w hSw => by obtain ⟨hS1, hS2⟩ := hSw; go_simp⟩) (by assumption) ?_
  simp only [List.getElem_toArray, List.getElem_cons_succ, List.getElem_cons_zero, Act.put, List.setIfInBounds_toArray, List.set_cons_zero, List.set_cons_succ]
  refine wpAnyH_take (i := 6) (v := .pointer (some ⟨pw, 1, none⟩)) rfl (by kernel_rfl) (by kernel_rfl) (by kernel_rfl) (fun _ _ _ h => h) (Or.inl ⟨by rfl, fun w hSw => by obtain ⟨hS1, hS2⟩ := hSw; go_simp⟩) (by assumption) ?_
  simp only [List.getElem_toArray, List.getElem_cons_succ, List.getElem_cons_zero, Act.put, List.setIfInBounds_toArray, List.set_cons_zero, List.set_cons_succ]
  refine wpAnyH_take (i := 7) (v := .agg (cs1).toArray) rfl (by kernel_rfl) (by kernel_rfl) (by kernel_rfl) (fun _ _ _ h => h) (yieldsIf_load_mid (by rfl) _ _ rfl _ _ rfl _ _ (fun w hSw => hSw.2) Tryd.underlying27 rfl hinf) (by assumption) ?_
  simp only [List.getElem_toArray, List.getElem_cons_succ, List.getElem_cons_zero, Act.put, List.setIfInBounds_toArray, List.set_cons_zero, List.set_cons_succ]
  refine wpAnyH_take (i := 9) (v := .slice ua un uc) rfl (by kernel_rfl) (by kernel_rfl) (by kernel_rfl) (fun _ _ _ h => h) (Or.inl ⟨by rfl, fun w hSw => by obtain ⟨hS1, hS2⟩ := hSw; go_simp⟩) (by assumption) ?_
  simp only [List.getElem_toArray, List.getElem_cons_succ, List.getElem_cons_zero, Act.put, List.setIfInBounds_toArray, List.set_cons_zero, List.set_cons_succ]
  refine wpAnyH_ready (rs := [8]) (by kernel_rfl) (by simp) (AllReadyH.cons rfl (fun K hK => ?_) AllReadyH.nil)
  refine step_call1J (by rfl) 51 spl_enter (.tmp 27) _ rfl rfl (unhide HPL _) ?_
  rintro e wp ⟨rfl, hbp⟩
  have HBpl := hide (below_then HBD.out hbp)
  clear hbp
  refine ⟨_, rfl, ?_⟩
  refine hK.out _ _ (unhide HS _ (below_then HB2.out HBpl.out)) (fun hJ2 => ?_)
  clear hK K
  simp only [List.getElem_toArray, List.getElem_cons_succ, List.getElem_cons_zero, Act.put, List.setIfInBounds_toArray, List.set_cons_zero, List.set_cons_succ]
  refine wpAnyH_ready (rs := [10]) (by kernel_rfl) (by simp) (AllReadyH.cons rfl (fun K hK => ?_) AllReadyH.nil)
  refine step_call3J (by rfl) 14 swrite_enter (.tmp 23) (.tmp 28) (.tmp 29) _ rfl rfl rfl rfl (unhide HWR _ _ _ (below_then HB2.out HBpl.out) (HO2.out.below HBpl.out)) ?_
  rintro e ww ⟨rfl, hRw, hCw⟩
  have HRw := hide hRw
  have HCw := hide hCw
  clear hRw hCw
  refine ⟨_, rfl, ?_⟩
  refine hK.out _ _ (unhide HS2 _ HRw.out) (fun hJ3 => ?_)
  clear hK K
  simp only [List.getElem_toArray, List.getElem_cons_succ, List.getElem_cons_zero, Act.put, List.setIfInBounds_toArray, List.set_cons_zero, List.set_cons_succ]
  refine wpAnyH_done (by kernel_rfl) ?_ _
  obtain ⟨d0, d2, _⟩ := HRw.out.cells HOK.out
  have hfr := HRw.out.wr.frozen 106
  obtain ⟨r3, k3⟩ := HRw.out.set HOK.out 1
  obtain ⟨e0, e2, _⟩ := r3.cells HOK.out
  have HR3 := hide r3
  have HC3 := hide (((Cj.of_below HB2.out).trans (Cj.of_below HBpl.out)).trans ((cjd_wr HCw.out).trans k3))
  clear c0 c2 r3 k3
  go_wp2
  go_ret2
  exact ⟨rfl, HR3.out, HC3.out⟩
end Go.Proofs.YtbgknbjpbobebaaDoor
