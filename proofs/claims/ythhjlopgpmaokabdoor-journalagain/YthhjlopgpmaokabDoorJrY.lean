/- What act and Step answer. -/
import Derived.Test.YthhjlopgpmaokabDoorJrX
namespace Go.Proofs.YthhjlopgpmaokabDoor
open Go.RowKit Go.Maps

set_option maxRecDepth 100000 in
set_option maxHeartbeats 1000000 in
theorem ended_calls {w : World} {pw : Nat} {acts err : Int} (h0 : w.cell? ⟨pw, 0, none⟩ = some (.int .i64 acts)) (h1 : w.cell? ⟨pw, 1, none⟩ = some (.int .i64 err)) : Calls Tryd.prog 43 #[.pointer (some ⟨pw, 0, none⟩)] w fun e w' => e = .returned (.bool (decide (err ≠ 0 ∨ acts = 2))) ∧ w' = w := by
  by_cases he : err = 0
  · subst he
    have HR : Hid (decide ((0 : Int) ≠ 0 ∨ acts = 2) = (acts == 2)) := hide (by simp; rfl)
    rw [HR.out]
    go_enter Tryd.func43, Tryd.ntmps43
    go_wp2
    go_ret
    exact ⟨rfl, rfl⟩
  · have hne : (err != 0) = true := by simpa using he
    rw [decide_eq_true (Or.inl he)]
    clear he
    go_enter Tryd.func43, Tryd.ntmps43
    go_wp2
    go_ret
    exact ⟨rfl, rfl⟩
set_option maxRecDepth 100000 in
set_option maxHeartbeats 1000000 in
theorem written_calls {w : World} {pw : Nat} {acts : Int} (h0 : w.cell? ⟨pw, 0, none⟩ = some (.int .i64 acts)) : Calls Tryd.prog 49 #[.pointer (some ⟨pw, 0, none⟩)] w fun e w' => e = .returned (.bool (decide (0 < acts))) ∧ w' = w := by
  go_enter Tryd.func49, Tryd.ntmps49
  go_wp2
  go_ret
  exact ⟨rfl, rfl⟩
theorem Wt.below {W W' : World} {pw : Nat} {acts err : Int} {pj : Nat} {num : Int} {pr : List Int} {u : Value} (h : Wt W pw acts err pj num pr u) (hb : Below W.heap.size W W') : Wt W' pw acts err pj num pr u := Arr.below h hb
theorem Wt.ne {W : World} {pw : Nat} {acts err : Int} {pj pj' : Nat} {num : Int} {pr : List Int} {u : Value} {p fr n st nx : Nat} (h : Wt W pw acts err pj num pr u) (hj : Jn W pj' p fr n st nx) : pj' ≠ pw := arr_apart hj h (by decide)
/-- Nothing is changed but what a writer's Step may change; no writer but this one. -/
structure Cq (pw : Nat) (w w' : World) : Prop where
  cj : Cj TWt w w'
  oth : ∀ (k : Nat) (cs : Array Value) (m : Nat × Nat), k ≠ pw → w.heap[k]? = some (Obj.cells cs 97 m) → w'.heap[k]? = some (Obj.cells cs 97 m)
theorem Cq.trans {pw : Nat} {a b c : World} (h : Cq pw a b) (k : Cq pw b c) : Cq pw a c := ⟨h.cj.trans k.cj, fun i cs m hi hw => k.oth i cs m hi (h.oth i cs m hi hw)⟩
theorem Cq.of_below {pw : Nat} {w w' : World} (h : Below w.heap.size w w') : Cq pw w w' := ⟨Cj.of_below h, fun k _ _ _ hk => (h.block k (Array.getElem?_eq_some_iff.1 hk).1).trans hk⟩
theorem Wt.cq {W W' : World} {pw pl : Nat} {acts err : Int} {pj : Nat} {num : Int} {pr : List Int} {u : Value} (h : Wt W pl acts err pj num pr u) (hc : Cq pw W W') (hne : pl ≠ pw) : Wt W' pl acts err pj num pr u := hc.oth _ _ _ hne h
theorem cj_wt {pw : Nat} {w w' : World} (h : Cj TJn w w') : Cq pw w w' := ⟨h.mono (fun _ h => Or.inl h), fun k cs m _ hw => h.block k cs _ m hw tjn_wt⟩
theorem cjd_wt {pw : Nat} {w w' : World} (h : Cj TDk w w') : Cq pw w w' := cj_wt (h.mono (fun _ h => Or.inl h))
/-- All that a writer stands on. -/
structure Wj (w0 W : World) (p pj fr n st nx : Nat) (D : AD) (pw : Nat) (acts err num : Int) (pr : List Int) (u : Value) : Prop where
  sn : Sn w0 W p D
  jn : Jn W pj p fr n st nx
  wt : Wt W pw acts err pj num pr u
theorem Wj.below {w0 W W' : World} {p pj fr n st nx : Nat} {D : AD} {pw : Nat} {acts err num : Int} {pr : List Int} {u : Value} (h : Wj w0 W p pj fr n st nx D pw acts err num pr u) (hb : Below W.heap.size W W') : Wj w0 W' p pj fr n st nx D pw acts err num pr u := ⟨h.sn.below hb, h.jn.below hb, h.wt.below hb⟩
/-- One cell of the writer is written. -/
theorem Wj.set {w0 W : World} {p pj fr n st nx : Nat} {D : AD} {pw : Nat} {acts err num acts' err' num' : Int} {pr : List Int} {u : Value} {j : Nat} {x : Value} (h : Wj w0 W p pj fr n st nx D pw acts err num pr u) (hlo : w0.heap.size ≤ pw) (hj : (wtV acts err pj num pr u).set j x = wtV acts' err' pj num' pr u) :
    Wj w0 (W.setCell ⟨pw, j, none⟩ x) p pj fr n st nx D pw acts' err' num' pr u ∧ Cq pw W (W.setCell ⟨pw, j, none⟩ x) := by
  have hne := h.wt.ne h.jn
  refine ⟨⟨h.sn.set (grown_set _ _ _ _) h.wt tdk_wt hlo, Arr.other h.jn _ _ hne, ?_⟩, ⟨Cj.of_grown (grown_set _ _ _ _) h.wt (Or.inr rfl), fun k cs m hk hw => ((grown_set W pw j x).block k (Array.getElem?_eq_some_iff.1 hw).1 (fun e => hk (by injection e))).trans hw⟩⟩
  have := Arr.set h.wt j x
  rw [hj] at this
  exact this
set_option maxRecDepth 100000 in
set_option maxHeartbeats 4000000 in
theorem act_write {w0 w : World} {p pj fr n st nx pw : Nat} {D : AD} {u : Value} {rs : List JF} {pr : List Int} {num : Int} (h : Wj w0 w p pj fr n st nx D pw 0 0 num pr u) (hlo : w0.heap.size ≤ pj) (hlw : w0.heap.size ≤ pw) (ht : Tab w0) (hn1 : 1 ≤ n) (hn : n ≤ 1024) (hfr : fr + n ≤ D.la.length) (hs : st ≤ nx) (hx : nx ≤ 3000000000000) (hroom : roomE n st nx = 0) (hr : (⟨(nx : Int), pr, rs⟩ : JR).Ok) (he : encE ⟨(nx : Int), pr, rs⟩ = 0) {B : Nat} (hv : OwnJ w B u rs)
    (hw0 : 0 ≤ D.wt) (hw1 : D.wt ≤ 1152921504606846976) (hwl : ∀ i, (D.wr i).length ≤ 68719476736) :
    Calls Tryd.prog 44 #[.pointer (some ⟨pw, 0, none⟩)] w fun e w' => e = .returned (.tuple #[]) ∧ Wj w0 w' p pj fr n st (nx + 1) (D.write (fr + nx % n) (encL ⟨(nx : Int), pr, rs⟩)) pw 1 0 (nx : Int) pr u ∧ OwnJ w' B u rs ∧ Cq pw w w' := by
  have hp : pr.length = 32 := hr.len
  have hinfK := infoKof hp
  obtain ⟨a0, a1, a2, a3, a4, a36⟩ := h.wt.cells hp
  have HWN := hide (written_calls a0)
  rw [show decide ((0 : Int) < 0) = false from rfl] at HWN
  have HRM : Hid (Calls Tryd.prog 41 #[.pointer (some ⟨pj, 0, none⟩)] w fun e w' => e = .returned (.int .i64 0) ∧ Below w.heap.size w w') := hide (by have := room_calls h.jn hn hs (by omega); rw [hroom] at this; exact this)
  have HJW : Hid (∀ W, Sn w0 W p D → Jn W pj p fr n st nx → OwnJ W B u rs → Calls Tryd.prog 61 #[.pointer (some ⟨pj, 0, none⟩), .agg (pr.map (Value.int .u8)).toArray, u] W fun e w' => e = .returned (.int .i64 (nx : Int)) ∧ Sn w0 w' p (D.write (fr + nx % n) (encL ⟨(nx : Int), pr, rs⟩)) ∧ Jn w' pj p fr n st (nx + 1) ∧ Cj TJn W w') := hide (fun W h1 h2 h3 => jwrite_calls h1 h2 hlo ht hn1 hn hfr hx hr he h3.isJ hw0 hw1 hwl)
  obtain ⟨ua, uc, hus⟩ := hv.shape
  generalize hrn : rs.length = rn at *
  subst hus
  have HW := hide h
  have HV := hide hv
  generalize D.write (fr + nx % n) (encL ⟨(nx : Int), pr, rs⟩) = D2 at *
  have HPP := hide hp
  clear h hv hr he ht hwl hp hrn
  go_enter Tryd.func44, Tryd.ntmps44
  go_wp2_with fail
  refine (unhide HWN).mono ?_
  rintro e wm ⟨rfl, hwm⟩
  obtain rfl := hwm.symm
  clear hwm HWN
  go_wp2_with fail
  refine (unhide HRM).mono ?_
  rintro e w2 ⟨rfl, hb2⟩
  have hW2 := HW.out.below hb2
  obtain ⟨b0, b1, b2, b3, b4, b36⟩ := hW2.wt.cells HPP.out
  have hfr1 := Arr.frozen hW2.wt 1
  obtain ⟨hW3, hC3⟩ := hW2.set (j := 1) (x := .int .i64 0) (acts' := 0) (err' := 0) (num' := num) hlw rfl
  have hV3 := (HV.out.below hb2).cj hC3.cj (by unfold TWt TJn TDk; decide)
  obtain ⟨w3, hw3⟩ : ∃ w3, w3 = w2.setCell ⟨pw, 1, none⟩ (.int .i64 0) := ⟨_, rfl⟩
  rw [← hw3] at hW3 hC3 hV3
  have HW3E := hide hw3
  obtain ⟨c0, c1, c2, c3, c4, c36⟩ := hW3.wt.cells HPP.out
  have HC3 : Hid (Cq pw w w3) := hide ((Cq.of_below hb2).trans hC3)
  have HW3 := hide hW3
  have HV3 := hide hV3
  clear HRM hb2 hW2 hC3 hV3 hW3 hw3 a0 a1 a2 a3 a4 a36 HW HV
  go_upto_region 4 with fail
  rw [← HW3E.out]
  clear b0 b1 b2 b3 b4 b36 hfr1
  have HXS : Hid (∀ W, Cj TJn w3 W → Wt W pw 0 0 pj num pr (.slice ua rn uc)) := hide (fun W hW => Arr.cj HW3.out.wt hW tjn_wt)
  have HX0 : Hid (Cj TJn w3 w3.drew ∧ Sn w0 w3.drew p D ∧ Jn w3.drew pj p fr n st nx ∧ OwnJ w3.drew B (.slice ua rn uc) rs) := hide ⟨Cj.of_below (Below.refl _ _).drew, HW3.out.sn.below (Below.refl _ _).drew, HW3.out.jn.below (Below.refl _ _).drew, HV3.out.below (Below.refl _ _).drew⟩
  go_wp2_with fail
  refine wp_region_held_drew (S := fun W => W.cell? ⟨pw, 2, none⟩ = some (.pointer (some ⟨pj, 0, none⟩)) ∧ W.rangeAt pw 4 (pr.map (Value.int .u8)) ∧ W.cell? ⟨pw, 36, none⟩ = some (.slice ua rn uc)) (by kernel_rfl) (⟨((unhide HXS _ HX0.out.1).cells HPP.out).2.2.1, ((unhide HXS _ HX0.out.1).cells HPP.out).2.2.2.2.1, ((unhide HXS _ HX0.out.1).cells HPP.out).2.2.2.2.2⟩) (fun hHeld => ?_)
  refine wpAnyH_take (i := 0) (v := .pointer (some ⟨pw, 0, none⟩)) rfl (by kernel_rfl) (by kernel_rfl) (by kernel_rfl) (fun _ _ _ h => h) (Or.inl ⟨by rfl, fun w hSw => by obtain ⟨hS1, hS2, hS3⟩ := hSw; go_simp⟩) (by assumption) ?_
  simp only [List.getElem_toArray, List.getElem_cons_zero, Act.put, List.setIfInBounds_toArray, List.set_cons_zero, List.set_cons_succ]
  refine wpAnyH_take (i := 1) (v := .pointer (some ⟨pw, 0, none⟩)) rfl (by kernel_rfl) (by kernel_rfl) (by kernel_rfl) (fun _ _ _ h => h) (Or.inl ⟨by rfl, fun w hSw => by obtain ⟨hS1, hS2, hS3⟩ := hSw; go_simp⟩) (by assumption) ?_
  simp only [List.getElem_toArray, List.getElem_cons_succ, List.getElem_cons_zero, Act.put, List.setIfInBounds_toArray, List.set_cons_zero, List.set_cons_succ]
  refine wpAnyH_take (i := 2) (v := .pointer (some ⟨pw, 0, none⟩)) rfl (by kernel_rfl) (by kernel_rfl) (by kernel_rfl) (fun _ _ _ h => h) (Or.inl ⟨by rfl, fun w hSw => by obtain ⟨hS1, hS2, hS3⟩ := hSw; go_simp⟩) (by assumption) ?_
  simp only [List.getElem_toArray, List.getElem_cons_succ, List.getElem_cons_zero, Act.put, List.setIfInBounds_toArray, List.set_cons_zero, List.set_cons_succ]
  refine wpAnyH_take (i := 3) (v := .pointer (some ⟨pw, 2, none⟩)) rfl (by kernel_rfl) (by kernel_rfl) (by kernel_rfl) (fun _ _ _ h => h) (Or.inl ⟨by rfl, fun w hSw => by obtain ⟨hS1, hS2, hS3⟩ := hSw; go_simp⟩) (by assumption) ?_
  simp only [List.getElem_toArray, List.getElem_cons_succ, List.getElem_cons_zero, Act.put, List.setIfInBounds_toArray, List.set_cons_zero, List.set_cons_succ]
  refine wpAnyH_take (i := 4) (v := .pointer (some ⟨pj, 0, none⟩)) rfl (by kernel_rfl) (by kernel_rfl) (by kernel_rfl) (fun _ _ _ h => h) (Or.inl ⟨by rfl, fun w hSw => by obtain ⟨hS1, hS2, hS3⟩ := hSw; go_simp⟩) (by assumption) ?_
  simp only [List.getElem_toArray, List.getElem_cons_succ, List.getElem_cons_zero, Act.put, List.setIfInBounds_toArray, List.set_cons_zero, List.set_cons_succ]
  refine wpAnyH_take (i := 5) (v := .pointer (some ⟨pw, 0, none⟩)) rfl (by kernel_rfl) (by kernel_rfl) (by kernel_rfl) (fun _ _ _ h => h) (Or.inl ⟨by rfl, fun w hSw => by obtain ⟨hS1, hS2, hS3⟩ := hSw; go_simp⟩) (by assumption) ?_
  simp only [List.getElem_toArray, List.getElem_cons_succ, List.getElem_cons_zero, Act.put, List.setIfInBounds_toArray, List.set_cons_zero, List.set_cons_succ]
  refine wpAnyH_take (i := 6) (v := .pointer (some ⟨pw, 0, none⟩)) rfl (by kernel_rfl) (by kernel_rfl) (by kernel_rfl) (fun _ _ _ h => h) (Or.inl ⟨by rfl, fun w hSw => by obtain ⟨hS1, hS2, hS3⟩ := hSw; go_simp⟩) (by assumption) ?_
  simp only [List.getElem_toArray, List.getElem_cons_succ, List.getElem_cons_zero, Act.put, List.setIfInBounds_toArray, List.set_cons_zero, List.set_cons_succ]
  refine wpAnyH_take (i := 7) (v := .pointer (some ⟨pw, 4, none⟩)) rfl (by kernel_rfl) (by kernel_rfl) (by kernel_rfl) (fun _ _ _ h => h) (Or.inl ⟨by rfl, fun w hSw => by obtain ⟨hS1, hS2, hS3⟩ := hSw; go_simp⟩) (by assumption) ?_
  simp only [List.getElem_toArray, List.getElem_cons_succ, List.getElem_cons_zero, Act.put, List.setIfInBounds_toArray, List.set_cons_zero, List.set_cons_succ]
  refine wpAnyH_take (i := 8) (v := .agg (pr.map (Value.int .u8)).toArray) rfl (by kernel_rfl) (by kernel_rfl) (by kernel_rfl) (fun _ _ _ h => h) (yieldsIf_load_mid (by rfl) _ _ rfl _ _ rfl _ _ (fun w hSw => hSw.2.1) Tryd.underlying33 rfl hinfK) (by assumption) ?_
  simp only [List.getElem_toArray, List.getElem_cons_succ, List.getElem_cons_zero, Act.put, List.setIfInBounds_toArray, List.set_cons_zero, List.set_cons_succ]
  refine wpAnyH_take (i := 9) (v := .pointer (some ⟨pw, 0, none⟩)) rfl (by kernel_rfl) (by kernel_rfl) (by kernel_rfl) (fun _ _ _ h => h) (Or.inl ⟨by rfl, fun w hSw => by obtain ⟨hS1, hS2, hS3⟩ := hSw; go_simp⟩) (by assumption) ?_
  simp only [List.getElem_toArray, List.getElem_cons_succ, List.getElem_cons_zero, Act.put, List.setIfInBounds_toArray, List.set_cons_zero, List.set_cons_succ]
  refine wpAnyH_take (i := 10) (v := .pointer (some ⟨pw, 0, none⟩)) rfl (by kernel_rfl) (by kernel_rfl) (by kernel_rfl) (fun _ _ _ h => h) (Or.inl ⟨by rfl, fun w hSw => by obtain ⟨hS1, hS2, hS3⟩ := hSw; go_simp⟩) (by assumption) ?_
  simp only [List.getElem_toArray, List.getElem_cons_succ, List.getElem_cons_zero, Act.put, List.setIfInBounds_toArray, List.set_cons_zero, List.set_cons_succ]
  refine wpAnyH_take (i := 11) (v := .pointer (some ⟨pw, 36, none⟩)) rfl (by kernel_rfl) (by kernel_rfl) (by kernel_rfl) (fun _ _ _ h => h) (Or.inl ⟨by rfl, fun w hSw => by obtain ⟨hS1, hS2, hS3⟩ := hSw; go_simp⟩) (by assumption) ?_
  simp only [List.getElem_toArray, List.getElem_cons_succ, List.getElem_cons_zero, Act.put, List.setIfInBounds_toArray, List.set_cons_zero, List.set_cons_succ]
  refine wpAnyH_take (i := 12) (v := .slice (ua) rn uc) rfl (by kernel_rfl) (by kernel_rfl) (by kernel_rfl) (fun _ _ _ h => h) (Or.inl ⟨by rfl, fun w hSw => by obtain ⟨hS1, hS2, hS3⟩ := hSw; go_simp⟩) (by assumption) ?_
  simp only [List.getElem_toArray, List.getElem_cons_succ, List.getElem_cons_zero, Act.put, List.setIfInBounds_toArray, List.set_cons_zero, List.set_cons_succ]
  refine wpAnyH_ready (rs := [13]) (by kernel_rfl) (by simp) (AllReadyH.cons rfl (fun K hK => ?_) AllReadyH.nil)
  refine step_call3J (by rfl) 61 jwrite_enter (.tmp 42) (.tmp 46) (.tmp 50) _ rfl rfl rfl rfl (unhide HJW _ HX0.out.2.1 HX0.out.2.2.1 HX0.out.2.2.2) ?_
  rintro e w4 ⟨rfl, hs4, hj4, hc4⟩
  have hC4 : Cj TJn w3 w4 := HX0.out.1.trans hc4
  have hT4 := unhide HXS _ hC4
  have hW4 : Wj w0 w4 p pj fr n st (nx + 1) D2 pw 0 0 num pr (.slice ua rn uc) := ⟨hs4, hj4, hT4⟩
  have hf3 := Arr.frozen hT4 3
  have hc3 := (hT4.cells HPP.out).2.2.2.1
  obtain ⟨hW5, hC5⟩ := hW4.set (j := 3) (x := .int .i64 (nx : Int)) (acts' := 0) (err' := 0) (num' := (nx : Int)) hlw rfl
  have HV5 := hide ((HV3.out.cj hC4 tjn_ref).cj hC5.cj (by unfold TWt TJn TDk; decide))
  have HC5 : Hid (Cq pw w _) := hide ((HC3.out.trans (cj_wt hC4)).trans hC5)
  have HW5 := hide hW5
  refine ⟨_, rfl, ?_⟩
  refine hK.out _ _ (⟨(hT4.cells HPP.out).2.2.1, (hT4.cells HPP.out).2.2.2.2.1, (hT4.cells HPP.out).2.2.2.2.2⟩) (fun hJ1 => ?_)
  clear hK K
  simp only [List.getElem_toArray, List.getElem_cons_succ, List.getElem_cons_zero, Act.put, List.setIfInBounds_toArray, List.set_cons_zero, List.set_cons_succ]
  refine wpAnyH_take (i := 14) (v := .pointer (some ⟨pw, 0, none⟩)) rfl (by kernel_rfl) (by kernel_rfl) (by kernel_rfl) (fun _ _ _ h => h) (Or.inl ⟨by rfl, fun w hSw => by obtain ⟨hS1, hS2, hS3⟩ := hSw; go_simp⟩) (by assumption) ?_
  simp only [List.getElem_toArray, List.getElem_cons_succ, List.getElem_cons_zero, Act.put, List.setIfInBounds_toArray, List.set_cons_zero, List.set_cons_succ]
  refine wpAnyH_take (i := 15) (v := .pointer (some ⟨pw, 3, none⟩)) rfl (by kernel_rfl) (by kernel_rfl) (by kernel_rfl) (fun _ _ _ h => h) (Or.inl ⟨by rfl, fun w hSw => by obtain ⟨hS1, hS2, hS3⟩ := hSw; go_simp⟩) (by assumption) ?_
  simp only [List.getElem_toArray, List.getElem_cons_succ, List.getElem_cons_zero, Act.put, List.setIfInBounds_toArray, List.set_cons_zero, List.set_cons_succ]
  refine wpAnyH_ready (rs := [16]) (by kernel_rfl) (by simp) (AllReadyH.cons rfl (fun K hK => ?_) AllReadyH.nil)
  refine step_store1 (by rfl) 3 (.tmp 53) (.tmp 51) rfl rfl rfl (store3 hc3 hf3) ?_
  refine hK.out _ _ (⟨(hW5.wt.cells HPP.out).2.2.1, (hW5.wt.cells HPP.out).2.2.2.2.1, (hW5.wt.cells HPP.out).2.2.2.2.2⟩) (fun hJ2 => ?_)
  clear hK K
  simp only [List.getElem_toArray, List.getElem_cons_succ, List.getElem_cons_zero, Act.put]
  clear hs4 hj4 hc4 hC4 hT4 hW4 hf3 hc3 hW5 hC5
  refine wpAnyH_done (by kernel_rfl) ?_ _
  obtain ⟨d0, d1, d2, d3, d4, d36⟩ := HW5.out.wt.cells HPP.out
  have hf0 := Arr.frozen HW5.out.wt 0
  obtain ⟨hW6, hC6⟩ := HW5.out.set (j := 0) (x := .int .i64 1) (acts' := 1) (err' := 0) (num' := (nx : Int)) hlw rfl
  have HF := hide (And.intro hW6 (And.intro (HV5.out.cj hC6.cj (by unfold TWt TJn TDk; decide)) (HC5.out.trans hC6)))
  clear HW5 HV5 HC5 hW6 hC6
  go_wp2
  go_end0
  exact ⟨rfl, HF.out⟩
end Go.Proofs.YthhjlopgpmaokabDoor
