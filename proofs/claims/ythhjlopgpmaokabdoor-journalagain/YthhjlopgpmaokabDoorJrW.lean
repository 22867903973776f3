/- Writers in memory: what Add, write, act and Step answer. -/
import Derived.Test.YthhjlopgpmaokabDoorJrV
namespace Go.Proofs.YthhjlopgpmaokabDoor
open Go.RowKit Go.Maps

/-- A writer's cells. -/
def wtV (acts err : Int) (pj : Nat) (num : Int) (pr : List Int) (u : Value) : List Value := [.int .i64 acts, .int .i64 err, .pointer (some ⟨pj, 0, none⟩), .int .i64 num] ++ (pr.map (Value.int .u8) ++ [u])
theorem wtV_len {acts err : Int} {pj : Nat} {num : Int} {pr : List Int} {u : Value} (h : pr.length = 32) : (wtV acts err pj num pr u).length = 37 := by simp [wtV, h]
def Wt (W : World) (pw : Nat) (acts err : Int) (pj : Nat) (num : Int) (pr : List Int) (u : Value) : Prop := Arr W pw 97 (wtV acts err pj num pr u)
theorem Wt.cells {W : World} {pw : Nat} {acts err : Int} {pj : Nat} {num : Int} {pr : List Int} {u : Value} (h : Wt W pw acts err pj num pr u) (hp : pr.length = 32) : W.cell? ⟨pw, 0, none⟩ = some (.int .i64 acts) ∧ W.cell? ⟨pw, 1, none⟩ = some (.int .i64 err) ∧ W.cell? ⟨pw, 2, none⟩ = some (.pointer (some ⟨pj, 0, none⟩)) ∧ W.cell? ⟨pw, 3, none⟩ = some (.int .i64 num) ∧ W.rangeAt pw 4 (pr.map (Value.int .u8)) ∧ W.cell? ⟨pw, 36, none⟩ = some u := by
  refine ⟨Arr.cell h 0, Arr.cell h 1, Arr.cell h 2, Arr.cell h 3, fun j v hv => ?_, ?_⟩
  · rw [Arr.cell h]
    have hj := (List.getElem?_eq_some_iff.1 hv).1
    unfold wtV
    rw [List.getElem?_append_right (by simp), List.getElem?_append_left (by simpa using hj)]
    simp only [List.length_cons, List.length_nil, Nat.zero_add, Nat.reduceAdd, Nat.add_sub_cancel_left]
    exact hv
  · rw [Arr.cell h]
    unfold wtV
    rw [List.getElem?_append_right (by simp), List.getElem?_append_right (by simp [hp])]
    simp [hp]
theorem bWt_x (a0 a1 a2 a3 a4 a5 a6 a7 a8 a9 b0 b1 b2 b3 b4 b5 b6 b7 b8 b9 c0 c1 c2 c3 c4 c5 c6 c7 c8 c9 d0 d1 : Int) (pj : Nat) (ua : Option Addr) (un uc : Nat) (W : World) :
    (Instr.build 97 #[(1, .pointer (some ⟨pj, 0, none⟩)), (3, .agg ([a0, a1, a2, a3, a4, a5, a6, a7, a8, a9, b0, b1, b2, b3, b4, b5, b6, b7, b8, b9, c0, c1, c2, c3, c4, c5, c6, c7, c8, c9, d0, d1].map (Value.int .u8)).toArray), (4, .slice ua un uc)]).run Tryd.prog W = .ok (.agg (wtV 0 0 pj 0 [a0, a1, a2, a3, a4, a5, a6, a7, a8, a9, b0, b1, b2, b3, b4, b5, b6, b7, b8, b9, c0, c1, c2, c3, c4, c5, c6, c7, c8, c9, d0, d1] (.slice ua un uc)).toArray) W := by kernel_rfl
theorem bWt {hs : List Int} (hh : hs.length = 32) (pj : Nat) (ua : Option Addr) (un uc : Nat) (W : World) : (Instr.build 97 #[(1, .pointer (some ⟨pj, 0, none⟩)), (3, .agg (hs.map (Value.int .u8)).toArray), (4, .slice ua un uc)]).run Tryd.prog W = .ok (.agg (wtV 0 0 pj 0 hs (.slice ua un uc)).toArray) W := by
  match hs, hh with
  | [a0, a1, a2, a3, a4, a5, a6, a7, a8, a9, b0, b1, b2, b3, b4, b5, b6, b7, b8, b9, c0, c1, c2, c3, c4, c5, c6, c7, c8, c9, d0, d1], _ => exact bWt_x a0 a1 a2 a3 a4 a5 a6 a7 a8 a9 b0 b1 b2 b3 b4 b5 b6 b7 b8 b9 c0 c1 c2 c3 c4 c5 c6 c7 c8 c9 d0 d1 pj ua un uc W
theorem bR3_x (a0 a1 a2 a3 a4 a5 a6 a7 a8 a9 b0 b1 b2 b3 b4 b5 b6 b7 b8 b9 c0 c1 c2 c3 c4 c5 c6 c7 c8 c9 d0 d1 n : Int) (rs : List JF) (ua : Option Addr) (un uc : Nat) (W : World) :
    (Instr.build 52 #[(0, .int .i64 n), (1, .agg ([a0, a1, a2, a3, a4, a5, a6, a7, a8, a9, b0, b1, b2, b3, b4, b5, b6, b7, b8, b9, c0, c1, c2, c3, c4, c5, c6, c7, c8, c9, d0, d1].map (Value.int .u8)).toArray), (2, .slice ua un uc)]).run Tryd.prog W = .ok (.agg (jrV ⟨n, [a0, a1, a2, a3, a4, a5, a6, a7, a8, a9, b0, b1, b2, b3, b4, b5, b6, b7, b8, b9, c0, c1, c2, c3, c4, c5, c6, c7, c8, c9, d0, d1], rs⟩ (.slice ua un uc)).toArray) W := by kernel_rfl
theorem bR3 {hs : List Int} (hh : hs.length = 32) (n : Int) (rs : List JF) (ua : Option Addr) (un uc : Nat) (W : World) : (Instr.build 52 #[(0, .int .i64 n), (1, .agg (hs.map (Value.int .u8)).toArray), (2, .slice ua un uc)]).run Tryd.prog W = .ok (.agg (jrV ⟨n, hs, rs⟩ (.slice ua un uc)).toArray) W := by
  match hs, hh with
  | [a0, a1, a2, a3, a4, a5, a6, a7, a8, a9, b0, b1, b2, b3, b4, b5, b6, b7, b8, b9, c0, c1, c2, c3, c4, c5, c6, c7, c8, c9, d0, d1], _ => exact bR3_x a0 a1 a2 a3 a4 a5 a6 a7 a8 a9 b0 b1 b2 b3 b4 b5 b6 b7 b8 b9 c0 c1 c2 c3 c4 c5 c6 c7 c8 c9 d0 d1 n rs ua un uc W
section
variable {ops : Array Oper} {rest : List Oper} {o : Oper} {a : Act} {Q : Exit → Act → World → Prop} {w : World} {K : Act → World → Prop} {E : Prop}
theorem step_boxJ (hw : Region.wanted o (yielded ops a.tmps) = true) (t : TypeId) (x : Operand) (ho : o.op = .box t x) {cs : List Value} (hx : a.eval x = .agg cs.toArray)
    (hk : K (a.put o.dst (.pointer (some ⟨w.heap.size, 0, none⟩))) (w.alloc (.cells cs.toArray t))) : if Region.wanted o (yielded ops a.tmps) = true then Oper.wp Tryd.prog o a w K Q else E := by
  rw [if_pos hw]
  unfold Oper.wp execOp
  simp only [ho, Sem.run_bind, hx, jbox_run, Result.andThen_ok, Sem.run_pure]
  exact hk
theorem wpList_bld3J (hgd : o.guard = none) (t : TypeId) (i j k : Nat) (x y z : Operand) (ho : o.op = .build t #[(i, x), (j, y), (k, z)]) {vx vy vz v : Value} (hx : a.eval x = vx) (hy : a.eval y = vy) (hz : a.eval z = vz) (hrun : ∀ W, (Instr.build t #[(i, vx), (j, vy), (k, vz)]).run Tryd.prog W = .ok v W)
    (hk : wpList Tryd.prog ops Q rest (a.put o.dst v) w) : wpList Tryd.prog ops Q (o :: rest) a w := by
  refine wpList_plain hgd fun K hK => ?_
  unfold Oper.wp execOp
  simp only [ho, List.map_toArray, List.map_cons, List.map_nil, hx, hy, hz, Sem.run_bind, hrun w, Result.andThen_ok, Sem.run_pure]
  exact hK _ _ hk
end
theorem clone_enter (v : Value) (W : World) : (callFunc 42 #[v]).run Tryd.prog W = .ok (.enter 42 #[v]) W := by kernel_rfl
theorem place_enter (v u z : Value) (W : World) : (callFunc 48 #[v, u, z]).run Tryd.prog W = .ok (.enter 48 #[v, u, z]) W := by kernel_rfl
theorem dwrite_enter (v u z : Value) (W : World) : (callFunc 67 #[v, u, z]).run Tryd.prog W = .ok (.enter 67 #[v, u, z]) W := by kernel_rfl
theorem jwrite_enter (v u z : Value) (W : World) : (callFunc 61 #[v, u, z]).run Tryd.prog W = .ok (.enter 61 #[v, u, z]) W := by kernel_rfl
theorem mayRs_ok {l : List JF} (h : mayRs l = true) : 1 ≤ l.length ∧ l.length ≤ 8 := by
  unfold mayRs at h
  simp only [Bool.and_eq_true, decide_eq_true_eq] at h
  exact h.1
theorem Jn.below {W W' : World} {pj p fr n st nx : Nat} (h : Jn W pj p fr n st nx) (hb : Below W.heap.size W W') : Jn W' pj p fr n st nx := Arr.below h hb
set_option maxRecDepth 100000 in
set_option maxHeartbeats 2000000 in
theorem add_good {w : World} {pj p fr n st nx : Nat} {v : Value} {rs : List JF} {pr : List Int} (h : Jn w pj p fr n st nx) (hn : n ≤ 1024) (hs : st ≤ nx) (hx : nx ≤ 4000000000000) (hroom : roomE n st nx = 0) (hm : mayRs rs = true) (hv : IsJ w v rs) (hp : pr.length = 32) :
    Calls Tryd.prog 13 #[.pointer (some ⟨pj, 0, none⟩), .agg (pr.map (Value.int .u8)).toArray, v] w fun e w' => ∃ pw u, e = .returned (.tuple #[.pointer (some ⟨pw, 0, none⟩), .int .i64 0]) ∧ Wt w' pw 0 0 pj 0 pr u ∧ OwnJ w' w.heap.size u rs ∧ Below w.heap.size w w' ∧ w.heap.size ≤ pw := by
  obtain ⟨hm1, hm8⟩ := mayRs_ok hm
  have hinfK := infoKof hp
  have HALL : Hid (∀ W, Below w.heap.size w W → Jn W pj p fr n st nx ∧ IsJ W v rs) := hide (fun W hW => ⟨h.below hW, hv.below hW⟩)
  have HMY : Hid (∀ W, IsJ W v rs → Calls Tryd.prog 40 #[v] W fun e w' => e = .returned (.bool true) ∧ Below W.heap.size W w') := hide (fun W h => by have := refsMay_calls h; rw [hm] at this; exact this)
  have HRM : Hid (∀ W, Jn W pj p fr n st nx → Calls Tryd.prog 41 #[.pointer (some ⟨pj, 0, none⟩)] W fun e w' => e = .returned (.int .i64 0) ∧ Below W.heap.size W w') := hide (fun W h => by have := room_calls h hn hs hx; rw [hroom] at this; exact this)
  have HCL : Hid (∀ W, IsJ W v rs → Calls Tryd.prog 42 #[v] W fun e w' => ∃ u, e = .returned u ∧ OwnJ w' W.heap.size u rs ∧ Below W.heap.size W w') := hide (fun W h => clone_calls h hm1 (by omega))
  obtain ⟨va, vc, hvs⟩ := hv.shape
  subst hvs
  have HBLD := hide (fun ua un uc => bWt hp pj ua un uc)
  have HPL := hide hp
  generalize rs.length = rn at *
  clear h hv hm hp
  go_enter Tryd.func13, Tryd.ntmps13
  go_wp2_with (first
    | (refine wpList_boxJ rfl 33 (.tmp 1) rfl rfl ?_; intro w1 hA1 hb1 _; obtain ⟨_, j1⟩ := unhide HALL w1 hb1; have HJ1 := hide j1; have HB1 := hide hb1; have HA1 := hide hA1; clear hA1 hb1 j1)
    | fail)
  refine (unhide HMY _ HJ1.out).mono ?_
  rintro e w2 ⟨rfl, hb2⟩
  have hbw2 := below_then HB1.out hb2
  obtain ⟨j2, i2⟩ := unhide HALL w2 hbw2
  have HJ2 := hide j2
  have HA2 := hide (HA1.out.below hb2)
  have HB2 := hide hbw2
  clear hb2 hbw2 j2 i2 HMY HJ1 HB1 HA1
  go_wp2_with fail
  refine (unhide HRM _ HJ2.out).mono ?_
  rintro e w3 ⟨rfl, hb3⟩
  have hbw3 := below_then HB2.out hb3
  obtain ⟨j3, i3⟩ := unhide HALL w3 hbw3
  have HA3 : Hid (∀ W, Below w3.heap.size w3 W → W.rangeAt w.heap.size 0 (pr.map (Value.int .u8))) := hide (fun W hW => ((HA2.out.below hb3).below hW).rangeJ)
  have HX0 : Hid (Below w.heap.size w w3.drew ∧ IsJ w3.drew (.slice va rn vc) rs ∧ Below w3.heap.size w3 w3.drew) := hide ⟨hbw3.drew, i3.below (Below.refl _ _).drew, (Below.refl _ _).drew⟩
  clear hb3 hbw3 j3 i3 HRM HJ2 HB2 HA2
  go_wp2_with fail
  refine wp_region_held_drew (S := fun W => W.rangeAt w.heap.size 0 (pr.map (Value.int .u8))) (by kernel_rfl) (unhide HA3 _ HX0.out.2.2) (fun hHeld => ?_)
  refine wpAnyH_take (i := 0) (v := .pointer (some ⟨pj, 0, none⟩)) rfl (by kernel_rfl) (by kernel_rfl) (by kernel_rfl) (fun _ _ _ h => h) (Or.inl ⟨by rfl, fun w hSw => by go_simp⟩) (by assumption) ?_
  simp only [List.getElem_toArray, List.getElem_cons_zero, Act.put, List.setIfInBounds_toArray, List.set_cons_zero, List.set_cons_succ]
  refine wpAnyH_take (i := 1) (v := .agg (pr.map (Value.int .u8)).toArray) rfl (by kernel_rfl) (by kernel_rfl) (by kernel_rfl) (fun _ _ _ h => h) (yieldsIf_load_mid (by rfl) _ _ rfl _ _ rfl _ _ (fun w hSw => hSw) Tryd.underlying33 rfl hinfK) (by assumption) ?_
  simp only [List.getElem_toArray, List.getElem_cons_succ, List.getElem_cons_zero, Act.put, List.setIfInBounds_toArray, List.set_cons_zero, List.set_cons_succ]
  refine wpAnyH_take (i := 2) (v := .slice (va) rn vc) rfl (by kernel_rfl) (by kernel_rfl) (by kernel_rfl) (fun _ _ _ h => h) (Or.inl ⟨by rfl, fun w hSw => by go_simp⟩) (by assumption) ?_
  simp only [List.getElem_toArray, List.getElem_cons_succ, List.getElem_cons_zero, Act.put, List.setIfInBounds_toArray, List.set_cons_zero, List.set_cons_succ]
  refine wpAnyH_ready (rs := [3]) (by kernel_rfl) (by simp) (AllReadyH.cons rfl (fun K hK => ?_) AllReadyH.nil)
  refine step_call1J (by rfl) 42 clone_enter (.tmp 19) _ rfl rfl (unhide HCL _ HX0.out.2.1) ?_
  rintro e w4 ⟨u, rfl, ho4, hb4⟩
  obtain ⟨ua, uc, hus⟩ := ho4.shape
  obtain ⟨un, hun⟩ : ∃ un, un = rs.length := ⟨_, rfl⟩
  rw [← hun] at hus
  subst hus
  have HX4 : Hid (Below w3.heap.size w3 w4) := hide (HX0.out.2.2.trans hb4)
  refine ⟨_, rfl, ?_⟩
  refine hK.out _ _ (unhide HA3 _ HX4.out) (fun hJ1 => ?_)
  clear hK K
  simp only [List.getElem_toArray, List.getElem_cons_succ, List.getElem_cons_zero, Act.put, List.setIfInBounds_toArray, List.set_cons_zero, List.set_cons_succ]
  refine wpAnyH_take (i := 4) (v := .agg (wtV 0 0 pj 0 pr (.slice ua un uc)).toArray) rfl (by kernel_rfl) (by kernel_rfl) (by kernel_rfl) (fun _ _ _ h => h) (yields_bld3J (by rfl) 97 1 3 4 (.tmp 17) (.tmp 18) (.tmp 20) rfl (vx := .pointer (some ⟨pj, 0, none⟩)) (vy := .agg (pr.map (Value.int .u8)).toArray) (vz := .slice ua un uc) rfl rfl rfl (HBLD.out ua un uc)) (by assumption) ?_
  simp only [List.getElem_toArray, List.getElem_cons_succ, List.getElem_cons_zero, Act.put, List.setIfInBounds_toArray, List.set_cons_zero, List.set_cons_succ]
  refine wpAnyH_ready (rs := [5]) (by kernel_rfl) (by simp) (AllReadyH.cons rfl (fun K hK => ?_) AllReadyH.nil)
  refine step_boxJ (by rfl) 97 (.tmp 21) rfl (cs := wtV 0 0 pj 0 pr (.slice ua un uc)) rfl ?_
  have hb5 := jalloc_below w4 (.cells (wtV 0 0 pj 0 pr (.slice ua un uc)).toArray 97)
  have HW5 : Hid (Wt _ w4.heap.size 0 0 pj 0 pr (.slice ua un uc)) := hide (Arr.new w4 (wtV 0 0 pj 0 pr (.slice ua un uc)) 97)
  have HO5 := hide ((ho4.mono (show w.heap.size ≤ w3.drew.heap.size from HX0.out.1.size)).below hb5)
  have HB5 : Hid (Below w.heap.size w _) := hide (below_then (HX0.out.1.trans (hb4.mono HX0.out.1.size)) hb5)
  have hpw : w.heap.size ≤ w4.heap.size := Nat.le_trans HX0.out.1.size hb4.size
  refine hK.out _ _ (unhide HA3 _ (below_then HX4.out hb5)) (fun hJ2 => ?_)
  clear hK K
  simp only [List.getElem_toArray, List.getElem_cons_succ, List.getElem_cons_zero, Act.put, List.setIfInBounds_toArray, List.set_cons_zero, List.set_cons_succ]
  clear ho4 hb4 hb5 hun
  refine wpAnyH_take (i := 6) (v := .pointer (some ⟨w4.heap.size, 0, none⟩)) rfl (by kernel_rfl) (by kernel_rfl) (by kernel_rfl) (fun _ _ _ h => h) (Or.inl ⟨by rfl, fun w hSw => by go_simp⟩) (by assumption) ?_
  simp only [List.getElem_toArray, List.getElem_cons_succ, List.getElem_cons_zero, Act.put, List.setIfInBounds_toArray, List.set_cons_zero, List.set_cons_succ]
  refine wpAnyH_take (i := 7) (v := .int .i64 0) rfl (by kernel_rfl) (by kernel_rfl) (by kernel_rfl) (fun _ _ _ h => h) (Or.inl ⟨by rfl, fun w hSw => by go_simp⟩) (by assumption) ?_
  simp only [List.getElem_toArray, List.getElem_cons_succ, List.getElem_cons_zero, Act.put, List.setIfInBounds_toArray, List.set_cons_zero, List.set_cons_succ]
  refine wpAnyH_done (by kernel_rfl) ?_ _
  go_wp2
  go_ret2
  exact ⟨_, _, rfl, HW5.out, HO5.out, HB5.out, hpw⟩
end Go.Proofs.YthhjlopgpmaokabDoor
