/- What NewWriter and Step answer. -/
import Derived.Test.YtbgknbjpbobebaaDoorRtV
namespace Go.Proofs.YtbgknbjpbobebaaDoor
open Go.RowKit Go.Maps

/-- A writer's cells. -/
def rwV (p : Nat) (s : SL) (d : Int) : List Value := .pointer (some ⟨p, 0, none⟩) :: (slV s ++ [.int .i64 d])
theorem rwV_d {s : SL} (h : s.Ok) (p : Nat) (d : Int) : (rwV p s d)[106]? = some (.int .i64 d) := by
  unfold rwV
  rw [List.getElem?_cons_succ, List.getElem?_append_right (by rw [slV_len h]; decide), slV_len h]
  rfl
theorem rwV_set {s : SL} (h : s.Ok) (p : Nat) (d e : Int) : (rwV p s d).set 106 (.int .i64 e) = rwV p s e := by
  unfold rwV
  rw [List.set_cons_succ, List.set_append_right _ _ (by rw [slV_len h]; decide), slV_len h]
  rfl
theorem rwV_s {W : World} {pw p : Nat} {s : SL} {d : Int} (hA : Arr W pw 104 (rwV p s d)) : W.rangeAt pw 1 (slV s) := fun j v hv => by
  rw [hA.cell]
  unfold rwV
  rw [Nat.add_comm, List.getElem?_cons_succ, List.getElem?_append_left (List.getElem?_eq_some_iff.1 hv).1]
  exact hv
/-- What a writer's Step changes. -/
def TWr (t : TypeId) : Prop := TDk t ∨ t = 104
theorem twr_slot : ¬ TWr 27 := by unfold TWr TDk; decide
theorem tdk_wr : ¬ TDk 104 := by unfold TDk; decide
theorem buildWr_x (k0 k1 k2 k3 k4 k5 k6 k7 k8 k9 k10 k11 k12 k13 k14 k15 k16 k17 k18 k19 k20 k21 k22 k23 k24 k25 k26 k27 k28 k29 k30 k31 r0 r1 r2 r3 r4 r5 r6 r7 r8 r9 r10 r11 r12 r13 r14 r15 r16 r17 r18 r19 r20 r21 r22 r23 r24 r25 r26 r27 r28 r29 r30 r31 m0 m1 m2 m3 m4 m5 m6 m7 m8 m9 m10 m11 m12 m13 m14 m15 m16 m17 m18 m19 m20 m21 m22 m23 m24 m25 m26 m27 m28 m29 m30 m31 a0 a1 a2 a3 a4 a5 a6 a7 a8 : Int) (p : Nat) (W : World) :
    (Instr.build 104 #[(0, .pointer (some ⟨p, 0, none⟩)), (1, .agg (slV ⟨a0, a1, a2, a3, a4, [k0, k1, k2, k3, k4, k5, k6, k7, k8, k9, k10, k11, k12, k13, k14, k15, k16, k17, k18, k19, k20, k21, k22, k23, k24, k25, k26, k27, k28, k29, k30, k31], ⟨[r0, r1, r2, r3, r4, r5, r6, r7, r8, r9, r10, r11, r12, r13, r14, r15, r16, r17, r18, r19, r20, r21, r22, r23, r24, r25, r26, r27, r28, r29, r30, r31], a5, a6⟩, ⟨[m0, m1, m2, m3, m4, m5, m6, m7, m8, m9, m10, m11, m12, m13, m14, m15, m16, m17, m18, m19, m20, m21, m22, m23, m24, m25, m26, m27, m28, m29, m30, m31], a7, a8⟩⟩).toArray)]).run Tryd.prog W = .ok (.agg (rwV p ⟨a0, a1, a2, a3, a4, [k0, k1, k2, k3, k4, k5, k6, k7, k8, k9, k10, k11, k12, k13, k14, k15, k16, k17, k18, k19, k20, k21, k22, k23, k24, k25, k26, k27, k28, k29, k30, k31], ⟨[r0, r1, r2, r3, r4, r5, r6, r7, r8, r9, r10, r11, r12, r13, r14, r15, r16, r17, r18, r19, r20, r21, r22, r23, r24, r25, r26, r27, r28, r29, r30, r31], a5, a6⟩, ⟨[m0, m1, m2, m3, m4, m5, m6, m7, m8, m9, m10, m11, m12, m13, m14, m15, m16, m17, m18, m19, m20, m21, m22, m23, m24, m25, m26, m27, m28, m29, m30, m31], a7, a8⟩⟩ 0).toArray) W := by kernel_rfl
theorem buildWr {s : SL} (h : s.Ok) (p : Nat) (W : World) : (Instr.build 104 #[(0, .pointer (some ⟨p, 0, none⟩)), (1, .agg (slV s).toArray)]).run Tryd.prog W = .ok (.agg (rwV p s 0).toArray) W := by
  have hk := h.len
  have hr := h.r.len
  have hm := h.m.len
  clear h
  rcases s with ⟨a0, a1, a2, a3, a4, lk, ⟨lr, a5, a6⟩, ⟨lm, a7, a8⟩⟩
  obtain ⟨k0, k1, k2, k3, k4, k5, k6, k7, k8, k9, k10, k11, k12, k13, k14, k15, k16, k17, k18, k19, k20, k21, k22, k23, k24, k25, k26, k27, k28, k29, k30, k31, rfl⟩ := list32 hk
  obtain ⟨r0, r1, r2, r3, r4, r5, r6, r7, r8, r9, r10, r11, r12, r13, r14, r15, r16, r17, r18, r19, r20, r21, r22, r23, r24, r25, r26, r27, r28, r29, r30, r31, rfl⟩ := list32 hr
  obtain ⟨m0, m1, m2, m3, m4, m5, m6, m7, m8, m9, m10, m11, m12, m13, m14, m15, m16, m17, m18, m19, m20, m21, m22, m23, m24, m25, m26, m27, m28, m29, m30, m31, rfl⟩ := list32 hm
  exact buildWr_x k0 k1 k2 k3 k4 k5 k6 k7 k8 k9 k10 k11 k12 k13 k14 k15 k16 k17 k18 k19 k20 k21 k22 k23 k24 k25 k26 k27 k28 k29 k30 k31 r0 r1 r2 r3 r4 r5 r6 r7 r8 r9 r10 r11 r12 r13 r14 r15 r16 r17 r18 r19 r20 r21 r22 r23 r24 r25 r26 r27 r28 r29 r30 r31 m0 m1 m2 m3 m4 m5 m6 m7 m8 m9 m10 m11 m12 m13 m14 m15 m16 m17 m18 m19 m20 m21 m22 m23 m24 m25 m26 m27 m28 m29 m30 m31 a0 a1 a2 a3 a4 a5 a6 a7 a8 p W
section
variable {ops : Array Oper} {rest : List Oper} {o : Oper} {a : Act} {Q : Exit → Act → World → Prop} {w : World}
theorem wpList_bld2S (hgd : o.guard = none) (t : TypeId) (x y : Operand) (ho : o.op = .build t #[(0, x), (1, y)]) {vx vy u : Value} (hx : a.eval x = vx) (hy : a.eval y = vy) (hrun : ∀ W, (Instr.build t #[(0, vx), (1, vy)]).run Tryd.prog W = .ok u W)
    (hk : wpList Tryd.prog ops Q rest (a.put o.dst u) w) : wpList Tryd.prog ops Q (o :: rest) a w := by
  refine wpList_plain hgd fun K hK => ?_
  unfold Oper.wp execOp
  simp only [ho, List.map_toArray, List.map_cons, List.map_nil, hx, hy, Sem.run_bind, hrun w, Result.andThen_ok, Sem.run_pure]
  exact hK _ _ hk
end
theorem smay_enter (v : Value) (W : World) : (callFunc 30 #[v]).run Tryd.prog W = .ok (.enter 30 #[v]) W := by kernel_rfl
theorem swrite_enter (v u z : Value) (W : World) : (callFunc 14 #[v, u, z]).run Tryd.prog W = .ok (.enter 14 #[v, u, z]) W := by kernel_rfl
set_option maxRecDepth 100000 in
set_option maxHeartbeats 1000000 in
theorem newW_nil {w : World} (s : SL) : Calls Tryd.prog 22 #[.pointer none, .agg (slV s).toArray] w fun e w' => e = .returned (.tuple #[.pointer none, .int .i64 1]) ∧ Below w.heap.size w w' := by
  generalize slV s = cs1
  go_enter Tryd.func22, Tryd.ntmps22
  go_wp2_with (first
    | (refine wpList_boxJ rfl 27 (.tmp 1) rfl rfl ?_; intro w1 hA1 hb1 hs1
       have HB1 := hide hb1
       clear hA1 hb1 hs1)
    | fail)
  go_ret2
  exact ⟨rfl, HB1.out⟩
set_option maxRecDepth 100000 in
set_option maxHeartbeats 2000000 in
theorem newW_calls {w0 w : World} {p : Nat} {D : AD} {s : SL} (hS : Sn w0 w p D) (hs : s.Ok) : Calls Tryd.prog 22 #[.pointer (some ⟨p, 0, none⟩), .agg (slV s).toArray] w fun e w' => ((¬ (s.May ∧ s.sc = (D.la.length : Int)) ∧ e = .returned (.tuple #[.pointer none, .int .i64 180])) ∨ (s.May ∧ s.sc = (D.la.length : Int) ∧ ∃ pw, e = .returned (.tuple #[.pointer (some ⟨pw, 0, none⟩), .int .i64 0]) ∧ w.heap.size ≤ pw ∧ Arr w' pw 104 (rwV p s 0))) ∧ Below w.heap.size w w' := by
  have HMB : Hid (∀ W, Calls Tryd.prog 30 #[.agg (slV s).toArray] W fun e w' => e = .returned (.bool s.may) ∧ Below W.heap.size W w') := hide (fun W => mayBe_calls hs)
  have HSC : Hid (∀ W, Below w.heap.size w W → Calls Tryd.prog 50 #[.pointer (some ⟨p, 0, none⟩)] W fun e w' => e = .returned (.int .i64 (D.la.length : Int)) ∧ w' = W) := hide (fun W hW => sn_sectors (hS.below hW))
  have HF : Hid (∀ W, Arr W w.heap.size 27 (slV s) → W.cell? ⟨w.heap.size, 0, none⟩ = some (.int .i64 s.sc) ∧ W.rangeAt w.heap.size 0 (slV s)) := hide (fun W hA => ⟨(hA.cell 0).trans (slV_at s).1, hA.rangeJ⟩)
  have hinf := infoSof hs
  have hbl := hide (fun W => buildWr hs p W)
  by_cases hm : s.May
  · have hmm : s.may = true := (SL.may_iff s).2 hm
    rw [hmm] at HMB
    by_cases hsc : s.sc = (D.la.length : Int)
    · have HQ : Hid (s.May ∧ s.sc = (D.la.length : Int)) := hide ⟨hm, hsc⟩
      rw [hsc] at HF
      generalize hcs : slV s = cs1 at *
      generalize D.la.length = N at *
      generalize hrw : rwV p s 0 = rw0 at *
      clear hS hs hm hsc hmm hcs hrw
      go_enter Tryd.func22, Tryd.ntmps22
      go_wp2_with (first
        | (refine wpList_boxJ rfl 27 (.tmp 1) rfl rfl ?_; intro w1 hA1 hb1 hs1
           have HB1 := hide hb1
           have HA1 := hide hA1
           clear hA1 hb1 hs1)
        | fail)
      have HS : Hid (∀ W, Below w1.heap.size w1 W → (fun W => W.cell? ⟨w.heap.size, 0, none⟩ = some (.int .i64 (N : Int)) ∧ W.rangeAt w.heap.size 0 cs1) W) := hide (fun W hW => unhide HF W (HA1.out.below hW))
      have HBD := hide ((Below.refl w1.heap.size w1).drew)
      refine wp_region_held_drew (S := fun W => W.cell? ⟨w.heap.size, 0, none⟩ = some (.int .i64 (N : Int)) ∧ W.rangeAt w.heap.size 0 cs1) (by kernel_rfl) (unhide HS _ HBD.out) (fun hHeld => ?_)
      refine wpAnyH_take (i := 0) (v := .agg (cs1).toArray) rfl (by kernel_rfl) (by kernel_rfl) (by kernel_rfl) (fun _ _ _ h => h) (yieldsIf_load_mid (by rfl) _ _ rfl _ _ rfl _ _ (fun w hSw => hSw.2) Tryd.underlying27 rfl hinf) (by assumption) ?_
      simp only [List.getElem_toArray, List.getElem_cons_zero, Act.put, List.setIfInBounds_toArray, List.set_cons_zero, List.set_cons_succ]
      refine wpAnyH_ready (rs := [1]) (by kernel_rfl) (by simp) (AllReadyH.cons rfl (fun K hK => ?_) AllReadyH.nil)
      refine step_call1J (by rfl) 30 smay_enter (.tmp 8) _ rfl rfl (unhide HMB _) ?_
      rintro e wma ⟨rfl, hbma⟩
      have HBma := hide (below_then HBD.out hbma)
      clear hbma
      refine ⟨_, rfl, ?_⟩
      refine hK.out _ _ (unhide HS _ HBma.out) (fun hJ1 => ?_)
      clear hK K
      simp only [List.getElem_toArray, List.getElem_cons_succ, List.getElem_cons_zero, Act.put, List.setIfInBounds_toArray, List.set_cons_zero, List.set_cons_succ]
      refine wpAnyH_take (i := 2) (v := .bool false) rfl (by kernel_rfl) (by kernel_rfl) (by kernel_rfl) (fun _ _ _ h => h) (Or.inl ⟨by rfl, fun w hSw => by obtain ⟨hS1, hS2⟩ := hSw; go_simp⟩) (by assumption) ?_
      simp only [List.getElem_toArray, List.getElem_cons_succ, List.getElem_cons_zero, Act.put, List.setIfInBounds_toArray, List.set_cons_zero, List.set_cons_succ]
      refine wpAnyH_take (i := 3) (v := .bool false) rfl (by kernel_rfl) (by kernel_rfl) (by kernel_rfl) (fun _ _ _ h => h) (Or.inl ⟨by rfl, fun w hSw => by obtain ⟨hS1, hS2⟩ := hSw; go_simp⟩) (by assumption) ?_
      simp only [List.getElem_toArray, List.getElem_cons_succ, List.getElem_cons_zero, Act.put, List.setIfInBounds_toArray, List.set_cons_zero, List.set_cons_succ]
      refine wpAnyH_take (i := 4) (v := .pointer (some ⟨w.heap.size, 0, none⟩)) rfl (by kernel_rfl) (by kernel_rfl) (by kernel_rfl) (fun _ _ _ h => h) (Or.inl ⟨by rfl, fun w hSw => by obtain ⟨hS1, hS2⟩ := hSw; go_simp⟩) (by assumption) ?_
      simp only [List.getElem_toArray, List.getElem_cons_succ, List.getElem_cons_zero, Act.put, List.setIfInBounds_toArray, List.set_cons_zero, List.set_cons_succ]
      refine wpAnyH_take (i := 5) (v := .int .i64 (N : Int)) rfl (by kernel_rfl) (by kernel_rfl) (by kernel_rfl) (fun _ _ _ h => h) (Or.inl ⟨by rfl, fun w hSw => by obtain ⟨hS1, hS2⟩ := hSw; go_simp⟩) (by assumption) ?_
      simp only [List.getElem_toArray, List.getElem_cons_succ, List.getElem_cons_zero, Act.put, List.setIfInBounds_toArray, List.set_cons_zero, List.set_cons_succ]
      refine wpAnyH_take (i := 6) (v := .pointer (some ⟨p, 0, none⟩)) rfl (by kernel_rfl) (by kernel_rfl) (by kernel_rfl) (fun _ _ _ h => h) (Or.inl ⟨by rfl, fun w hSw => by obtain ⟨hS1, hS2⟩ := hSw; go_simp⟩) (by assumption) ?_
      simp only [List.getElem_toArray, List.getElem_cons_succ, List.getElem_cons_zero, Act.put, List.setIfInBounds_toArray, List.set_cons_zero, List.set_cons_succ]
      refine wpAnyH_ready (rs := [7]) (by kernel_rfl) (by simp) (AllReadyH.cons rfl (fun K hK => ?_) AllReadyH.nil)
      refine step_call1J (by rfl) 50 ssec_enter (.tmp 14) _ rfl rfl (unhide HSC _ (below_then HB1.out HBma.out)) ?_
      rintro e wn ⟨rfl, hwn⟩
      obtain rfl := hwn.symm
      clear hwn
      refine ⟨_, rfl, ?_⟩
      refine hK.out _ _ (unhide HS _ HBma.out) (fun hJ2 => ?_)
      clear hK K
      simp only [List.getElem_toArray, List.getElem_cons_succ, List.getElem_cons_zero, Act.put, List.setIfInBounds_toArray, List.set_cons_zero, List.set_cons_succ]
      refine wpAnyH_take (i := 8) (v := .bool false) rfl (by kernel_rfl) (by kernel_rfl) (by kernel_rfl) (fun _ _ _ h => h) (Or.inl ⟨by rfl, fun w hSw => by obtain ⟨hS1, hS2⟩ := hSw; go_simp⟩) (by assumption) ?_
      simp only [List.getElem_toArray, List.getElem_cons_succ, List.getElem_cons_zero, Act.put, List.setIfInBounds_toArray, List.set_cons_zero, List.set_cons_succ]
      refine wpAnyH_take (i := 9) (v := .bool false) rfl (by kernel_rfl) (by kernel_rfl) (by kernel_rfl) (fun _ _ _ h => h) (Or.inl ⟨by rfl, fun w hSw => by obtain ⟨hS1, hS2⟩ := hSw; go_simp⟩) (by assumption) ?_
      simp only [List.getElem_toArray, List.getElem_cons_succ, List.getElem_cons_zero, Act.put, List.setIfInBounds_toArray, List.set_cons_zero, List.set_cons_succ]
      refine wpAnyH_done (by kernel_rfl) ?_ _
      go_wp2_with (first
        | (refine wpList_loadJ rfl 27 (.tmp 3) rfl _ 0 rfl cs1 _ (unhide HS _ HBma.out).2 Tryd.underlying27 rfl hinf ?_)
        | (refine wpList_bld2S rfl 104 (.tmp 18) (.tmp 19) rfl (vx := .pointer (some ⟨p, 0, none⟩)) (vy := .agg cs1.toArray) rfl rfl hbl.out ?_)
        | (refine wpList_boxJ rfl 104 (.tmp 20) rfl (cs := rw0) rfl ?_; intro w9 hA9 hb9 hs9
           have HA9 := hide hA9
           have HB9 := hide (below_then (below_then HB1.out HBma.out) hb9)
           clear hA9 hb9 hs9)
        | fail)
      go_ret2
      exact ⟨Or.inr ⟨HQ.out.1, HQ.out.2, _, rfl, (below_then HB1.out HBma.out).size, HA9.out⟩, HB9.out⟩
    · have HQ : Hid (¬ (s.May ∧ s.sc = (D.la.length : Int))) := hide (fun h => hsc h.2)
      have hne : (s.sc != (D.la.length : Int)) = true := by simpa using hsc
      generalize slV s = cs1 at *
      generalize s.sc = x0 at *
      generalize D.la.length = N at *
      clear hS hs hm hsc hmm hbl
      go_enter Tryd.func22, Tryd.ntmps22
      go_wp2_with (first
        | (refine wpList_boxJ rfl 27 (.tmp 1) rfl rfl ?_; intro w1 hA1 hb1 hs1
           have HB1 := hide hb1
           have HA1 := hide hA1
           clear hA1 hb1 hs1)
        | fail)
      have HS : Hid (∀ W, Below w1.heap.size w1 W → (fun W => W.cell? ⟨w.heap.size, 0, none⟩ = some (.int .i64 x0) ∧ W.rangeAt w.heap.size 0 cs1) W) := hide (fun W hW => unhide HF W (HA1.out.below hW))
      have HBD := hide ((Below.refl w1.heap.size w1).drew)
      refine wp_region_held_drew (S := fun W => W.cell? ⟨w.heap.size, 0, none⟩ = some (.int .i64 x0) ∧ W.rangeAt w.heap.size 0 cs1) (by kernel_rfl) (unhide HS _ HBD.out) (fun hHeld => ?_)
      refine wpAnyH_take (i := 0) (v := .agg (cs1).toArray) rfl (by kernel_rfl) (by kernel_rfl) (by kernel_rfl) (fun _ _ _ h => h) (yieldsIf_load_mid (by rfl) _ _ rfl _ _ rfl _ _ (fun w hSw => hSw.2) Tryd.underlying27 rfl hinf) (by assumption) ?_
      simp only [List.getElem_toArray, List.getElem_cons_zero, Act.put, List.setIfInBounds_toArray, List.set_cons_zero, List.set_cons_succ]
      refine wpAnyH_ready (rs := [1]) (by kernel_rfl) (by simp) (AllReadyH.cons rfl (fun K hK => ?_) AllReadyH.nil)
      refine step_call1J (by rfl) 30 smay_enter (.tmp 8) _ rfl rfl (unhide HMB _) ?_
      rintro e wma ⟨rfl, hbma⟩
      have HBma := hide (below_then HBD.out hbma)
      clear hbma
      refine ⟨_, rfl, ?_⟩
      refine hK.out _ _ (unhide HS _ HBma.out) (fun hJ1 => ?_)
      clear hK K
      simp only [List.getElem_toArray, List.getElem_cons_succ, List.getElem_cons_zero, Act.put, List.setIfInBounds_toArray, List.set_cons_zero, List.set_cons_succ]
      refine wpAnyH_take (i := 2) (v := .bool false) rfl (by kernel_rfl) (by kernel_rfl) (by kernel_rfl) (fun _ _ _ h => h) (Or.inl ⟨by rfl, fun w hSw => by obtain ⟨hS1, hS2⟩ := hSw; go_simp⟩) (by assumption) ?_
      simp only [List.getElem_toArray, List.getElem_cons_succ, List.getElem_cons_zero, Act.put, List.setIfInBounds_toArray, List.set_cons_zero, List.set_cons_succ]
      refine wpAnyH_take (i := 3) (v := .bool false) rfl (by kernel_rfl) (by kernel_rfl) (by kernel_rfl) (fun _ _ _ h => h) (Or.inl ⟨by rfl, fun w hSw => by obtain ⟨hS1, hS2⟩ := hSw; go_simp⟩) (by assumption) ?_
      simp only [List.getElem_toArray, List.getElem_cons_succ, List.getElem_cons_zero, Act.put, List.setIfInBounds_toArray, List.set_cons_zero, List.set_cons_succ]
      refine wpAnyH_take (i := 4) (v := .pointer (some ⟨w.heap.size, 0, none⟩)) rfl (by kernel_rfl) (by kernel_rfl) (by kernel_rfl) (fun _ _ _ h => h) (Or.inl ⟨by rfl, fun w hSw => by obtain ⟨hS1, hS2⟩ := hSw; go_simp⟩) (by assumption) ?_
      simp only [List.getElem_toArray, List.getElem_cons_succ, List.getElem_cons_zero, Act.put, List.setIfInBounds_toArray, List.set_cons_zero, List.set_cons_succ]
      refine wpAnyH_take (i := 5) (v := .int .i64 x0) rfl (by kernel_rfl) (by kernel_rfl) (by kernel_rfl) (fun _ _ _ h => h) (Or.inl ⟨by rfl, fun w hSw => by obtain ⟨hS1, hS2⟩ := hSw; go_simp⟩) (by assumption) ?_
      simp only [List.getElem_toArray, List.getElem_cons_succ, List.getElem_cons_zero, Act.put, List.setIfInBounds_toArray, List.set_cons_zero, List.set_cons_succ]
      refine wpAnyH_take (i := 6) (v := .pointer (some ⟨p, 0, none⟩)) rfl (by kernel_rfl) (by kernel_rfl) (by kernel_rfl) (fun _ _ _ h => h) (Or.inl ⟨by rfl, fun w hSw => by obtain ⟨hS1, hS2⟩ := hSw; go_simp⟩) (by assumption) ?_
      simp only [List.getElem_toArray, List.getElem_cons_succ, List.getElem_cons_zero, Act.put, List.setIfInBounds_toArray, List.set_cons_zero, List.set_cons_succ]
      refine wpAnyH_ready (rs := [7]) (by kernel_rfl) (by simp) (AllReadyH.cons rfl (fun K hK => ?_) AllReadyH.nil)
      refine step_call1J (by rfl) 50 ssec_enter (.tmp 14) _ rfl rfl (unhide HSC _ (below_then HB1.out HBma.out)) ?_
      rintro e wn ⟨rfl, hwn⟩
      obtain rfl := hwn.symm
      clear hwn
      refine ⟨_, rfl, ?_⟩
      refine hK.out _ _ (unhide HS _ HBma.out) (fun hJ2 => ?_)
      clear hK K
      simp only [List.getElem_toArray, List.getElem_cons_succ, List.getElem_cons_zero, Act.put, List.setIfInBounds_toArray, List.set_cons_zero, List.set_cons_succ]
      refine wpAnyH_take (i := 8) (v := .bool true) rfl (by kernel_rfl) (by kernel_rfl) (by kernel_rfl) (fun _ _ _ h => h) (Or.inl ⟨by rfl, fun w hSw => by obtain ⟨hS1, hS2⟩ := hSw; go_simp⟩) (by assumption) ?_
      simp only [List.getElem_toArray, List.getElem_cons_succ, List.getElem_cons_zero, Act.put, List.setIfInBounds_toArray, List.set_cons_zero, List.set_cons_succ]
      refine wpAnyH_take (i := 9) (v := .bool true) rfl (by kernel_rfl) (by kernel_rfl) (by kernel_rfl) (fun _ _ _ h => h) (Or.inl ⟨by rfl, fun w hSw => by obtain ⟨hS1, hS2⟩ := hSw; go_simp⟩) (by assumption) ?_
      simp only [List.getElem_toArray, List.getElem_cons_succ, List.getElem_cons_zero, Act.put, List.setIfInBounds_toArray, List.set_cons_zero, List.set_cons_succ]
      refine wpAnyH_done (by kernel_rfl) ?_ _
      go_wp2
      go_ret2
      exact ⟨Or.inl ⟨fun q1 q2 => HQ.out ⟨q1, q2⟩, rfl⟩, below_then HB1.out HBma.out⟩
  · have HQ : Hid (¬ (s.May ∧ s.sc = (D.la.length : Int))) := hide (fun h => hm h.1)
    rw [SL.may_no hm] at HMB
    generalize slV s = cs1 at *
    generalize s.sc = x0 at *
    generalize D.la.length = N at *
    clear hS hs hm hbl
    go_enter Tryd.func22, Tryd.ntmps22
    go_wp2_with (first
      | (refine wpList_boxJ rfl 27 (.tmp 1) rfl rfl ?_; intro w1 hA1 hb1 hs1
         have HB1 := hide hb1
         have HA1 := hide hA1
         clear hA1 hb1 hs1)
      | fail)
    have HS : Hid (∀ W, Below w1.heap.size w1 W → (fun W => W.cell? ⟨w.heap.size, 0, none⟩ = some (.int .i64 x0) ∧ W.rangeAt w.heap.size 0 cs1) W) := hide (fun W hW => unhide HF W (HA1.out.below hW))
    have HBD := hide ((Below.refl w1.heap.size w1).drew)
    refine wp_region_held_drew (S := fun W => W.cell? ⟨w.heap.size, 0, none⟩ = some (.int .i64 x0) ∧ W.rangeAt w.heap.size 0 cs1) (by kernel_rfl) (unhide HS _ HBD.out) (fun hHeld => ?_)
    refine wpAnyH_take (i := 0) (v := .agg (cs1).toArray) rfl (by kernel_rfl) (by kernel_rfl) (by kernel_rfl) (fun _ _ _ h => h) (yieldsIf_load_mid (by rfl) _ _ rfl _ _ rfl _ _ (fun w hSw => hSw.2) Tryd.underlying27 rfl hinf) (by assumption) ?_
    simp only [List.getElem_toArray, List.getElem_cons_zero, Act.put, List.setIfInBounds_toArray, List.set_cons_zero, List.set_cons_succ]
    refine wpAnyH_ready (rs := [1]) (by kernel_rfl) (by simp) (AllReadyH.cons rfl (fun K hK => ?_) AllReadyH.nil)
    refine step_call1J (by rfl) 30 smay_enter (.tmp 8) _ rfl rfl (unhide HMB _) ?_
    rintro e wma ⟨rfl, hbma⟩
    have HBma := hide (below_then HBD.out hbma)
    clear hbma
    refine ⟨_, rfl, ?_⟩
    refine hK.out _ _ (unhide HS _ HBma.out) (fun hJ1 => ?_)
    clear hK K
    simp only [List.getElem_toArray, List.getElem_cons_succ, List.getElem_cons_zero, Act.put, List.setIfInBounds_toArray, List.set_cons_zero, List.set_cons_succ]
    refine wpAnyH_take (i := 2) (v := .bool true) rfl (by kernel_rfl) (by kernel_rfl) (by kernel_rfl) (fun _ _ _ h => h) (Or.inl ⟨by rfl, fun w hSw => by obtain ⟨hS1, hS2⟩ := hSw; go_simp⟩) (by assumption) ?_
    simp only [List.getElem_toArray, List.getElem_cons_succ, List.getElem_cons_zero, Act.put, List.setIfInBounds_toArray, List.set_cons_zero, List.set_cons_succ]
    refine wpAnyH_take (i := 3) (v := .bool true) rfl (by kernel_rfl) (by kernel_rfl) (by kernel_rfl) (fun _ _ _ h => h) (Or.inl ⟨by rfl, fun w hSw => by obtain ⟨hS1, hS2⟩ := hSw; go_simp⟩) (by assumption) ?_
    simp only [List.getElem_toArray, List.getElem_cons_succ, List.getElem_cons_zero, Act.put, List.setIfInBounds_toArray, List.set_cons_zero, List.set_cons_succ]
    refine wpAnyH_take (i := 4) (v := undef) rfl (by kernel_rfl) (by kernel_rfl) (by kernel_rfl) (fun _ _ _ h => h) (Or.inr ⟨by rfl, rfl⟩) (by assumption) ?_
    simp only [List.getElem_toArray, List.getElem_cons_succ, List.getElem_cons_zero, Act.put, List.setIfInBounds_toArray, List.set_cons_zero, List.set_cons_succ]
    refine wpAnyH_take (i := 5) (v := undef) rfl (by kernel_rfl) (by kernel_rfl) (by kernel_rfl) (fun _ _ _ h => h) (Or.inr ⟨by rfl, rfl⟩) (by assumption) ?_
    simp only [List.getElem_toArray, List.getElem_cons_succ, List.getElem_cons_zero, Act.put, List.setIfInBounds_toArray, List.set_cons_zero, List.set_cons_succ]
    refine wpAnyH_take (i := 6) (v := undef) rfl (by kernel_rfl) (by kernel_rfl) (by kernel_rfl) (fun _ _ _ h => h) (Or.inr ⟨by rfl, rfl⟩) (by assumption) ?_
    simp only [List.getElem_toArray, List.getElem_cons_succ, List.getElem_cons_zero, Act.put, List.setIfInBounds_toArray, List.set_cons_zero, List.set_cons_succ]
    refine wpAnyH_take (i := 7) (v := undef) rfl (by kernel_rfl) (by kernel_rfl) (by kernel_rfl) (fun _ _ _ h => h) (Or.inr ⟨by rfl, rfl⟩) (by assumption) ?_
    simp only [List.getElem_toArray, List.getElem_cons_succ, List.getElem_cons_zero, Act.put, List.setIfInBounds_toArray, List.set_cons_zero, List.set_cons_succ]
    refine wpAnyH_take (i := 8) (v := undef) rfl (by kernel_rfl) (by kernel_rfl) (by kernel_rfl) (fun _ _ _ h => h) (Or.inr ⟨by rfl, rfl⟩) (by assumption) ?_
    simp only [List.getElem_toArray, List.getElem_cons_succ, List.getElem_cons_zero, Act.put, List.setIfInBounds_toArray, List.set_cons_zero, List.set_cons_succ]
    refine wpAnyH_take (i := 9) (v := .bool true) rfl (by kernel_rfl) (by kernel_rfl) (by kernel_rfl) (fun _ _ _ h => h) (Or.inl ⟨by rfl, fun w hSw => by obtain ⟨hS1, hS2⟩ := hSw; go_simp⟩) (by assumption) ?_
    simp only [List.getElem_toArray, List.getElem_cons_succ, List.getElem_cons_zero, Act.put, List.setIfInBounds_toArray, List.set_cons_zero, List.set_cons_succ]
    refine wpAnyH_done (by kernel_rfl) ?_ _
    go_wp2
    go_ret2
    exact ⟨Or.inl ⟨fun q1 q2 => HQ.out ⟨q1, q2⟩, rfl⟩, below_then HB1.out HBma.out⟩
end Go.Proofs.YtbgknbjpbobebaaDoor
