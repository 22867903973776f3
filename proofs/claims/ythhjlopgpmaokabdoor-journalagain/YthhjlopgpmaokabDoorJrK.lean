/- Records held against one another. -/
import Derived.Test.YthhjlopgpmaokabDoorJrJ
import Derived.Test.YthhjlopgpmaokabDoorKeyEq
namespace Go.Proofs.YthhjlopgpmaokabDoor
open Go.RowKit Go.Maps

theorem jpart_row {t : TypeId} {d : TypeDesc} {cs : List Value} {o n : Nat} (hu : Tryd.prog.underlying t = some d) (hd : d.isRow = true) (hi : (Tryd.prog.info? t).map (·.size) = some n) (W : World) : (part t cs.toArray o).run Tryd.prog W = .ok (.agg ((cs.drop o).take n).toArray) W := by
  have hagg : (isAgg t).run Tryd.prog W = .ok true W := by
    unfold isAgg
    rw [Sem.run_bind, run_underlying hu W]
    cases d <;> simp_all
  cases hq : Tryd.prog.info? t with
  | none => simp [hq] at hi
  | some i =>
    have hs : i.size = n := by simpa [hq] using hi
    simp [part, Sem.run_bind, hagg, sizeOf, typeInfo, hq, hs]
theorem jpart_cell {t : TypeId} {d : TypeDesc} {cs : List Value} {o : Nat} {v : Value} (hu : Tryd.prog.underlying t = some d) (hd : d.isRow = false) (hc : cs[o]? = some v) (W : World) : (part t cs.toArray o).run Tryd.prog W = .ok v W := by
  have hagg : (isAgg t).run Tryd.prog W = .ok false W := by
    unfold isAgg
    rw [Sem.run_bind, run_underlying hu W]
    cases d <;> simp_all
  simp [part, Sem.run_bind, hagg, hc]
theorem infoJkz : (Tryd.prog.info? 33).map (·.size) = some 32 := by kernel_rfl
theorem jref_equal {hs hs' : List Int} {fi le fi' le' : Int} (lx : hs.length = 32) (ly : hs'.length = 32) (W : World) : (Op.equalIn 10000 73 (.agg (jfV ⟨hs, fi, le⟩).toArray) (.agg (jfV ⟨hs', fi', le'⟩).toArray)).run Tryd.prog W = .ok (decide (hs = hs') && decide (fi = fi') && decide (le = le')) W := by
  have ui := Tryd.underlying3
  have uk := Tryd.underlying33
  rw [run_equalIn_struct W 9999 73 _ _ (by kernel_rfl) (by kernel_rfl)]
  have q1 : ∀ (a b : Int) (W : World), (Op.equalIn 9999 3 (.int .i64 a) (.int .i64 b)).run Tryd.prog W = .ok (a == b) W := fun a b W => run_equalIn_int W 9998 3 .i64 .i64 a b ui
  have q2 := fun W => run_equalIn_ints (P := Tryd.prog) W 9997 .u8 33 5 32 uk Tryd.underlying5 size8 hs hs' lx ly
  have px0 := fun W => jpart_row (cs := jfV ⟨hs, fi, le⟩) (o := 0) uk rfl infoJkz W
  have py0 := fun W => jpart_row (cs := jfV ⟨hs', fi', le'⟩) (o := 0) uk rfl infoJkz W
  have ex : ((jfV ⟨hs, fi, le⟩).drop 0).take 32 = hs.map (Value.int .u8) := by unfold jfV; rw [List.drop_zero]; exact List.take_left' (by simp [lx])
  have ey : ((jfV ⟨hs', fi', le'⟩).drop 0).take 32 = hs'.map (Value.int .u8) := by unfold jfV; rw [List.drop_zero]; exact List.take_left' (by simp [ly])
  rw [ex] at px0
  rw [ey] at py0
  have px1 := fun W => jpart_cell (cs := jfV ⟨hs, fi, le⟩) (o := 32) (v := .int .i64 fi) ui rfl (by unfold jfV; rw [List.getElem?_append_right (by simp [lx])]; simp [lx]) W
  have py1 := fun W => jpart_cell (cs := jfV ⟨hs', fi', le'⟩) (o := 32) (v := .int .i64 fi') ui rfl (by unfold jfV; rw [List.getElem?_append_right (by simp [ly])]; simp [ly]) W
  have px2 := fun W => jpart_cell (cs := jfV ⟨hs, fi, le⟩) (o := 33) (v := .int .i64 le) ui rfl (by unfold jfV; rw [List.getElem?_append_right (by simp [lx])]; simp [lx]) W
  have py2 := fun W => jpart_cell (cs := jfV ⟨hs', fi', le'⟩) (o := 33) (v := .int .i64 le') ui rfl (by unfold jfV; rw [List.getElem?_append_right (by simp [ly])]; simp [ly]) W
  simp only [Program.fieldsOf, Tryd.underlying73]
  generalize (jfV ⟨hs, fi, le⟩).toArray = cx at *
  generalize (jfV ⟨hs', fi', le'⟩).toArray = cy at *
  generalize hk : decide (hs = hs') = bk at *
  by_cases h2 : fi = fi' <;> by_cases h3 : le = le' <;> cases bk <;> simp [Op.eqFields, px0, py0, px1, py1, px2, py2, q1, q2, h2, h3]
theorem jref_eql {hs : List Int} {fi le : Int} (lx : hs.length = 32) (W : World) : (binOp .eql 73 (.agg (jfV ⟨hs, fi, le⟩).toArray) (.agg (jfV ⟨hs, fi, le⟩).toArray)).run Tryd.prog W = .ok (.bool true) W := by
  rw [run_eql_struct, jref_equal lx lx]; simp
theorem jref_neq {hs : List Int} {fi le : Int} (lx : hs.length = 32) (W : World) : (binOp .neq 73 (.agg (jfV ⟨hs, fi, le⟩).toArray) (.agg (jfV ⟨hs, fi, le⟩).toArray)).run Tryd.prog W = .ok (.bool false) W := by
  rw [run_neq_struct, jref_equal lx lx]; simp
theorem jref_guard (op : BinOp) (x y : Operand) (xs ys : Array Value) (w : World) : (eqGuard op 73 x y (.agg xs) (.agg ys)).run Tryd.prog w = .ok () w := run_eqGuard_agg w op 73 x y xs ys (by kernel_rfl)

theorem jref_neqR {r : JF} (h : r.h.length = 32) (W : World) : (binOp .neq 73 (.agg (jfV r).toArray) (.agg (jfV r).toArray)).run Tryd.prog W = .ok (.bool false) W := jref_neq (hs := r.h) (fi := r.f) (le := r.l) h W
set_option maxRecDepth 100000 in
set_option maxHeartbeats 4000000 in
theorem samerec_calls {w : World} {r : JR} {v1 v2 : Value} (hr : r.Ok) (h1 : IsJ w v1 r.rs) (h2 : IsJ w v2 r.rs) : Calls Tryd.prog 24 #[.agg (jrV r v1).toArray, .agg (jrV r v2).toArray] w fun e w' => e = .returned (.bool true) ∧ Below w.heap.size w w' := by
  obtain ⟨_, a1, c1, hv1, hl1, hm1, _, hc1⟩ := id h1
  obtain ⟨_, a2, c2, hv2, hl2, hm2, _, hc2⟩ := id h2
  have HR1 : Hid (∀ W, Below w.heap.size w W → ∀ j, j < r.rs.length → ∃ b o, a1 = some ⟨b, o, none⟩ ∧ W.rangeAt b (o + j * 34) (jfV (r.rs.getD j .nul))) := hide (fun W hW j hj => by
    obtain ⟨b, o, ha, hr⟩ := hc1 (by omega)
    exact ⟨b, o, ha, jrange_kept (hr j hj) hW⟩)
  have HR2 : Hid (∀ W, Below w.heap.size w W → ∀ j, j < r.rs.length → ∃ b o, a2 = some ⟨b, o, none⟩ ∧ W.rangeAt b (o + j * 34) (jfV (r.rs.getD j .nul))) := hide (fun W hW j hj => by
    obtain ⟨b, o, ha, hr⟩ := hc2 (by omega)
    exact ⟨b, o, ha, jrange_kept (hr j hj) hW⟩)
  have HF : Hid (∀ W g v, Arr W g 52 (jrV r v) → W.cell? ⟨g, 0, none⟩ = some (.int .i64 r.n) ∧ W.cell? ⟨g, 33, none⟩ = some v ∧ W.rangeAt g 1 (r.p.map (Value.int .u8))) := hide (fun W g v hA => ⟨hA.cell 0, (hA.cell 33).trans (jrV_v hr.len v), fun j u hu => by rw [hA.cell]; exact jrV_p j u hu⟩)
  have HOK := hide hr.refs
  have hinfK := infoKof hr.len
  have hkn : ∀ W, (binOp .neq 33 (.agg (r.p.map (Value.int .u8)).toArray) (.agg (r.p.map (Value.int .u8)).toArray)).run Tryd.prog W = .ok (.bool false) W := fun W => by rw [key_neq r.p r.p hr.len hr.len]; simp
  have hkg := key_guard
  have hrg := jref_guard
  subst hv1 hv2
  generalize hcs1 : jrV r (.slice a1 r.rs.length c1) = cs1 at *
  generalize hcs2 : jrV r (.slice a2 r.rs.length c2) = cs2 at *
  have HCS : Hid (cs1 = jrV r (.slice a1 r.rs.length c1) ∧ cs2 = jrV r (.slice a2 r.rs.length c2)) := hide ⟨hcs1.symm, hcs2.symm⟩
  generalize hrs : r.rs = rs at *
  generalize r.n = n at *
  generalize r.p.map (Value.int .u8) = pc at *
  obtain ⟨m, hm⟩ : ∃ m, m = rs.length := ⟨_, rfl⟩
  rw [← hm] at HR1 HR2 HCS hl1 hl2
  have HM := hide hm
  clear hr h1 h2 hc1 hc2 hcs1 hcs2 hrs hm
  go_enter Tryd.func24, Tryd.ntmps24
  go_wp2_with (first
    | (refine wpList_boxJ rfl 52 (.tmp 0) rfl rfl ?_; intro w1 hA hb hs; have HA1 := hide hA; have HB1 := hide hb; have HS1 := hide hs; clear hA hb hs)
    | (refine wpList_boxJ rfl 52 (.tmp 1) rfl rfl ?_; intro w2 hA hb hs
       have hA1 := HA1.out.below hb
       rw [HCS.out.1] at hA1
       rw [HCS.out.2] at hA
       obtain ⟨x0, x33, xr⟩ := unhide HF _ _ _ hA1
       obtain ⟨y0, y33, yr⟩ := unhide HF _ _ _ hA
       have HBW := hide (below_then HB1.out hb)
       clear hA1 hA hb hs HA1 HB1)
    | (refine wpList_loadJ rfl 33 (.tmp 12) rfl _ 1 rfl pc _ xr Tryd.underlying33 rfl hinfK ?_)
    | (refine wpList_loadJ rfl 33 (.tmp 14) rfl _ 1 rfl pc _ yr Tryd.underlying33 rfl hinfK ?_)
    | fail)
  have HX : Hid (∀ W, Below w2.heap.size w2 W → W.cell? ⟨w.heap.size, 33, none⟩ = some (.slice a1 m c1) ∧ W.cell? ⟨w1.heap.size, 33, none⟩ = some (.slice a2 m c2) ∧ Below w.heap.size w W) := hide (fun W hW => ⟨(hW.cell (p := ⟨w.heap.size, 33, none⟩) (World.block_lt_of_cell? w2 _ x33)).trans x33, (hW.cell (p := ⟨w1.heap.size, 33, none⟩) (World.block_lt_of_cell? w2 _ y33)).trans y33, below_then HBW.out hW⟩)
  clear x0 y0 xr yr
  go_loopw [5] (fun i W => ∃ k : Nat, k ≤ m ∧ i = .int .i64 k ∧ Hid (Below w2.heap.size w2 W)) (fun i _ => m - (intOf i).toNat)
  case atStart => exact ⟨0, Nat.zero_le _, rfl, hide (Below.refl _ _)⟩
  case round =>
    clear x33 y33
    obtain ⟨k, hk, rfl, HW⟩ := hrel
    obtain ⟨x33, y33, hbw⟩ := unhide HX wr HW.out
    have HBR := hide hbw
    have HBD : Hid (Below w2.heap.size w2 wr.drew) := hide HW.out.drew
    clear hbw
    by_cases hlt : k < m
    · obtain ⟨b1, o1, rfl, hr1⟩ := unhide HR1 wr HBR.out k hlt
      obtain ⟨b2, o2, rfl, hr2⟩ := unhide HR2 wr HBR.out k hlt
      have hrok : (rs.getD k .nul).Ok := jf_get (P := JF.Ok) HOK.out (by rw [← HM.out]; exact hlt)
      generalize rs.getD k .nul = rk at *
      have hinf := infoJof hrok
      have hrn := fun W => jref_neqR hrok.len W
      generalize jfV rk = rc at *
      clear hrok
      go_wp2_with fail
      refine wp_region_held_drew (S := fun W => W.cell? ⟨w.heap.size, 33, none⟩ = some (.slice (some ⟨b1, o1, none⟩) m c1) ∧ W.cell? ⟨w1.heap.size, 33, none⟩ = some (.slice (some ⟨b2, o2, none⟩) m c2) ∧ W.rangeAt b1 (o1 + k * 34) rc ∧ W.rangeAt b2 (o2 + k * 34) rc) (by kernel_rfl) (⟨x33, y33, hr1, hr2⟩) (fun hHeld => ?_)
      refine wpAnyH_take (i := 0) (v := .pointer (some ⟨w.heap.size, 33, none⟩)) rfl (by kernel_rfl) (by kernel_rfl) (by kernel_rfl) (fun _ _ _ h => h) (Or.inl ⟨by rfl, fun w hSw => by obtain ⟨hS1, hS2, hS3, hS4⟩ := hSw; go_simp⟩) (by assumption) ?_
      simp only [List.getElem_toArray, List.getElem_cons_zero, Act.put, List.setIfInBounds_toArray, List.set_cons_zero, List.set_cons_succ]
      refine wpAnyH_take (i := 1) (v := .slice (some ⟨b1, o1, none⟩) m c1) rfl (by kernel_rfl) (by kernel_rfl) (by kernel_rfl) (fun _ _ _ h => h) (Or.inl ⟨by rfl, fun w hSw => by obtain ⟨hS1, hS2, hS3, hS4⟩ := hSw; go_simp⟩) (by assumption) ?_
      simp only [List.getElem_toArray, List.getElem_cons_succ, List.getElem_cons_zero, Act.put, List.setIfInBounds_toArray, List.set_cons_zero, List.set_cons_succ]
      refine wpAnyH_take (i := 2) (v := .int .i64 (k : Int)) rfl (by kernel_rfl) (by kernel_rfl) (by kernel_rfl) (fun _ _ _ h => h) (Or.inl ⟨by rfl, fun w hSw => by obtain ⟨hS1, hS2, hS3, hS4⟩ := hSw; go_simp⟩) (by assumption) ?_
      simp only [List.getElem_toArray, List.getElem_cons_succ, List.getElem_cons_zero, Act.put, List.setIfInBounds_toArray, List.set_cons_zero, List.set_cons_succ]
      refine wpAnyH_take (i := 3) (v := .pointer (some ⟨b1, o1 + k * 34, none⟩)) rfl (by kernel_rfl) (by kernel_rfl) (by kernel_rfl) (fun _ _ _ h => h) (Or.inl ⟨by rfl, fun w hSw => by obtain ⟨hS1, hS2, hS3, hS4⟩ := hSw; go_simp⟩) (by assumption) ?_
      simp only [List.getElem_toArray, List.getElem_cons_succ, List.getElem_cons_zero, Act.put, List.setIfInBounds_toArray, List.set_cons_zero, List.set_cons_succ]
      refine wpAnyH_take (i := 4) (v := .agg (rc).toArray) rfl (by kernel_rfl) (by kernel_rfl) (by kernel_rfl) (fun _ _ _ h => h) (yieldsIf_load_mid (by rfl) _ _ rfl _ _ rfl _ _ (fun w hSw => hSw.2.2.1) Tryd.underlying73 rfl hinf) (by assumption) ?_
      simp only [List.getElem_toArray, List.getElem_cons_succ, List.getElem_cons_zero, Act.put, List.setIfInBounds_toArray, List.set_cons_zero, List.set_cons_succ]
      refine wpAnyH_take (i := 5) (v := .pointer (some ⟨w1.heap.size, 33, none⟩)) rfl (by kernel_rfl) (by kernel_rfl) (by kernel_rfl) (fun _ _ _ h => h) (Or.inl ⟨by rfl, fun w hSw => by obtain ⟨hS1, hS2, hS3, hS4⟩ := hSw; go_simp⟩) (by assumption) ?_
      simp only [List.getElem_toArray, List.getElem_cons_succ, List.getElem_cons_zero, Act.put, List.setIfInBounds_toArray, List.set_cons_zero, List.set_cons_succ]
      refine wpAnyH_take (i := 6) (v := .slice (some ⟨b2, o2, none⟩) m c2) rfl (by kernel_rfl) (by kernel_rfl) (by kernel_rfl) (fun _ _ _ h => h) (Or.inl ⟨by rfl, fun w hSw => by obtain ⟨hS1, hS2, hS3, hS4⟩ := hSw; go_simp⟩) (by assumption) ?_
      simp only [List.getElem_toArray, List.getElem_cons_succ, List.getElem_cons_zero, Act.put, List.setIfInBounds_toArray, List.set_cons_zero, List.set_cons_succ]
      refine wpAnyH_take (i := 7) (v := .int .i64 (k : Int)) rfl (by kernel_rfl) (by kernel_rfl) (by kernel_rfl) (fun _ _ _ h => h) (Or.inl ⟨by rfl, fun w hSw => by obtain ⟨hS1, hS2, hS3, hS4⟩ := hSw; go_simp⟩) (by assumption) ?_
      simp only [List.getElem_toArray, List.getElem_cons_succ, List.getElem_cons_zero, Act.put, List.setIfInBounds_toArray, List.set_cons_zero, List.set_cons_succ]
      refine wpAnyH_take (i := 8) (v := .pointer (some ⟨b2, o2 + k * 34, none⟩)) rfl (by kernel_rfl) (by kernel_rfl) (by kernel_rfl) (fun _ _ _ h => h) (Or.inl ⟨by rfl, fun w hSw => by obtain ⟨hS1, hS2, hS3, hS4⟩ := hSw; go_simp⟩) (by assumption) ?_
      simp only [List.getElem_toArray, List.getElem_cons_succ, List.getElem_cons_zero, Act.put, List.setIfInBounds_toArray, List.set_cons_zero, List.set_cons_succ]
      refine wpAnyH_take (i := 9) (v := .agg (rc).toArray) rfl (by kernel_rfl) (by kernel_rfl) (by kernel_rfl) (fun _ _ _ h => h) (yieldsIf_load_mid (by rfl) _ _ rfl _ _ rfl _ _ (fun w hSw => hSw.2.2.2) Tryd.underlying73 rfl hinf) (by assumption) ?_
      simp only [List.getElem_toArray, List.getElem_cons_succ, List.getElem_cons_zero, Act.put, List.setIfInBounds_toArray, List.set_cons_zero, List.set_cons_succ]
      refine wpAnyH_take (i := 10) (v := .bool false) rfl (by kernel_rfl) (by kernel_rfl) (by kernel_rfl) (fun _ _ _ h => h) (Or.inl ⟨by rfl, fun w hSw => by obtain ⟨hS1, hS2, hS3, hS4⟩ := hSw; go_simp⟩) (by assumption) ?_
      simp only [List.getElem_toArray, List.getElem_cons_succ, List.getElem_cons_zero, Act.put, List.setIfInBounds_toArray, List.set_cons_zero, List.set_cons_succ]
      refine wpAnyH_done (by kernel_rfl) ?_ _
      go_wp2
      go_roundw
      case rel => exact ⟨k + 1, by omega, by go_num, HBD⟩
      case measure => simp [intOf]; omega
    · go_wp2
      go_ret
      exact ⟨rfl, HBR.out⟩
end Go.Proofs.YthhjlopgpmaokabDoor
