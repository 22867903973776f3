/- What Told answers. -/
import Derived.Test.YthhjlopgpmaokabDoorJrOn
namespace Go.Proofs.YthhjlopgpmaokabDoor
open Go.RowKit Go.Maps

theorem fieldR_x (a0 a1 a2 a3 a4 a5 a6 a7 a8 a9 b0 b1 b2 b3 b4 b5 b6 b7 b8 b9 c0 c1 c2 c3 c4 c5 c6 c7 c8 c9 d0 d1 n : Int) (rs : List JF) (ua : Option Addr) (un uc : Nat) (W : World) :
    (Instr.field 52 (.agg (jrV ⟨n, [a0, a1, a2, a3, a4, a5, a6, a7, a8, a9, b0, b1, b2, b3, b4, b5, b6, b7, b8, b9, c0, c1, c2, c3, c4, c5, c6, c7, c8, c9, d0, d1], rs⟩ (.slice ua un uc)).toArray) 1).run Tryd.prog W = .ok (.agg ([a0, a1, a2, a3, a4, a5, a6, a7, a8, a9, b0, b1, b2, b3, b4, b5, b6, b7, b8, b9, c0, c1, c2, c3, c4, c5, c6, c7, c8, c9, d0, d1].map (Value.int .u8)).toArray) W ∧ (Instr.field 52 (.agg (jrV ⟨n, [a0, a1, a2, a3, a4, a5, a6, a7, a8, a9, b0, b1, b2, b3, b4, b5, b6, b7, b8, b9, c0, c1, c2, c3, c4, c5, c6, c7, c8, c9, d0, d1], rs⟩ (.slice ua un uc)).toArray) 2).run Tryd.prog W = .ok (.slice ua un uc) W := ⟨by kernel_rfl, by kernel_rfl⟩
theorem fieldR {r : JR} (hh : r.p.length = 32) (ua : Option Addr) (un uc : Nat) (W : World) : (Instr.field 52 (.agg (jrV r (.slice ua un uc)).toArray) 1).run Tryd.prog W = .ok (.agg (r.p.map (Value.int .u8)).toArray) W ∧ (Instr.field 52 (.agg (jrV r (.slice ua un uc)).toArray) 2).run Tryd.prog W = .ok (.slice ua un uc) W := by
  match r, hh with
  | ⟨n, [a0, a1, a2, a3, a4, a5, a6, a7, a8, a9, b0, b1, b2, b3, b4, b5, b6, b7, b8, b9, c0, c1, c2, c3, c4, c5, c6, c7, c8, c9, d0, d1], rs⟩, _ => exact fieldR_x a0 a1 a2 a3 a4 a5 a6 a7 a8 a9 b0 b1 b2 b3 b4 b5 b6 b7 b8 b9 c0 c1 c2 c3 c4 c5 c6 c7 c8 c9 d0 d1 n rs ua un uc W
section
variable {ops : Array Oper} {rest : List Oper} {o : Oper} {a : Act} {Q : Exit → Act → World → Prop} {w : World}
theorem wpList_bsliceG (hw : Region.wanted o (yielded ops a.tmps) = true) (t : TypeId) (x : Operand) (ho : o.op = .buildSlice t 1 #[(0, x)]) {v r : Value} {w' : World} (hx : a.eval x = v) (hr : (Instr.buildSlice t 1 #[(0, v)]).run Tryd.prog w = .ok r w') (hk : wpList Tryd.prog ops Q rest (a.put o.dst r) w') : wpList Tryd.prog ops Q (o :: rest) a w := by
  refine wpList_on hw fun K hK => ?_
  unfold Oper.wp execOp
  simp only [ho, List.map_toArray, List.map_cons, List.map_nil, hx, Sem.run_bind, hr, Result.andThen_ok, Sem.run_pure]
  exact hK _ _ hk
end
theorem same2_enter (v u : Value) (W : World) : (callFunc 26 #[v, u]).run Tryd.prog W = .ok (.enter 26 #[v, u]) W := by kernel_rfl
theorem one_enter (v : Value) (W : World) : (callFunc 31 #[v]).run Tryd.prog W = .ok (.enter 31 #[v]) W := by kernel_rfl
theorem make512 (w : World) {w' : World} (h : w'.ownsRow w.heap.size 5 1 (.slice (some ⟨w.heap.size, 0, none⟩) 512 512) 512 (madeCells (Value.int .u8 0).cells (512 * 1)).toList) : IsB w' (.slice (some ⟨w.heap.size, 0, none⟩) 512 512) zsec := by
  rw [made8, ← List.map_replicate] at h
  exact isB_owns h zsec_is.2
theorem decZ : decR zsec = .nul ∧ decE zsec = 61 := decR_none zsec_none
set_option maxRecDepth 100000 in
set_option maxHeartbeats 16000000 in
theorem jtold_calls {w : World} (ht : Tab w) : Calls Tryd.prog 10 #[] w fun e w' => e = .returned (.bool true) ∧ Below w.heap.size w w' := by
  obtain ⟨i0, hi, hz0, hz1, hz2⟩ := info_parts info8
  have HT : Hid (∀ W, Below w.heap.size w W → Tab W) := hide (fun W hW => ht.below hW)
  have HT0 := hide ht
  have HO3 : Hid (∀ W, Calls Tryd.prog 31 #[.int .i64 3] W fun e w' => ∃ u, e = .returned (.agg (jrV (oneR 3) u).toArray) ∧ OwnJ w' W.heap.size u (oneR 3).rs ∧ Below W.heap.size W w') := hide (fun W => one_calls (n := 3) (by decide))
  have HO0 : Hid (∀ W, Calls Tryd.prog 31 #[.int .i64 0] W fun e w' => ∃ u, e = .returned (.agg (jrV (oneR 0) u).toArray) ∧ OwnJ w' W.heap.size u (oneR 0).rs ∧ Below W.heap.size W w') := hide (fun W => one_calls (n := 0) (by decide))
  have hk3 := oneR_ok (n := 3) (by decide)
  have he3 := oneR_enc (n := 3) (by decide)
  have hk0 := oneR_ok (n := 0) (by decide)
  have he0 := oneR_enc (n := 0) (by decide)
  have HR3 : Hid (∀ W u, IsJ W u (oneR 3).rs → Calls Tryd.prog 32 #[.agg (jrV (oneR 3) u).toArray] W fun e w' => ∃ x, e = .returned (.tuple #[x, .int .i64 0]) ∧ Own8 w' W.heap.size x (encL (oneR 3)) ∧ Below W.heap.size W w') := hide (fun W u hu => by have := renc_calls hk3 hu; rw [he3, encR_yes he3] at this; exact this)
  have HE3 : Hid (∀ W u, IsJ W u (oneR 3).rs → Tab W → Calls Tryd.prog 30 #[.agg (jrV (oneR 3) u).toArray] W fun e w' => ∃ x, e = .returned (.tuple #[x, .int .i64 0]) ∧ Own8 w' W.heap.size x (encL (oneR 3)) ∧ Below W.heap.size W w') := hide (fun W u hu ht => by have := jenc_calls hk3 hu ht; rw [he3, encR_yes he3] at this; exact this)
  have HD3 : Hid (∀ W x, IsB W x (encL (oneR 3)) → Tab W → Calls Tryd.prog 23 #[x] W fun e w' => ∃ u, e = .returned (.tuple #[.agg (jrV (oneR 3) u).toArray, .int .i64 0]) ∧ OwnJ w' W.heap.size u (oneR 3).rs ∧ Below W.heap.size W w') := hide (fun W x hx ht => by have := jdec_calls hx ht; rw [(decR_some (dec_enc hk3 he3)).1, (decR_some (dec_enc hk3 he3)).2] at this; exact this)
  have HDZ : Hid (∀ W x, IsB W x zsec → Tab W → Calls Tryd.prog 23 #[x] W fun e w' => ∃ u, e = .returned (.tuple #[.agg (jrV .nul u).toArray, .int .i64 61]) ∧ OwnJ w' W.heap.size u JR.nul.rs ∧ Below W.heap.size W w') := hide (fun W x hx ht => by have := jdec_calls hx ht; rw [decZ.1, decZ.2] at this; exact this)
  have HSB : Hid (∀ W x y, IsB W x (encL (oneR 3)) → IsB W y (encL (oneR 3)) → Calls Tryd.prog 26 #[x, y] W fun e w' => e = .returned (.bool true) ∧ ∃ k, w' = W.drewN k) := hide (fun W x y h1 h2 => same_calls h1 h2)
  have HSR : Hid (∀ W u v, IsJ W u (oneR 3).rs → IsJ W v (oneR 3).rs → Calls Tryd.prog 24 #[.agg (jrV (oneR 3) u).toArray, .agg (jrV (oneR 3) v).toArray] W fun e w' => e = .returned (.bool true) ∧ Below W.heap.size W w') := hide (fun W u v h1 h2 => samerec_calls hk3 h1 h2)
  have hinf3 := fun u => infoRof hk3.len u
  have hlen3 := fun u => (show z34R.length = (jrV (oneR 3) u).length by rw [jrV_len hk3.len]; decide)
  have hinfN := fun u => infoRof nul_len u
  have hlenN := fun u => (show z34R.length = (jrV .nul u).length by rw [jrV_len nul_len]; decide)
  have HK0 := hide hk0
  have HKE0 := hide he0
  have HB0 := hide (Below.refl w.heap.size w)
  clear hk3 he3 hk0 he0 ht
  go_enter Tryd.func10, Tryd.ntmps10
  go_wp2_with fail
  refine (unhide HO3 _).mono ?_
  rintro e w1 ⟨u1, rfl, ho1, hb1⟩
  have HJ1 := hide ho1.isJ
  have HB1 := hide hb1
  clear ho1 hb1
  go_wp2_with fail
  refine (unhide HR3 _ _ HJ1.out).mono ?_
  rintro e w2 ⟨x2, rfl, ho2, hb2⟩
  obtain ⟨a2, n2, c2, rfl⟩ := ho2.shape
  have HWA := hide ho2.isB
  have HB2 := hide (below_then HB1.out hb2)
  clear ho2 hb2 HJ1 HB1
  go_wp2_with fail
  refine (unhide HO3 _).mono ?_
  rintro e w3 ⟨u3, rfl, ho3, hb3⟩
  have HJ3 := hide ho3.isJ
  have HB3 := hide (below_then HB2.out hb3)
  have HWA3 := hide (HWA.out.below hb3)
  clear ho3 hb3 HB2 HWA
  go_wp2_with fail
  refine (unhide HE3 _ _ HJ3.out (unhide HT _ HB3.out)).mono ?_
  rintro e w4 ⟨x4, rfl, ho4, hb4⟩
  obtain ⟨a4, n4, c4, rfl⟩ := ho4.shape
  have HEB := hide ho4.isB
  have HB4 := hide (below_then HB3.out hb4)
  have HWA4 := hide (HWA3.out.below hb4)
  clear ho4 hb4 HJ3 HB3 HWA3
  go_wp2_with fail
  refine (unhide HD3 _ _ HWA4.out (unhide HT _ HB4.out)).mono ?_
  rintro e w5 ⟨u5, rfl, ho5, hb5⟩
  obtain ⟨ua5, uc5, hus5⟩ := ho5.shape
  subst hus5
  have hA5 := Arr.new w5 z34R 52
  have hba5 := jalloc_below w5 (.cells z34R.toArray 52)
  have HST5 : Hid (∀ w6, Arr w6 w5.heap.size 52 (jrV (oneR 3) (.slice ua5 (oneR 3).rs.length uc5)) → (w5.alloc (.cells z34R.toArray 52)).grownBy w6 (some w5.heap.size) → Below w.heap.size w w6 ∧ IsB w6 (.slice a2 n2 c2) (encL (oneR 3)) ∧ IsB w6 (.slice a4 n4 c4) (encL (oneR 3)) ∧ IsJ w6 (.slice ua5 (oneR 3).rs.length uc5) (oneR 3).rs) := hide (fun w6 _ hg => by
    have hh : Below w5.heap.size w5 w6 := jbelow_grown hba5 hg hba5.size (Nat.le_refl _)
    exact ⟨below_then (below_then HB4.out hb5) hh, (HWA4.out.below hb5).below hh, (HEB.out.below hb5).below hh, ho5.isJ.below hh⟩)
  clear ho5 hb5 hba5 HB4 HWA4 HEB
  go_wp2_with (first
    | (refine wpList_allocJ rfl 52 rfl infoR ?_)
    | (refine wpList_storeJ rfl (.tmp 5) (.tmp 30) 52 rfl rfl rfl hA5 (hinf3 _) (hlen3 _) (jrV_one (oneR 3) rfl) ?_; intro w6 hA6 hg6
       obtain ⟨y1, y2, y3, y4⟩ := unhide HST5 w6 hA6 hg6
       have hs6 := y1.size
       have HB6 := hide y1
       have HW6 := hide y2
       have HE6 := hide y3
       have HJ6 := hide y4
       have HA6 := hide hA6
       clear hA6 hg6 y1 y2 y3 y4 HST5 hA5)
    | (at_make; refine wpList_make_full _ rfl _ _ 48 rfl w6.heap.size 5 i0 (.int .u8 0) 1 Tryd.underlying48 hi hz0 hz1 .i64 .i64 _ _ 512 rfl rfl rfl rfl (by rw [hz2]; omega) (by unfold maxLen; omega) (Nat.le_refl _) ?_; intro w7 hr7 hg7
       have hb7 : Below w6.heap.size w6 w7 := (Below.refl _ _).grown hg7 (Nat.le_refl _) (fun b hb => by cases hb)
       have HZ7 := hide (make512 w6 hr7)
       have HBB7 := hide hb7
       clear hr7 hg7 hb7)
    | fail)
  refine (unhide HDZ _ _ HZ7.out (unhide HT _ (below_then HB6.out HBB7.out))).mono ?_
  rintro e w8 ⟨u8, rfl, ho8, hb8⟩
  obtain ⟨ua8, uc8, hus8⟩ := ho8.shape
  subst hus8
  have hA8 := Arr.new w8 z34R 52
  have hba8 := jalloc_below w8 (.cells z34R.toArray 52)
  have HST8 : Hid (∀ w9, (w8.alloc (.cells z34R.toArray 52)).grownBy w9 (some w8.heap.size) → Below w6.heap.size w6 w9) := hide (fun w9 hg => by
    have hh : Below w8.heap.size w8 w9 := jbelow_grown hba8 hg hba8.size (Nat.le_refl _)
    exact below_then (below_then HBB7.out hb8) hh)
  clear ho8 hb8 hba8 HZ7 HBB7
  go_wp2_with (first
    | (refine wpList_allocJ rfl 52 rfl infoR ?_)
    | (refine wpList_storeJ rfl (.tmp 7) (.tmp 35) 52 rfl rfl rfl hA8 (hinfN _) (hlenN _) (jrV_one .nul rfl) ?_; intro w9 hA9 hg9
       have HX9 := hide (unhide HST8 w9 hg9)
       clear hA9 hg9 hA8 HST8)
    | fail)
  have HF9 : Hid (∀ W, Below w6.heap.size w6 W → Below w.heap.size w W ∧ IsB W (.slice a2 n2 c2) (encL (oneR 3)) ∧ IsB W (.slice a4 n4 c4) (encL (oneR 3)) ∧ IsJ W (.slice ua5 (oneR 3).rs.length uc5) (oneR 3).rs ∧ W.rangeAt w5.heap.size 0 (jrV (oneR 3) (.slice ua5 (oneR 3).rs.length uc5))) := hide (fun W hW => ⟨below_then HB6.out hW, HW6.out.below hW, HE6.out.below hW, HJ6.out.below hW, (HA6.out.below hW).rangeJ⟩)
  have HX9d : Hid (Below w6.heap.size w6 w9.drew) := hide HX9.out.drew
  have hinfO := hinf3 (.slice ua5 (oneR 3).rs.length uc5)
  generalize hRC : jrV (oneR 3) (.slice ua5 (oneR 3).rs.length uc5) = RC at *
  have HRC := hide hRC
  clear hRC HB6 HW6 HE6 HJ6 HA6 HX9
  refine wp_region_held_drew (S := fun W => W.rangeAt w5.heap.size 0 RC) (by kernel_rfl) ((unhide HF9 _ HX9d.out).2.2.2.2) (fun hHeld => ?_)
  refine wpAnyH_take (i := 0) (v := .int .i64 0) rfl (by kernel_rfl) (by kernel_rfl) (by kernel_rfl) (fun _ _ _ h => h) (Or.inl ⟨by rfl, fun w hSw => by go_simp⟩) (by assumption) ?_
  simp only [List.getElem_toArray, List.getElem_cons_zero, Act.put, List.setIfInBounds_toArray, List.set_cons_zero, List.set_cons_succ]
  refine wpAnyH_take (i := 1) (v := .bool false) rfl (by kernel_rfl) (by kernel_rfl) (by kernel_rfl) (fun _ _ _ h => h) (Or.inl ⟨by rfl, fun w hSw => by go_simp⟩) (by assumption) ?_
  simp only [List.getElem_toArray, List.getElem_cons_succ, List.getElem_cons_zero, Act.put, List.setIfInBounds_toArray, List.set_cons_zero, List.set_cons_succ]
  refine wpAnyH_take (i := 2) (v := .bool false) rfl (by kernel_rfl) (by kernel_rfl) (by kernel_rfl) (fun _ _ _ h => h) (Or.inl ⟨by rfl, fun w hSw => by go_simp⟩) (by assumption) ?_
  simp only [List.getElem_toArray, List.getElem_cons_succ, List.getElem_cons_zero, Act.put, List.setIfInBounds_toArray, List.set_cons_zero, List.set_cons_succ]
  refine wpAnyH_take (i := 3) (v := .int .i64 0) rfl (by kernel_rfl) (by kernel_rfl) (by kernel_rfl) (fun _ _ _ h => h) (Or.inl ⟨by rfl, fun w hSw => by go_simp⟩) (by assumption) ?_
  simp only [List.getElem_toArray, List.getElem_cons_succ, List.getElem_cons_zero, Act.put, List.setIfInBounds_toArray, List.set_cons_zero, List.set_cons_succ]
  refine wpAnyH_take (i := 4) (v := .bool false) rfl (by kernel_rfl) (by kernel_rfl) (by kernel_rfl) (fun _ _ _ h => h) (Or.inl ⟨by rfl, fun w hSw => by go_simp⟩) (by assumption) ?_
  simp only [List.getElem_toArray, List.getElem_cons_succ, List.getElem_cons_zero, Act.put, List.setIfInBounds_toArray, List.set_cons_zero, List.set_cons_succ]
  refine wpAnyH_take (i := 5) (v := .bool false) rfl (by kernel_rfl) (by kernel_rfl) (by kernel_rfl) (fun _ _ _ h => h) (Or.inl ⟨by rfl, fun w hSw => by go_simp⟩) (by assumption) ?_
  simp only [List.getElem_toArray, List.getElem_cons_succ, List.getElem_cons_zero, Act.put, List.setIfInBounds_toArray, List.set_cons_zero, List.set_cons_succ]
  refine wpAnyH_take (i := 6) (v := .bool false) rfl (by kernel_rfl) (by kernel_rfl) (by kernel_rfl) (fun _ _ _ h => h) (Or.inl ⟨by rfl, fun w hSw => by go_simp⟩) (by assumption) ?_
  simp only [List.getElem_toArray, List.getElem_cons_succ, List.getElem_cons_zero, Act.put, List.setIfInBounds_toArray, List.set_cons_zero, List.set_cons_succ]
  refine wpAnyH_take (i := 7) (v := .int .i64 61) rfl (by kernel_rfl) (by kernel_rfl) (by kernel_rfl) (fun _ _ _ h => h) (Or.inl ⟨by rfl, fun w hSw => by go_simp⟩) (by assumption) ?_
  simp only [List.getElem_toArray, List.getElem_cons_succ, List.getElem_cons_zero, Act.put, List.setIfInBounds_toArray, List.set_cons_zero, List.set_cons_succ]
  refine wpAnyH_take (i := 8) (v := .bool false) rfl (by kernel_rfl) (by kernel_rfl) (by kernel_rfl) (fun _ _ _ h => h) (Or.inl ⟨by rfl, fun w hSw => by go_simp⟩) (by assumption) ?_
  simp only [List.getElem_toArray, List.getElem_cons_succ, List.getElem_cons_zero, Act.put, List.setIfInBounds_toArray, List.set_cons_zero, List.set_cons_succ]
  refine wpAnyH_take (i := 9) (v := .bool false) rfl (by kernel_rfl) (by kernel_rfl) (by kernel_rfl) (fun _ _ _ h => h) (Or.inl ⟨by rfl, fun w hSw => by go_simp⟩) (by assumption) ?_
  simp only [List.getElem_toArray, List.getElem_cons_succ, List.getElem_cons_zero, Act.put, List.setIfInBounds_toArray, List.set_cons_zero, List.set_cons_succ]
  refine wpAnyH_take (i := 10) (v := .bool false) rfl (by kernel_rfl) (by kernel_rfl) (by kernel_rfl) (fun _ _ _ h => h) (Or.inl ⟨by rfl, fun w hSw => by go_simp⟩) (by assumption) ?_
  simp only [List.getElem_toArray, List.getElem_cons_succ, List.getElem_cons_zero, Act.put, List.setIfInBounds_toArray, List.set_cons_zero, List.set_cons_succ]
  refine wpAnyH_take (i := 11) (v := .slice (a4) n4 c4) rfl (by kernel_rfl) (by kernel_rfl) (by kernel_rfl) (fun _ _ _ h => h) (Or.inl ⟨by rfl, fun w hSw => by go_simp⟩) (by assumption) ?_
  simp only [List.getElem_toArray, List.getElem_cons_succ, List.getElem_cons_zero, Act.put, List.setIfInBounds_toArray, List.set_cons_zero, List.set_cons_succ]
  refine wpAnyH_take (i := 12) (v := .slice (a2) n2 c2) rfl (by kernel_rfl) (by kernel_rfl) (by kernel_rfl) (fun _ _ _ h => h) (Or.inl ⟨by rfl, fun w hSw => by go_simp⟩) (by assumption) ?_
  simp only [List.getElem_toArray, List.getElem_cons_succ, List.getElem_cons_zero, Act.put, List.setIfInBounds_toArray, List.set_cons_zero, List.set_cons_succ]
  refine wpAnyH_ready (rs := [13]) (by kernel_rfl) (by simp) (AllReadyH.cons rfl (fun K hK => ?_) AllReadyH.nil)
  refine step_call2J (by rfl) 26 same2_enter (.tmp 48) (.tmp 49) _ rfl rfl rfl (unhide HSB _ _ _ (unhide HF9 _ HX9d.out).2.2.1 (unhide HF9 _ HX9d.out).2.1) ?_
  rintro e wa ⟨rfl, hwa⟩
  have HXa : Hid (Below w6.heap.size w6 wa) := hide (below_then HX9d.out (below_same hwa))
  refine ⟨_, rfl, ?_⟩
  refine hK.out _ _ ((unhide HF9 _ HXa.out).2.2.2.2) (fun hJ1 => ?_)
  clear hK K
  simp only [List.getElem_toArray, List.getElem_cons_succ, List.getElem_cons_zero, Act.put, List.setIfInBounds_toArray, List.set_cons_zero, List.set_cons_succ]
  clear hwa
  refine wpAnyH_take (i := 14) (v := .bool false) rfl (by kernel_rfl) (by kernel_rfl) (by kernel_rfl) (fun _ _ _ h => h) (Or.inl ⟨by rfl, fun w hSw => by go_simp⟩) (by assumption) ?_
  simp only [List.getElem_toArray, List.getElem_cons_succ, List.getElem_cons_zero, Act.put, List.setIfInBounds_toArray, List.set_cons_zero, List.set_cons_succ]
  refine wpAnyH_take (i := 15) (v := .bool false) rfl (by kernel_rfl) (by kernel_rfl) (by kernel_rfl) (fun _ _ _ h => h) (Or.inl ⟨by rfl, fun w hSw => by go_simp⟩) (by assumption) ?_
  simp only [List.getElem_toArray, List.getElem_cons_succ, List.getElem_cons_zero, Act.put, List.setIfInBounds_toArray, List.set_cons_zero, List.set_cons_succ]
  refine wpAnyH_take (i := 16) (v := .bool false) rfl (by kernel_rfl) (by kernel_rfl) (by kernel_rfl) (fun _ _ _ h => h) (Or.inl ⟨by rfl, fun w hSw => by go_simp⟩) (by assumption) ?_
  simp only [List.getElem_toArray, List.getElem_cons_succ, List.getElem_cons_zero, Act.put, List.setIfInBounds_toArray, List.set_cons_zero, List.set_cons_succ]
  refine wpAnyH_take (i := 17) (v := .agg (RC).toArray) rfl (by kernel_rfl) (by kernel_rfl) (by kernel_rfl) (fun _ _ _ h => h) (yieldsIf_load_mid (by rfl) _ _ rfl _ _ rfl _ _ (fun w hSw => hSw) Tryd.underlying52 rfl hinfO) (by assumption) ?_
  simp only [List.getElem_toArray, List.getElem_cons_succ, List.getElem_cons_zero, Act.put, List.setIfInBounds_toArray, List.set_cons_zero, List.set_cons_succ]
  refine wpAnyH_ready (rs := [18]) (by kernel_rfl) (by simp) (AllReadyH.cons rfl (fun K hK => ?_) AllReadyH.nil)
  refine step_call1J (by rfl) 31 one_enter _ _ rfl rfl (unhide HO3 _) ?_
  rintro e wb ⟨ub, rfl, hob, hbb⟩
  have HXb : Hid (Below w6.heap.size w6 wb) := hide (below_then HXa.out hbb)
  have HJb := hide hob.isJ
  refine ⟨_, rfl, ?_⟩
  refine hK.out _ _ ((unhide HF9 _ HXb.out).2.2.2.2) (fun hJ2 => ?_)
  clear hK K
  simp only [List.getElem_toArray, List.getElem_cons_succ, List.getElem_cons_zero, Act.put, List.setIfInBounds_toArray, List.set_cons_zero, List.set_cons_succ]
  clear hob hbb
  refine wpAnyH_ready (rs := [19]) (by kernel_rfl) (by simp) (AllReadyH.cons rfl (fun K hK => ?_) AllReadyH.nil)
  refine step_call2J (by rfl) 24 samerec_enter (.tmp 54) (.tmp 55) _ rfl rfl rfl (v := .agg RC.toArray) (u := .agg (jrV (oneR 3) ub).toArray) (by have := unhide HSR _ _ _ (unhide HF9 _ HXb.out).2.2.2.1 HJb.out; rw [HRC.out] at this; exact this) ?_
  rintro e wc ⟨rfl, hbc⟩
  have HXc : Hid (Below w6.heap.size w6 wc) := hide (below_then HXb.out hbc)
  refine ⟨_, rfl, ?_⟩
  refine hK.out _ _ ((unhide HF9 _ HXc.out).2.2.2.2) (fun hJ3 => ?_)
  clear hK K
  simp only [List.getElem_toArray, List.getElem_cons_succ, List.getElem_cons_zero, Act.put, List.setIfInBounds_toArray, List.set_cons_zero, List.set_cons_succ]
  clear hbc
  refine wpAnyH_take (i := 20) (v := .bool false) rfl (by kernel_rfl) (by kernel_rfl) (by kernel_rfl) (fun _ _ _ h => h) (Or.inl ⟨by rfl, fun w hSw => by go_simp⟩) (by assumption) ?_
  simp only [List.getElem_toArray, List.getElem_cons_succ, List.getElem_cons_zero, Act.put, List.setIfInBounds_toArray, List.set_cons_zero, List.set_cons_succ]
  refine wpAnyH_take (i := 21) (v := .bool false) rfl (by kernel_rfl) (by kernel_rfl) (by kernel_rfl) (fun _ _ _ h => h) (Or.inl ⟨by rfl, fun w hSw => by go_simp⟩) (by assumption) ?_
  simp only [List.getElem_toArray, List.getElem_cons_succ, List.getElem_cons_zero, Act.put, List.setIfInBounds_toArray, List.set_cons_zero, List.set_cons_succ]
  refine wpAnyH_done (by kernel_rfl) ?_ _
  have HBc := hide (unhide HF9 _ HXc.out).1
  clear HF9 HX9d HXa HXb HXc HJb hHeld hJ1 hJ2 hJ3 HRC hinfO HSR HSB HDZ HD3 HE3 HR3 HO3
  have hl24 : (zeroD 24).la.length = 24 := by simp [zeroD]
  go_wp2_with fail
  refine (sn_new (w0 := w) HBc.out (n := 24) (by decide) (by decide)).mono ?_
  rintro e wd ⟨p, rfl, hSd, hbd⟩
  have HSd := hide hSd
  clear hSd hbd HBc
  go_wp2_with fail
  refine (open_calls HSd.out HT0.out (fr := 2) (n := 8) (st := 0) (by decide) (by decide) (by decide) (by decide) (by rw [hl24]; decide) (by decide)).mono ?_
  rintro e wo ⟨pj, v, rfl, hR, hJ, hlo⟩
  rw [zero_rep] at hJ
  obtain ⟨⟨m, hm8, hSo⟩, hCo, V, hOV⟩ := hR
  rw [zero_rep] at hOV
  obtain ⟨av, cv, hvs, _⟩ := hOV.shape
  have hvs' : v = .slice av 0 cv := hvs
  subst hvs'
  have hlop : w.heap.size ≤ pj := Nat.le_trans HSd.out.be.size hlo
  have HJo : Hid (Jn wo pj p 2 8 0 0) := hide hJ
  have HSo := hide hSo
  clear hJ hSo hCo hOV hvs hlo HSd
  go_wp2_with fail
  refine (unhide HO0 _).mono ?_
  rintro e wp ⟨up, rfl, hop, hbp⟩
  obtain ⟨uap, ucp, hup⟩ := hop.shape
  have hup' : up = .slice uap 1 ucp := hup
  subst hup'
  have hfp := fun W => (fieldR HK0.out.len uap 1 ucp W).1
  have HJp := hide (HJo.out.below hbp)
  have HSp := hide (HSo.out.below hbp)
  clear hop hbp hup HJo HSo
  go_wp2_with fail
  refine (unhide HO0 _).mono ?_
  rintro e wq ⟨uq, rfl, hoq, hbq⟩
  obtain ⟨uaq, ucq, huq⟩ := hoq.shape
  have huq' : uq = .slice uaq 1 ucq := huq
  subst huq'
  have hfq := fun W => (fieldR HK0.out.len uaq 1 ucq W).2
  have HJq := hide (HJp.out.below hbq)
  have HSq := hide (HSp.out.below hbq)
  have HVq := hide hoq.isJ
  clear hoq hbq huq HJp HSp
  go_wp2_with fail
  refine (add_good HJq.out (by decide) (Nat.le_refl _) (by decide) (by decide) (oneR_may (n := 0) (by decide)) HVq.out HK0.out.len).mono ?_
  rintro e wr ⟨pw, u, rfl, hWr, hOr, hbr, hlw⟩
  have HWr : Hid (Wj w wr p pj 2 8 0 0 ((zeroD 24).rds m) pw 0 0 0 (oneR 0).p u) := hide ⟨HSq.out.below hbr, HJq.out.below hbr, hWr⟩
  have HOr := hide hOr
  have hlww : w.heap.size ≤ pw := Nat.le_trans HSq.out.be.size hlw
  have hlr : ((zeroD 24).rds m).la.length = 24 := hl24
  clear hWr hOr hbr hlw HJq HSq HVq hfp hfq
  go_wp2_with fail
  refine (step_write (rs := (oneR 0).rs) HWr.out hlop hlww HT0.out (by decide) (by decide) (by rw [hlr]; decide) (Nat.le_refl _) (by decide) (by decide) HK0.out HKE0.out HOr.out (by show (0 : Int) ≤ 0; decide) (by show (0 : Int) ≤ 1152921504606846976; decide) (fun i => by show (0 : Nat) ≤ 68719476736; decide)).mono ?_
  rintro e ws ⟨rfl, hWs, hOs, hCs⟩
  have HWs : Hid (Wj w ws p pj 2 8 0 1 (((zeroD 24).rds m).write (2 + 0 % 8) (encL (oneR 0))) pw 1 0 0 (oneR 0).p u) := hide hWs
  have hwls : ∀ i, ((((zeroD 24).rds m).write (2 + 0 % 8) (encL (oneR 0))).wr i).length ≤ 68719476736 := fun i => by
    show ((updF (fun _ => []) (2 + 0 % 8) ([] ++ [encL (oneR 0)])) i).length ≤ _
    unfold updF
    split <;> simp
  have hls : (((zeroD 24).rds m).write (2 + 0 % 8) (encL (oneR 0))).flush.la.length = 24 := by rw [flush_len]; exact hlr
  have hrds : (((zeroD 24).rds m).write (2 + 0 % 8) (encL (oneR 0))).flush.rd = (m : Int) := by show (0 : Int) + (m : Int) = m; omega
  have HREP := hide (told_rep (m := m))
  have hfls : 0 ≤ (((zeroD 24).rds m).write (2 + 0 % 8) (encL (oneR 0))).fl ∧ (((zeroD 24).rds m).write (2 + 0 % 8) (encL (oneR 0))).fl ≤ 1152921504606846976 := by show (0 : Int) ≤ 0 ∧ (0 : Int) ≤ 1152921504606846976; decide
  generalize ((zeroD 24).rds m).write (2 + 0 % 8) (encL (oneR 0)) = D2 at *
  have HWL := hide hwls
  have HLS := hide hls
  have HRD := hide hrds
  have HFL := hide hfls
  clear hWs hOs hCs HWr HOr hwls hls hrds hfls
  go_wp2_with fail
  refine (step_flush HWs.out hlww HK0.out.len HWL.out HFL.out.1 HFL.out.2).mono ?_
  rintro e wt ⟨rfl, hWt, hCt⟩
  have HWt := hide hWt
  clear hWt hCt HWs
  go_wp2_with fail
  refine (replay_calls HWt.out.sn HT0.out (fr := 2) (n := 8) (st := 0) (by rw [HRD.out]; omega) (by rw [HRD.out]; omega) (by decide) (by decide) (by rw [HLS.out]; decide) (by decide)).mono ?_
  rintro e wu ⟨vu, rfl, hRu⟩
  obtain ⟨⟨m2, _, hSu⟩, hCu, Vu, hOu⟩ := hRu
  rw [HREP.out] at hOu
  obtain ⟨au, cu, hvu, _⟩ := hOu.shape
  have hvu' : vu = .slice au 1 cu := hvu
  subst hvu'
  have HJu : Hid (Jn wu pj p 2 8 0 1) := hide (Arr.cj HWt.out.jn hCu tdk_jn)
  have HLu := hide hOu.isL
  have HBu := hide hSu.be
  have HNX := hide (next_calls HJu.out)
  clear hSu hCu hOu hvu HWt
  go_wp2_with fail
  refine (unhide HNX).mono ?_
  rintro e wn ⟨rfl, hwn⟩
  obtain rfl := hwn.symm
  clear hwn HNX HJu
  go_wp2_with fail
  refine (unhide HO0 _).mono ?_
  rintro e wx ⟨ux, rfl, hox, hbx⟩
  obtain ⟨uax, ucx, hux⟩ := hox.shape
  have hux' : ux = .slice uax 1 ucx := hux
  subst hux'
  have HLx := hide (HLu.out.below hbx)
  have HBx := hide (below_then HBu.out hbx)
  have HBS := hide (bslRc HK0.out.len uax 1 ucx wx)
  have hby := jalloc_below wx (.cells (jrV (oneR 0) (.slice uax 1 ucx)).toArray 52)
  have HLy := hide (HLx.out.below hby)
  have HMy := hide (isL_one HK0.out (Arr.new wx (jrV (oneR 0) (.slice uax 1 ucx)) 52) (hox.isJ.below hby))
  have HBy := hide (below_then HBx.out hby)
  clear hox hbx hux HLu HBu HLx HBx hby
  go_wp2_with (first
    | (refine wpList_bsliceG (by rfl) 29 (.tmp 140) rfl (v := .agg (jrV (oneR 0) (.slice uax 1 ucx)).toArray) rfl HBS.out ?_)
    | fail)
  refine (sameall_calls HLy.out HMy.out).mono ?_
  rintro e wz ⟨rfl, hbz⟩
  have HBz := hide (below_then HBy.out hbz)
  clear hbz HLy HMy HBy
  go_wp2
  go_ret
  exact ⟨rfl, HBz.out⟩
end Go.Proofs.YthhjlopgpmaokabDoor
