/- What mayBe answers. -/
import Derived.Test.YtbgknbjpbobebaaDoorRtN
import Derived.Deep.DeepCutAuto
import Derived.Deep.CutRange
namespace Go.Proofs.YtbgknbjpbobebaaDoor
open Go.RowKit Go.Maps

theorem nroot_enter (v : Value) (W : World) : (callFunc 35 #[v]).run Tryd.prog W = .ok (.enter 35 #[v]) W := by kernel_rfl
theorem nmemo_enter (v : Value) (W : World) : (callFunc 36 #[v]).run Tryd.prog W = .ok (.enter 36 #[v]) W := by kernel_rfl
theorem chmay_enter (v u : Value) (W : World) : (callFunc 59 #[v, u]).run Tryd.prog W = .ok (.enter 59 #[v, u]) W := by kernel_rfl
theorem nV_get (s : SL) {k : Nat} (hk : k < 3) : (nV (slN s))[2 + k]? = some (.int .i64 ([s.t, s.g, s.s].getD k 0)) := by
  match k, hk with
  | 0, _ => rfl
  | 1, _ => rfl
  | 2, _ => rfl
set_option maxRecDepth 100000 in
set_option maxHeartbeats 1000000 in
theorem mayBe_lo {w : World} {s : SL} (hs : s.Ok) (hcase : s.sc - 4 < 1024) : Calls Tryd.prog 30 #[.agg (slV s).toArray] w fun e w' => e = .returned (.bool s.may) ∧ Below w.heap.size w w' := by
  have HF : Hid (∀ w1, Arr w1 w.heap.size 27 (slV s) → (w1.cell? ⟨w.heap.size, 0, none⟩ = some (.int .i64 s.sc) ∧ w1.cell? ⟨w.heap.size, 1, none⟩ = some (.int .i64 s.j))) := hide (fun w1 hA1 => by
    obtain ⟨e0, e1, _⟩ := slV_at s
    exact ⟨(hA1.cell 0).trans e0, (hA1.cell 1).trans e1⟩)
  by_cases ha : 2 ≤ s.sc ∧ s.sc ≤ 65536
  case neg =>
    have HR := hide (may_sc ha)
    have HW : Hid (∀ W, Calls Tryd.prog 58 #[.int .i64 s.sc, .int .i64 2, .int .i64 65536] W fun e w' => e = .returned (.bool false) ∧ w' = W) := hide (fun W => by have := within_calls W s.sc 2 65536; rw [decide_eq_false ha] at this; exact this)
    generalize s.may = rr at *
    generalize slV s = cs1 at *
    generalize s.sc = x0 at *
    generalize s.j = x1 at *
    clear hs ha hcase
    go_enter Tryd.func30, Tryd.ntmps30
    go_wp2_with (first
      | (refine wpList_boxJ rfl 27 (.tmp 0) rfl rfl ?_; intro w1 hA1 hb1 hs1
         obtain ⟨c0, c1⟩ := unhide HF w1 hA1
         have HB1 := hide hb1
         clear hA1 hb1 hs1)
      | fail)
    refine (unhide HW _).mono ?_
    rintro e w2 ⟨rfl, hw2⟩
    obtain rfl := hw2.symm
    clear hw2
    go_wp2
    go_ret
    exact ⟨by rw [HR.out]; rfl, HB1.out⟩
  have HW0 : Hid (∀ W, Calls Tryd.prog 58 #[.int .i64 s.sc, .int .i64 2, .int .i64 65536] W fun e w' => e = .returned (.bool true) ∧ w' = W) := hide (fun W => by have := within_calls W s.sc 2 65536; rw [decide_eq_true ha] at this; exact this)
  obtain ⟨y0, hy0⟩ : ∃ y, s.sc - 2 = y := ⟨_, rfl⟩
  obtain ⟨y1, hy1⟩ : ∃ y, y0 - 2 = y := ⟨_, rfl⟩
  have ey0 : IntKind.i64.wrap y0 = y0 := IntWalk.i64_in _ (by omega)
  have ey1 : IntKind.i64.wrap y1 = y1 := IntWalk.i64_in _ (by omega)
  have hq : y1 < 1024 := by omega
  have hqd : decide (y1 < 1024) = true := by simp; omega
  have hmq : min 1024 (s.sc - 4) = y1 := by omega
  by_cases hj : 8 ≤ s.j ∧ s.j ≤ y1
  case neg =>
    have HR := hide (may_j (s := s) (by rw [hmq]; exact hj))
    have HW : Hid (∀ W, Calls Tryd.prog 58 #[.int .i64 s.j, .int .i64 8, .int .i64 y1] W fun e w' => e = .returned (.bool false) ∧ w' = W) := hide (fun W => by have := within_calls W s.j 8 y1; rw [decide_eq_false hj] at this; exact this)
    generalize s.may = rr at *
    generalize slV s = cs1 at *
    generalize s.sc = x0 at *
    generalize s.j = x1 at *
    clear hs ha hj hmq hcase
    go_enter Tryd.func30, Tryd.ntmps30
    go_wp2_with (first
      | (refine wpList_boxJ rfl 27 (.tmp 0) rfl rfl ?_; intro w1 hA1 hb1 hs1
         obtain ⟨c0, c1⟩ := unhide HF w1 hA1
         have HB1 := hide hb1
         clear hA1 hb1 hs1)
      | fail)
    refine (unhide HW0 _).mono ?_
    rintro e w2 ⟨rfl, hw2⟩
    obtain rfl := hw2.symm
    clear hw2
    go_wp2_with fail
    refine (unhide HW _).mono ?_
    rintro e w2 ⟨rfl, hw2⟩
    obtain rfl := hw2.symm
    clear hw2
    go_wp2
    go_ret
    exact ⟨by rw [HR.out]; rfl, HB1.out⟩
  have HW1 : Hid (∀ W, Calls Tryd.prog 58 #[.int .i64 s.j, .int .i64 8, .int .i64 y1] W fun e w' => e = .returned (.bool true) ∧ w' = W) := hide (fun W => by have := within_calls W s.j 8 y1; rw [decide_eq_true hj] at this; exact this)
  have HALL := hide (fun h2 => may_all (s := s) ha (by rw [hmq]; exact hj) h2)
  have HCNT := hide (fun (k : Nat) (hk : k < 3) => may_cnt (s := s) hk)
  have HNO : Hid (∀ W, Calls Tryd.prog 31 #[.agg (slV s).toArray] W fun e w' => e = .returned (.agg (nV (slN s)).toArray) ∧ Below W.heap.size W w') := hide (fun W => numbersOf_calls hs)
  have HGET := hide (fun k (hk : k < 3) => nV_get s hk)
  have HC1 : Hid (∀ W g, Arr W g 74 (nV (slN s)) → Calls Tryd.prog 59 #[.agg (slV s).toArray, .slice (some ⟨g, 5, none⟩) 2 4] W fun e w' => e = .returned (.bool (fitB s.sc s.j s.r.f s.r.l)) ∧ Below W.heap.size W w') := hide (fun W g hA => chainMay_calls ha.1 ha.2 hj.1 (by omega) hA rfl rfl (by decide) (by decide))
  have HC2 : Hid (∀ W g, Arr W g 74 (nV (slN s)) → Calls Tryd.prog 59 #[.agg (slV s).toArray, .slice (some ⟨g, 7, none⟩) 2 2] W fun e w' => e = .returned (.bool (fitB s.sc s.j s.m.f s.m.l)) ∧ Below W.heap.size W w') := hide (fun W g hA => chainMay_calls ha.1 ha.2 hj.1 (by omega) hA rfl rfl (by decide) (by decide))
  have hinfS := infoSof hs
  have hinf9 : (Tryd.prog.info? 74).map (·.size) = some (nV (slN s)).length := info9z
  have hlen9 : z9.length = (nV (slN s)).length := rfl
  have hone9 := nV_one (slN s)
  generalize s.may = rr at *
  generalize slV s = cs1 at *
  generalize nV (slN s) = ns at *
  generalize fitB s.sc s.j s.r.f s.r.l = p at *
  generalize fitB s.sc s.j s.m.f s.m.l = q at *
  generalize s.sc = x0 at *
  generalize s.j = x1 at *
  generalize [s.t, s.g, s.s] = cn at *
  clear hs ha hj hmq hcase
  go_enter Tryd.func30, Tryd.ntmps30
  go_wp2_with (first
    | (refine wpList_boxJ rfl 27 (.tmp 0) rfl rfl ?_; intro w1 hA1 hb1 hs1
       obtain ⟨c0, c1⟩ := unhide HF w1 hA1
       have hrg := hA1.rangeJ
       have HB1 := hide hb1
       have HA1 := hide hA1
       clear hA1 hb1 hs1)
    | fail)
  refine (unhide HW0 _).mono ?_
  rintro e w2 ⟨rfl, hw2⟩
  obtain rfl := hw2.symm
  clear hw2
  go_wp2_with fail
  refine (unhide HW1 _).mono ?_
  rintro e w2 ⟨rfl, hw2⟩
  obtain rfl := hw2.symm
  clear hw2
  go_wp2_with (first
    | (refine wpList_loadJ rfl 27 (.tmp 1) rfl _ 0 rfl cs1 _ hrg Tryd.underlying27 rfl hinfS ?_)
    | fail)
  refine (unhide HNO _).mono ?_
  rintro e w3 ⟨rfl, hb3⟩
  have hA3 := HA1.out.below hb3
  have hbw3 := below_then HB1.out hb3
  have HX : Hid (∀ w4, Arr w4 w3.heap.size 74 ns → (w3.alloc (.cells z9.toArray 74)).grownBy w4 (some w3.heap.size) → Arr w4 w.heap.size 27 cs1 ∧ Below w.heap.size w w4) := hide (fun w4 hA4 hg4 => by
    have hba := jalloc_below w3 (.cells z9.toArray 74)
    have hlt := hA3.lt
    exact ⟨arr_grown (hA3.below hba) hg4 (by simp; omega), jbelow_grown (below_then hbw3 hba) hg4 (Nat.le_trans hbw3.size hba.size) hbw3.size⟩)
  clear HNO HA1 HB1 hA3 hbw3 hrg hb3 c0 c1
  go_wp2_with (first
    | (refine wpList_allocJ rfl 74 rfl info9 ?_)
    | (refine wpList_storeJ rfl (.tmp 3) (.tmp 20) 74 rfl rfl rfl (Arr.new w3 z9 74) hinf9 hlen9 hone9 ?_; intro w4 hA4 hg4
       obtain ⟨hAs, hbw⟩ := unhide HX w4 hA4 hg4
       have HA4 := hide hA4
       have HAS := hide hAs
       have HBW := hide hbw
       have HCO := hide (counts_calls w4 w3.heap.size)
       clear hA4 hg4 hAs hbw HX)
    | fail)
  generalize w3.heap.size = g3 at *
  refine (unhide HCO).mono ?_
  rintro e w2 ⟨rfl, hw2⟩
  obtain rfl := hw2.symm
  clear hw2 HCO
  go_wp2_with fail
  go_loopw [23] (fun i W => ∃ k : Nat, k ≤ 3 ∧ i = .int .i64 k ∧ W = w4 ∧ Hid (∀ j, j < k → 0 ≤ cn.getD j 0 ∧ cn.getD j 0 ≤ 1099511627776)) (fun i _ => 3 - (intOf i).toNat)
  case atStart => exact ⟨0, by decide, rfl, rfl, hide (fun j hj => by omega)⟩
  case round =>
    obtain ⟨k, hk, rfl, rfl, HT⟩ := hrel
    by_cases hlt : k < 3
    · have hcl : wr.cell? ⟨g3, 2 + k, none⟩ = some (.int .i64 (cn.getD k 0)) := (HA4.out.cell _).trans (unhide HGET k hlt)
      by_cases hc : 0 ≤ cn.getD k 0 ∧ cn.getD k 0 ≤ 1099511627776
      · have HT2 : Hid (∀ j, j < k + 1 → 0 ≤ cn.getD j 0 ∧ cn.getD j 0 ≤ 1099511627776) := hide (fun j hj => by
          by_cases e : j = k
          · subst e; exact hc
          · exact unhide HT j (by omega))
        have HW : Hid (Calls Tryd.prog 58 #[.int .i64 (cn.getD k 0), .int .i64 0, .int .i64 1099511627776] wr fun e w' => e = .returned (.bool true) ∧ w' = wr) := hide (by have := within_calls wr (cn.getD k 0) 0 1099511627776; rw [decide_eq_true hc] at this; exact this)
        generalize cn.getD k 0 = V at *
        clear hc HT
        go_wp2_with fail
        refine (unhide HW).mono ?_
        rintro e w2 ⟨rfl, hw2⟩
        obtain rfl := hw2.symm
        clear hw2
        go_wp2
        go_roundw
        case rel => exact ⟨k + 1, by omega, by go_num, trivial, HT2⟩
        case measure => simp [intOf]; omega
      · have HR := hide (unhide HCNT k hlt hc)
        have HW : Hid (Calls Tryd.prog 58 #[.int .i64 (cn.getD k 0), .int .i64 0, .int .i64 1099511627776] wr fun e w' => e = .returned (.bool false) ∧ w' = wr) := hide (by have := within_calls wr (cn.getD k 0) 0 1099511627776; rw [decide_eq_false hc] at this; exact this)
        generalize cn.getD k 0 = V at *
        clear hc HT
        go_wp2_with fail
        refine (unhide HW).mono ?_
        rintro e w2 ⟨rfl, hw2⟩
        obtain rfl := hw2.symm
        clear hw2
        go_wp2
        go_ret
        exact ⟨by rw [HR.out]; rfl, HBW.out⟩
    · have HR := hide (unhide HALL (fun j hj => unhide HT j (by omega)))
      clear HT HALL HCNT HGET
      have HS : Hid (∀ W, Below wr.heap.size wr W → W.rangeAt w.heap.size 0 cs1 ∧ Arr W g3 74 ns) := hide (fun W hW => ⟨(HAS.out.below hW).rangeJ, HA4.out.below hW⟩)
      go_wp2_with fail
      cases p with
      | false =>
        have HBD := hide ((Below.refl wr.heap.size wr).drew)
        refine wp_region_held_drew (S := fun W => W.rangeAt w.heap.size 0 cs1 ∧ Arr W g3 74 ns) (by kernel_rfl) (unhide HS _ HBD.out) (fun hHeld => ?_)
        refine wpAnyH_take (i := 0) (v := .agg (cs1).toArray) rfl (by kernel_rfl) (by kernel_rfl) (by kernel_rfl) (fun _ _ _ h => h) (yieldsIf_load_mid (by rfl) _ _ rfl _ _ rfl _ _ (fun w hSw => hSw.1) Tryd.underlying27 rfl hinfS) (by assumption) ?_
        simp only [List.getElem_toArray, List.getElem_cons_zero, Act.put, List.setIfInBounds_toArray, List.set_cons_zero, List.set_cons_succ]
        refine wpAnyH_ready (rs := [1]) (by kernel_rfl) (by simp) (AllReadyH.cons rfl (fun K hK => ?_) AllReadyH.nil)
        refine step_call1J (by rfl) 35 nroot_enter (.tmp 3) _ rfl rfl (root_calls _ _) ?_
        rintro e wn ⟨rfl, hwn⟩
        obtain rfl := hwn.symm
        clear hwn
        refine ⟨_, rfl, ?_⟩
        refine hK.out _ _ (unhide HS _ HBD.out) (fun hJ1 => ?_)
        clear hK K
        simp only [List.getElem_toArray, List.getElem_cons_succ, List.getElem_cons_zero, Act.put, List.setIfInBounds_toArray, List.set_cons_zero, List.set_cons_succ]
        refine wpAnyH_ready (rs := [2]) (by kernel_rfl) (by simp) (AllReadyH.cons rfl (fun K hK => ?_) AllReadyH.nil)
        refine step_call2J (by rfl) 59 chmay_enter (.tmp 31) (.tmp 32) _ rfl rfl rfl (unhide HC1 _ _ (unhide HS _ HBD.out).2) ?_
        rintro e wa ⟨rfl, hbwa⟩
        have HBwa := hide (below_then HBD.out hbwa)
        clear hbwa
        refine ⟨_, rfl, ?_⟩
        refine hK.out _ _ (unhide HS _ HBwa.out) (fun hJ2 => ?_)
        clear hK K
        simp only [List.getElem_toArray, List.getElem_cons_succ, List.getElem_cons_zero, Act.put, List.setIfInBounds_toArray, List.set_cons_zero, List.set_cons_succ]
        refine wpAnyH_take (i := 3) (v := .bool false) rfl (by kernel_rfl) (by kernel_rfl) (by kernel_rfl) (fun _ _ _ h => h) (Or.inl ⟨by rfl, fun w hSw => by go_simp⟩) (by assumption) ?_
        simp only [List.getElem_toArray, List.getElem_cons_succ, List.getElem_cons_zero, Act.put, List.setIfInBounds_toArray, List.set_cons_zero, List.set_cons_succ]
        have HBZ := HBwa
        refine wpAnyH_take (i := 4) (v := undef) rfl (by kernel_rfl) (by kernel_rfl) (by kernel_rfl) (fun _ _ _ h => h) (Or.inr ⟨by rfl, rfl⟩) (by assumption) ?_
        simp only [List.getElem_toArray, List.getElem_cons_succ, List.getElem_cons_zero, Act.put, List.setIfInBounds_toArray, List.set_cons_zero, List.set_cons_succ]
        refine wpAnyH_take (i := 5) (v := undef) rfl (by kernel_rfl) (by kernel_rfl) (by kernel_rfl) (fun _ _ _ h => h) (Or.inr ⟨by rfl, rfl⟩) (by assumption) ?_
        simp only [List.getElem_toArray, List.getElem_cons_succ, List.getElem_cons_zero, Act.put, List.setIfInBounds_toArray, List.set_cons_zero, List.set_cons_succ]
        refine wpAnyH_take (i := 6) (v := undef) rfl (by kernel_rfl) (by kernel_rfl) (by kernel_rfl) (fun _ _ _ h => h) (Or.inr ⟨by rfl, rfl⟩) (by assumption) ?_
        simp only [List.getElem_toArray, List.getElem_cons_succ, List.getElem_cons_zero, Act.put, List.setIfInBounds_toArray, List.set_cons_zero, List.set_cons_succ]
        refine wpAnyH_take (i := 7) (v := .bool false) rfl (by kernel_rfl) (by kernel_rfl) (by kernel_rfl) (fun _ _ _ h => h) (Or.inl ⟨by rfl, fun w hSw => by go_simp⟩) (by assumption) ?_
        simp only [List.getElem_toArray, List.getElem_cons_succ, List.getElem_cons_zero, Act.put, List.setIfInBounds_toArray, List.set_cons_zero, List.set_cons_succ]
        refine wpAnyH_take (i := 8) (v := .bool false) rfl (by kernel_rfl) (by kernel_rfl) (by kernel_rfl) (fun _ _ _ h => h) (Or.inl ⟨by rfl, fun w hSw => by go_simp⟩) (by assumption) ?_
        simp only [List.getElem_toArray, List.getElem_cons_succ, List.getElem_cons_zero, Act.put, List.setIfInBounds_toArray, List.set_cons_zero, List.set_cons_succ]
        refine wpAnyH_done (by kernel_rfl) ?_ _
        go_wp2
        go_ret
        exact ⟨by rw [HR.out]; rfl, below_then HBW.out HBZ.out⟩
      | true =>
        have HBD := hide ((Below.refl wr.heap.size wr).drew)
        refine wp_region_held_drew (S := fun W => W.rangeAt w.heap.size 0 cs1 ∧ Arr W g3 74 ns) (by kernel_rfl) (unhide HS _ HBD.out) (fun hHeld => ?_)
        refine wpAnyH_take (i := 0) (v := .agg (cs1).toArray) rfl (by kernel_rfl) (by kernel_rfl) (by kernel_rfl) (fun _ _ _ h => h) (yieldsIf_load_mid (by rfl) _ _ rfl _ _ rfl _ _ (fun w hSw => hSw.1) Tryd.underlying27 rfl hinfS) (by assumption) ?_
        simp only [List.getElem_toArray, List.getElem_cons_zero, Act.put, List.setIfInBounds_toArray, List.set_cons_zero, List.set_cons_succ]
        refine wpAnyH_ready (rs := [1]) (by kernel_rfl) (by simp) (AllReadyH.cons rfl (fun K hK => ?_) AllReadyH.nil)
        refine step_call1J (by rfl) 35 nroot_enter (.tmp 3) _ rfl rfl (root_calls _ _) ?_
        rintro e wn ⟨rfl, hwn⟩
        obtain rfl := hwn.symm
        clear hwn
        refine ⟨_, rfl, ?_⟩
        refine hK.out _ _ (unhide HS _ HBD.out) (fun hJ1 => ?_)
        clear hK K
        simp only [List.getElem_toArray, List.getElem_cons_succ, List.getElem_cons_zero, Act.put, List.setIfInBounds_toArray, List.set_cons_zero, List.set_cons_succ]
        refine wpAnyH_ready (rs := [2]) (by kernel_rfl) (by simp) (AllReadyH.cons rfl (fun K hK => ?_) AllReadyH.nil)
        refine step_call2J (by rfl) 59 chmay_enter (.tmp 31) (.tmp 32) _ rfl rfl rfl (unhide HC1 _ _ (unhide HS _ HBD.out).2) ?_
        rintro e wa ⟨rfl, hbwa⟩
        have HBwa := hide (below_then HBD.out hbwa)
        clear hbwa
        refine ⟨_, rfl, ?_⟩
        refine hK.out _ _ (unhide HS _ HBwa.out) (fun hJ2 => ?_)
        clear hK K
        simp only [List.getElem_toArray, List.getElem_cons_succ, List.getElem_cons_zero, Act.put, List.setIfInBounds_toArray, List.set_cons_zero, List.set_cons_succ]
        refine wpAnyH_take (i := 3) (v := .bool true) rfl (by kernel_rfl) (by kernel_rfl) (by kernel_rfl) (fun _ _ _ h => h) (Or.inl ⟨by rfl, fun w hSw => by go_simp⟩) (by assumption) ?_
        simp only [List.getElem_toArray, List.getElem_cons_succ, List.getElem_cons_zero, Act.put, List.setIfInBounds_toArray, List.set_cons_zero, List.set_cons_succ]
        refine wpAnyH_take (i := 4) (v := .agg (cs1).toArray) rfl (by kernel_rfl) (by kernel_rfl) (by kernel_rfl) (fun _ _ _ h => h) (yieldsIf_load_mid (by rfl) _ _ rfl _ _ rfl _ _ (fun w hSw => hSw.1) Tryd.underlying27 rfl hinfS) (by assumption) ?_
        simp only [List.getElem_toArray, List.getElem_cons_succ, List.getElem_cons_zero, Act.put, List.setIfInBounds_toArray, List.set_cons_zero, List.set_cons_succ]
        refine wpAnyH_ready (rs := [5]) (by kernel_rfl) (by simp) (AllReadyH.cons rfl (fun K hK => ?_) AllReadyH.nil)
        refine step_call1J (by rfl) 36 nmemo_enter (.tmp 3) _ rfl rfl (memo_calls _ _) ?_
        rintro e wn ⟨rfl, hwn⟩
        obtain rfl := hwn.symm
        clear hwn
        refine ⟨_, rfl, ?_⟩
        refine hK.out _ _ (unhide HS _ HBwa.out) (fun hJ3 => ?_)
        clear hK K
        simp only [List.getElem_toArray, List.getElem_cons_succ, List.getElem_cons_zero, Act.put, List.setIfInBounds_toArray, List.set_cons_zero, List.set_cons_succ]
        refine wpAnyH_ready (rs := [6]) (by kernel_rfl) (by simp) (AllReadyH.cons rfl (fun K hK => ?_) AllReadyH.nil)
        refine step_call2J (by rfl) 59 chmay_enter (.tmp 35) (.tmp 36) _ rfl rfl rfl (unhide HC2 _ _ (unhide HS _ HBwa.out).2) ?_
        rintro e wb ⟨rfl, hbwb⟩
        have HBwb := hide (below_then HBwa.out hbwb)
        clear hbwb
        refine ⟨_, rfl, ?_⟩
        refine hK.out _ _ (unhide HS _ HBwb.out) (fun hJ4 => ?_)
        clear hK K
        simp only [List.getElem_toArray, List.getElem_cons_succ, List.getElem_cons_zero, Act.put, List.setIfInBounds_toArray, List.set_cons_zero, List.set_cons_succ]
        have HBZ := HBwb
        refine wpAnyH_take (i := 7) (v := .bool q) rfl (by kernel_rfl) (by kernel_rfl) (by kernel_rfl) (fun _ _ _ h => h) (Or.inl ⟨by rfl, fun w hSw => by go_simp⟩) (by assumption) ?_
        simp only [List.getElem_toArray, List.getElem_cons_succ, List.getElem_cons_zero, Act.put, List.setIfInBounds_toArray, List.set_cons_zero, List.set_cons_succ]
        refine wpAnyH_take (i := 8) (v := .bool q) rfl (by kernel_rfl) (by kernel_rfl) (by kernel_rfl) (fun _ _ _ h => h) (Or.inl ⟨by rfl, fun w hSw => by go_simp⟩) (by assumption) ?_
        simp only [List.getElem_toArray, List.getElem_cons_succ, List.getElem_cons_zero, Act.put, List.setIfInBounds_toArray, List.set_cons_zero, List.set_cons_succ]
        refine wpAnyH_done (by kernel_rfl) ?_ _
        go_wp2
        go_ret
        exact ⟨by rw [HR.out]; rfl, below_then HBW.out HBZ.out⟩
set_option maxRecDepth 100000 in
set_option maxHeartbeats 1000000 in
theorem mayBe_hi {w : World} {s : SL} (hs : s.Ok) (hcase : 1024 ≤ s.sc - 4) : Calls Tryd.prog 30 #[.agg (slV s).toArray] w fun e w' => e = .returned (.bool s.may) ∧ Below w.heap.size w w' := by
  have HF : Hid (∀ w1, Arr w1 w.heap.size 27 (slV s) → (w1.cell? ⟨w.heap.size, 0, none⟩ = some (.int .i64 s.sc) ∧ w1.cell? ⟨w.heap.size, 1, none⟩ = some (.int .i64 s.j))) := hide (fun w1 hA1 => by
    obtain ⟨e0, e1, _⟩ := slV_at s
    exact ⟨(hA1.cell 0).trans e0, (hA1.cell 1).trans e1⟩)
  by_cases ha : 2 ≤ s.sc ∧ s.sc ≤ 65536
  case neg =>
    have HR := hide (may_sc ha)
    have HW : Hid (∀ W, Calls Tryd.prog 58 #[.int .i64 s.sc, .int .i64 2, .int .i64 65536] W fun e w' => e = .returned (.bool false) ∧ w' = W) := hide (fun W => by have := within_calls W s.sc 2 65536; rw [decide_eq_false ha] at this; exact this)
    generalize s.may = rr at *
    generalize slV s = cs1 at *
    generalize s.sc = x0 at *
    generalize s.j = x1 at *
    clear hs ha hcase
    go_enter Tryd.func30, Tryd.ntmps30
    go_wp2_with (first
      | (refine wpList_boxJ rfl 27 (.tmp 0) rfl rfl ?_; intro w1 hA1 hb1 hs1
         obtain ⟨c0, c1⟩ := unhide HF w1 hA1
         have HB1 := hide hb1
         clear hA1 hb1 hs1)
      | fail)
    refine (unhide HW _).mono ?_
    rintro e w2 ⟨rfl, hw2⟩
    obtain rfl := hw2.symm
    clear hw2
    go_wp2
    go_ret
    exact ⟨by rw [HR.out]; rfl, HB1.out⟩
  have HW0 : Hid (∀ W, Calls Tryd.prog 58 #[.int .i64 s.sc, .int .i64 2, .int .i64 65536] W fun e w' => e = .returned (.bool true) ∧ w' = W) := hide (fun W => by have := within_calls W s.sc 2 65536; rw [decide_eq_true ha] at this; exact this)
  obtain ⟨y0, hy0⟩ : ∃ y, s.sc - 2 = y := ⟨_, rfl⟩
  obtain ⟨y1, hy1⟩ : ∃ y, y0 - 2 = y := ⟨_, rfl⟩
  have ey0 : IntKind.i64.wrap y0 = y0 := IntWalk.i64_in _ (by omega)
  have ey1 : IntKind.i64.wrap y1 = y1 := IntWalk.i64_in _ (by omega)
  have hq : 1024 ≤ y1 := by omega
  have hqd : decide (y1 < 1024) = false := by simp; omega
  have hmq : min 1024 (s.sc - 4) = 1024 := by omega
  by_cases hj : 8 ≤ s.j ∧ s.j ≤ 1024
  case neg =>
    have HR := hide (may_j (s := s) (by rw [hmq]; exact hj))
    have HW : Hid (∀ W, Calls Tryd.prog 58 #[.int .i64 s.j, .int .i64 8, .int .i64 1024] W fun e w' => e = .returned (.bool false) ∧ w' = W) := hide (fun W => by have := within_calls W s.j 8 1024; rw [decide_eq_false hj] at this; exact this)
    generalize s.may = rr at *
    generalize slV s = cs1 at *
    generalize s.sc = x0 at *
    generalize s.j = x1 at *
    clear hs ha hj hmq hcase
    go_enter Tryd.func30, Tryd.ntmps30
    go_wp2_with (first
      | (refine wpList_boxJ rfl 27 (.tmp 0) rfl rfl ?_; intro w1 hA1 hb1 hs1
         obtain ⟨c0, c1⟩ := unhide HF w1 hA1
         have HB1 := hide hb1
         clear hA1 hb1 hs1)
      | fail)
    refine (unhide HW0 _).mono ?_
    rintro e w2 ⟨rfl, hw2⟩
    obtain rfl := hw2.symm
    clear hw2
    go_wp2_with fail
    refine (unhide HW _).mono ?_
    rintro e w2 ⟨rfl, hw2⟩
    obtain rfl := hw2.symm
    clear hw2
    go_wp2
    go_ret
    exact ⟨by rw [HR.out]; rfl, HB1.out⟩
  have HW1 : Hid (∀ W, Calls Tryd.prog 58 #[.int .i64 s.j, .int .i64 8, .int .i64 1024] W fun e w' => e = .returned (.bool true) ∧ w' = W) := hide (fun W => by have := within_calls W s.j 8 1024; rw [decide_eq_true hj] at this; exact this)
  have HALL := hide (fun h2 => may_all (s := s) ha (by rw [hmq]; exact hj) h2)
  have HCNT := hide (fun (k : Nat) (hk : k < 3) => may_cnt (s := s) hk)
  have HNO : Hid (∀ W, Calls Tryd.prog 31 #[.agg (slV s).toArray] W fun e w' => e = .returned (.agg (nV (slN s)).toArray) ∧ Below W.heap.size W w') := hide (fun W => numbersOf_calls hs)
  have HGET := hide (fun k (hk : k < 3) => nV_get s hk)
  have HC1 : Hid (∀ W g, Arr W g 74 (nV (slN s)) → Calls Tryd.prog 59 #[.agg (slV s).toArray, .slice (some ⟨g, 5, none⟩) 2 4] W fun e w' => e = .returned (.bool (fitB s.sc s.j s.r.f s.r.l)) ∧ Below W.heap.size W w') := hide (fun W g hA => chainMay_calls ha.1 ha.2 hj.1 (by omega) hA rfl rfl (by decide) (by decide))
  have HC2 : Hid (∀ W g, Arr W g 74 (nV (slN s)) → Calls Tryd.prog 59 #[.agg (slV s).toArray, .slice (some ⟨g, 7, none⟩) 2 2] W fun e w' => e = .returned (.bool (fitB s.sc s.j s.m.f s.m.l)) ∧ Below W.heap.size W w') := hide (fun W g hA => chainMay_calls ha.1 ha.2 hj.1 (by omega) hA rfl rfl (by decide) (by decide))
  have hinfS := infoSof hs
  have hinf9 : (Tryd.prog.info? 74).map (·.size) = some (nV (slN s)).length := info9z
  have hlen9 : z9.length = (nV (slN s)).length := rfl
  have hone9 := nV_one (slN s)
  generalize s.may = rr at *
  generalize slV s = cs1 at *
  generalize nV (slN s) = ns at *
  generalize fitB s.sc s.j s.r.f s.r.l = p at *
  generalize fitB s.sc s.j s.m.f s.m.l = q at *
  generalize s.sc = x0 at *
  generalize s.j = x1 at *
  generalize [s.t, s.g, s.s] = cn at *
  clear hs ha hj hmq hcase
  go_enter Tryd.func30, Tryd.ntmps30
  go_wp2_with (first
    | (refine wpList_boxJ rfl 27 (.tmp 0) rfl rfl ?_; intro w1 hA1 hb1 hs1
       obtain ⟨c0, c1⟩ := unhide HF w1 hA1
       have hrg := hA1.rangeJ
       have HB1 := hide hb1
       have HA1 := hide hA1
       clear hA1 hb1 hs1)
    | fail)
  refine (unhide HW0 _).mono ?_
  rintro e w2 ⟨rfl, hw2⟩
  obtain rfl := hw2.symm
  clear hw2
  go_wp2_with fail
  refine (unhide HW1 _).mono ?_
  rintro e w2 ⟨rfl, hw2⟩
  obtain rfl := hw2.symm
  clear hw2
  go_wp2_with (first
    | (refine wpList_loadJ rfl 27 (.tmp 1) rfl _ 0 rfl cs1 _ hrg Tryd.underlying27 rfl hinfS ?_)
    | fail)
  refine (unhide HNO _).mono ?_
  rintro e w3 ⟨rfl, hb3⟩
  have hA3 := HA1.out.below hb3
  have hbw3 := below_then HB1.out hb3
  have HX : Hid (∀ w4, Arr w4 w3.heap.size 74 ns → (w3.alloc (.cells z9.toArray 74)).grownBy w4 (some w3.heap.size) → Arr w4 w.heap.size 27 cs1 ∧ Below w.heap.size w w4) := hide (fun w4 hA4 hg4 => by
    have hba := jalloc_below w3 (.cells z9.toArray 74)
    have hlt := hA3.lt
    exact ⟨arr_grown (hA3.below hba) hg4 (by simp; omega), jbelow_grown (below_then hbw3 hba) hg4 (Nat.le_trans hbw3.size hba.size) hbw3.size⟩)
  clear HNO HA1 HB1 hA3 hbw3 hrg hb3 c0 c1
  go_wp2_with (first
    | (refine wpList_allocJ rfl 74 rfl info9 ?_)
    | (refine wpList_storeJ rfl (.tmp 3) (.tmp 20) 74 rfl rfl rfl (Arr.new w3 z9 74) hinf9 hlen9 hone9 ?_; intro w4 hA4 hg4
       obtain ⟨hAs, hbw⟩ := unhide HX w4 hA4 hg4
       have HA4 := hide hA4
       have HAS := hide hAs
       have HBW := hide hbw
       have HCO := hide (counts_calls w4 w3.heap.size)
       clear hA4 hg4 hAs hbw HX)
    | fail)
  generalize w3.heap.size = g3 at *
  refine (unhide HCO).mono ?_
  rintro e w2 ⟨rfl, hw2⟩
  obtain rfl := hw2.symm
  clear hw2 HCO
  go_wp2_with fail
  go_loopw [23] (fun i W => ∃ k : Nat, k ≤ 3 ∧ i = .int .i64 k ∧ W = w4 ∧ Hid (∀ j, j < k → 0 ≤ cn.getD j 0 ∧ cn.getD j 0 ≤ 1099511627776)) (fun i _ => 3 - (intOf i).toNat)
  case atStart => exact ⟨0, by decide, rfl, rfl, hide (fun j hj => by omega)⟩
  case round =>
    obtain ⟨k, hk, rfl, rfl, HT⟩ := hrel
    by_cases hlt : k < 3
    · have hcl : wr.cell? ⟨g3, 2 + k, none⟩ = some (.int .i64 (cn.getD k 0)) := (HA4.out.cell _).trans (unhide HGET k hlt)
      by_cases hc : 0 ≤ cn.getD k 0 ∧ cn.getD k 0 ≤ 1099511627776
      · have HT2 : Hid (∀ j, j < k + 1 → 0 ≤ cn.getD j 0 ∧ cn.getD j 0 ≤ 1099511627776) := hide (fun j hj => by
          by_cases e : j = k
          · subst e; exact hc
          · exact unhide HT j (by omega))
        have HW : Hid (Calls Tryd.prog 58 #[.int .i64 (cn.getD k 0), .int .i64 0, .int .i64 1099511627776] wr fun e w' => e = .returned (.bool true) ∧ w' = wr) := hide (by have := within_calls wr (cn.getD k 0) 0 1099511627776; rw [decide_eq_true hc] at this; exact this)
        generalize cn.getD k 0 = V at *
        clear hc HT
        go_wp2_with fail
        refine (unhide HW).mono ?_
        rintro e w2 ⟨rfl, hw2⟩
        obtain rfl := hw2.symm
        clear hw2
        go_wp2
        go_roundw
        case rel => exact ⟨k + 1, by omega, by go_num, trivial, HT2⟩
        case measure => simp [intOf]; omega
      · have HR := hide (unhide HCNT k hlt hc)
        have HW : Hid (Calls Tryd.prog 58 #[.int .i64 (cn.getD k 0), .int .i64 0, .int .i64 1099511627776] wr fun e w' => e = .returned (.bool false) ∧ w' = wr) := hide (by have := within_calls wr (cn.getD k 0) 0 1099511627776; rw [decide_eq_false hc] at this; exact this)
        generalize cn.getD k 0 = V at *
        clear hc HT
        go_wp2_with fail
        refine (unhide HW).mono ?_
        rintro e w2 ⟨rfl, hw2⟩
        obtain rfl := hw2.symm
        clear hw2
        go_wp2
        go_ret
        exact ⟨by rw [HR.out]; rfl, HBW.out⟩
    · have HR := hide (unhide HALL (fun j hj => unhide HT j (by omega)))
      clear HT HALL HCNT HGET
      have HS : Hid (∀ W, Below wr.heap.size wr W → W.rangeAt w.heap.size 0 cs1 ∧ Arr W g3 74 ns) := hide (fun W hW => ⟨(HAS.out.below hW).rangeJ, HA4.out.below hW⟩)
      go_wp2_with fail
      cases p with
      | false =>
        have HBD := hide ((Below.refl wr.heap.size wr).drew)
        refine wp_region_held_drew (S := fun W => W.rangeAt w.heap.size 0 cs1 ∧ Arr W g3 74 ns) (by kernel_rfl) (unhide HS _ HBD.out) (fun hHeld => ?_)
        refine wpAnyH_take (i := 0) (v := .agg (cs1).toArray) rfl (by kernel_rfl) (by kernel_rfl) (by kernel_rfl) (fun _ _ _ h => h) (yieldsIf_load_mid (by rfl) _ _ rfl _ _ rfl _ _ (fun w hSw => hSw.1) Tryd.underlying27 rfl hinfS) (by assumption) ?_
        simp only [List.getElem_toArray, List.getElem_cons_zero, Act.put, List.setIfInBounds_toArray, List.set_cons_zero, List.set_cons_succ]
        refine wpAnyH_ready (rs := [1]) (by kernel_rfl) (by simp) (AllReadyH.cons rfl (fun K hK => ?_) AllReadyH.nil)
        refine step_call1J (by rfl) 35 nroot_enter (.tmp 3) _ rfl rfl (root_calls _ _) ?_
        rintro e wn ⟨rfl, hwn⟩
        obtain rfl := hwn.symm
        clear hwn
        refine ⟨_, rfl, ?_⟩
        refine hK.out _ _ (unhide HS _ HBD.out) (fun hJ1 => ?_)
        clear hK K
        simp only [List.getElem_toArray, List.getElem_cons_succ, List.getElem_cons_zero, Act.put, List.setIfInBounds_toArray, List.set_cons_zero, List.set_cons_succ]
        refine wpAnyH_ready (rs := [2]) (by kernel_rfl) (by simp) (AllReadyH.cons rfl (fun K hK => ?_) AllReadyH.nil)
        refine step_call2J (by rfl) 59 chmay_enter (.tmp 31) (.tmp 32) _ rfl rfl rfl (unhide HC1 _ _ (unhide HS _ HBD.out).2) ?_
        rintro e wa ⟨rfl, hbwa⟩
        have HBwa := hide (below_then HBD.out hbwa)
        clear hbwa
        refine ⟨_, rfl, ?_⟩
        refine hK.out _ _ (unhide HS _ HBwa.out) (fun hJ2 => ?_)
        clear hK K
        simp only [List.getElem_toArray, List.getElem_cons_succ, List.getElem_cons_zero, Act.put, List.setIfInBounds_toArray, List.set_cons_zero, List.set_cons_succ]
        refine wpAnyH_take (i := 3) (v := .bool false) rfl (by kernel_rfl) (by kernel_rfl) (by kernel_rfl) (fun _ _ _ h => h) (Or.inl ⟨by rfl, fun w hSw => by go_simp⟩) (by assumption) ?_
        simp only [List.getElem_toArray, List.getElem_cons_succ, List.getElem_cons_zero, Act.put, List.setIfInBounds_toArray, List.set_cons_zero, List.set_cons_succ]
        have HBZ := HBwa
        refine wpAnyH_take (i := 4) (v := undef) rfl (by kernel_rfl) (by kernel_rfl) (by kernel_rfl) (fun _ _ _ h => h) (Or.inr ⟨by rfl, rfl⟩) (by assumption) ?_
        simp only [List.getElem_toArray, List.getElem_cons_succ, List.getElem_cons_zero, Act.put, List.setIfInBounds_toArray, List.set_cons_zero, List.set_cons_succ]
        refine wpAnyH_take (i := 5) (v := undef) rfl (by kernel_rfl) (by kernel_rfl) (by kernel_rfl) (fun _ _ _ h => h) (Or.inr ⟨by rfl, rfl⟩) (by assumption) ?_
        simp only [List.getElem_toArray, List.getElem_cons_succ, List.getElem_cons_zero, Act.put, List.setIfInBounds_toArray, List.set_cons_zero, List.set_cons_succ]
        refine wpAnyH_take (i := 6) (v := undef) rfl (by kernel_rfl) (by kernel_rfl) (by kernel_rfl) (fun _ _ _ h => h) (Or.inr ⟨by rfl, rfl⟩) (by assumption) ?_
        simp only [List.getElem_toArray, List.getElem_cons_succ, List.getElem_cons_zero, Act.put, List.setIfInBounds_toArray, List.set_cons_zero, List.set_cons_succ]
        refine wpAnyH_take (i := 7) (v := .bool false) rfl (by kernel_rfl) (by kernel_rfl) (by kernel_rfl) (fun _ _ _ h => h) (Or.inl ⟨by rfl, fun w hSw => by go_simp⟩) (by assumption) ?_
        simp only [List.getElem_toArray, List.getElem_cons_succ, List.getElem_cons_zero, Act.put, List.setIfInBounds_toArray, List.set_cons_zero, List.set_cons_succ]
        refine wpAnyH_take (i := 8) (v := .bool false) rfl (by kernel_rfl) (by kernel_rfl) (by kernel_rfl) (fun _ _ _ h => h) (Or.inl ⟨by rfl, fun w hSw => by go_simp⟩) (by assumption) ?_
        simp only [List.getElem_toArray, List.getElem_cons_succ, List.getElem_cons_zero, Act.put, List.setIfInBounds_toArray, List.set_cons_zero, List.set_cons_succ]
        refine wpAnyH_done (by kernel_rfl) ?_ _
        go_wp2
        go_ret
        exact ⟨by rw [HR.out]; rfl, below_then HBW.out HBZ.out⟩
      | true =>
        have HBD := hide ((Below.refl wr.heap.size wr).drew)
        refine wp_region_held_drew (S := fun W => W.rangeAt w.heap.size 0 cs1 ∧ Arr W g3 74 ns) (by kernel_rfl) (unhide HS _ HBD.out) (fun hHeld => ?_)
        refine wpAnyH_take (i := 0) (v := .agg (cs1).toArray) rfl (by kernel_rfl) (by kernel_rfl) (by kernel_rfl) (fun _ _ _ h => h) (yieldsIf_load_mid (by rfl) _ _ rfl _ _ rfl _ _ (fun w hSw => hSw.1) Tryd.underlying27 rfl hinfS) (by assumption) ?_
        simp only [List.getElem_toArray, List.getElem_cons_zero, Act.put, List.setIfInBounds_toArray, List.set_cons_zero, List.set_cons_succ]
        refine wpAnyH_ready (rs := [1]) (by kernel_rfl) (by simp) (AllReadyH.cons rfl (fun K hK => ?_) AllReadyH.nil)
        refine step_call1J (by rfl) 35 nroot_enter (.tmp 3) _ rfl rfl (root_calls _ _) ?_
        rintro e wn ⟨rfl, hwn⟩
        obtain rfl := hwn.symm
        clear hwn
        refine ⟨_, rfl, ?_⟩
        refine hK.out _ _ (unhide HS _ HBD.out) (fun hJ1 => ?_)
        clear hK K
        simp only [List.getElem_toArray, List.getElem_cons_succ, List.getElem_cons_zero, Act.put, List.setIfInBounds_toArray, List.set_cons_zero, List.set_cons_succ]
        refine wpAnyH_ready (rs := [2]) (by kernel_rfl) (by simp) (AllReadyH.cons rfl (fun K hK => ?_) AllReadyH.nil)
        refine step_call2J (by rfl) 59 chmay_enter (.tmp 31) (.tmp 32) _ rfl rfl rfl (unhide HC1 _ _ (unhide HS _ HBD.out).2) ?_
        rintro e wa ⟨rfl, hbwa⟩
        have HBwa := hide (below_then HBD.out hbwa)
        clear hbwa
        refine ⟨_, rfl, ?_⟩
        refine hK.out _ _ (unhide HS _ HBwa.out) (fun hJ2 => ?_)
        clear hK K
        simp only [List.getElem_toArray, List.getElem_cons_succ, List.getElem_cons_zero, Act.put, List.setIfInBounds_toArray, List.set_cons_zero, List.set_cons_succ]
        refine wpAnyH_take (i := 3) (v := .bool true) rfl (by kernel_rfl) (by kernel_rfl) (by kernel_rfl) (fun _ _ _ h => h) (Or.inl ⟨by rfl, fun w hSw => by go_simp⟩) (by assumption) ?_
        simp only [List.getElem_toArray, List.getElem_cons_succ, List.getElem_cons_zero, Act.put, List.setIfInBounds_toArray, List.set_cons_zero, List.set_cons_succ]
        refine wpAnyH_take (i := 4) (v := .agg (cs1).toArray) rfl (by kernel_rfl) (by kernel_rfl) (by kernel_rfl) (fun _ _ _ h => h) (yieldsIf_load_mid (by rfl) _ _ rfl _ _ rfl _ _ (fun w hSw => hSw.1) Tryd.underlying27 rfl hinfS) (by assumption) ?_
        simp only [List.getElem_toArray, List.getElem_cons_succ, List.getElem_cons_zero, Act.put, List.setIfInBounds_toArray, List.set_cons_zero, List.set_cons_succ]
        refine wpAnyH_ready (rs := [5]) (by kernel_rfl) (by simp) (AllReadyH.cons rfl (fun K hK => ?_) AllReadyH.nil)
        refine step_call1J (by rfl) 36 nmemo_enter (.tmp 3) _ rfl rfl (memo_calls _ _) ?_
        rintro e wn ⟨rfl, hwn⟩
        obtain rfl := hwn.symm
        clear hwn
        refine ⟨_, rfl, ?_⟩
        refine hK.out _ _ (unhide HS _ HBwa.out) (fun hJ3 => ?_)
        clear hK K
        simp only [List.getElem_toArray, List.getElem_cons_succ, List.getElem_cons_zero, Act.put, List.setIfInBounds_toArray, List.set_cons_zero, List.set_cons_succ]
        refine wpAnyH_ready (rs := [6]) (by kernel_rfl) (by simp) (AllReadyH.cons rfl (fun K hK => ?_) AllReadyH.nil)
        refine step_call2J (by rfl) 59 chmay_enter (.tmp 35) (.tmp 36) _ rfl rfl rfl (unhide HC2 _ _ (unhide HS _ HBwa.out).2) ?_
        rintro e wb ⟨rfl, hbwb⟩
        have HBwb := hide (below_then HBwa.out hbwb)
        clear hbwb
        refine ⟨_, rfl, ?_⟩
        refine hK.out _ _ (unhide HS _ HBwb.out) (fun hJ4 => ?_)
        clear hK K
        simp only [List.getElem_toArray, List.getElem_cons_succ, List.getElem_cons_zero, Act.put, List.setIfInBounds_toArray, List.set_cons_zero, List.set_cons_succ]
        have HBZ := HBwb
        refine wpAnyH_take (i := 7) (v := .bool q) rfl (by kernel_rfl) (by kernel_rfl) (by kernel_rfl) (fun _ _ _ h => h) (Or.inl ⟨by rfl, fun w hSw => by go_simp⟩) (by assumption) ?_
        simp only [List.getElem_toArray, List.getElem_cons_succ, List.getElem_cons_zero, Act.put, List.setIfInBounds_toArray, List.set_cons_zero, List.set_cons_succ]
        refine wpAnyH_take (i := 8) (v := .bool q) rfl (by kernel_rfl) (by kernel_rfl) (by kernel_rfl) (fun _ _ _ h => h) (Or.inl ⟨by rfl, fun w hSw => by go_simp⟩) (by assumption) ?_
        simp only [List.getElem_toArray, List.getElem_cons_succ, List.getElem_cons_zero, Act.put, List.setIfInBounds_toArray, List.set_cons_zero, List.set_cons_succ]
        refine wpAnyH_done (by kernel_rfl) ?_ _
        go_wp2
        go_ret
        exact ⟨by rw [HR.out]; rfl, below_then HBW.out HBZ.out⟩
theorem mayBe_calls {w : World} {s : SL} (hs : s.Ok) : Calls Tryd.prog 30 #[.agg (slV s).toArray] w fun e w' => e = .returned (.bool s.may) ∧ Below w.heap.size w w' := by
  by_cases h : s.sc - 4 < 1024
  · exact mayBe_lo hs h
  · exact mayBe_hi hs (by omega)
end Go.Proofs.YtbgknbjpbobebaaDoor
