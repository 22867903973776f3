/- The document's Sound. -/
import Derived.Test.YtbgknbjpbobebaaDoorRtDc
import Derived.Test.YtbgknbjpbobebaaDoorKQ
namespace Go.Proofs.YtbgknbjpbobebaaDoor
open Go.RowKit Go.Maps

theorem rdC_infoS (n : Int) (a1 : Option Addr) (n1 c1 : Nat) (a2 : Option Addr) (n2 c2 : Nat) (rd wt fl : Int) : (Tryd.prog.info? 44).map (·.size) = some (rdC n a1 n1 c1 a2 n2 c2 rd wt fl).length := (by kernel_rfl : (Tryd.prog.info? 44).map (·.size) = some 6)
set_option maxRecDepth 100000 in
set_option maxHeartbeats 4000000 in
theorem rsound_calls {w : World} {R : RD} {i : Nat} {a1 a2 : Option Addr} {n1 c1 n2 c2 : Nat} (h1 : IsAts w (.slice a1 n1 c1) R.la) (h2 : IsAts w (.slice a2 n2 c2) R.wr) (hok1 : AtsOk R.n R.la) (hok2 : AtsOk R.n R.wr) (hby : By8 (R.now (i : Int))) :
    Calls Tryd.prog 49 #[.agg (rdC (R.n : Int) a1 n1 c1 a2 n2 c2 R.rd R.wt R.fl).toArray, .int .i64 (i : Int)] w fun e w' => e = .returned (.tuple #[.agg (slV (decSR (R.now (i : Int)))).toArray, .bool (sndO R.n (R.now (i : Int)) i).isSome]) ∧ Below w.heap.size w w' := by
  have HNOW : Hid (∀ W, Below w.heap.size w W → Calls Tryd.prog 70 #[.agg (rdC (R.n : Int) a1 n1 c1 a2 n2 c2 R.rd R.wt R.fl).toArray, .int .i64 (i : Int)] W fun e w' => ∃ u, e = .returned u ∧ Own8 w' 0 u (R.now (i : Int)) ∧ Below W.heap.size W w') := hide (fun W hW => now_calls (h2.below hW) (h1.below hW) hok2 hok1)
  have HDC : Hid (∀ (W : World) u, IsB W u (R.now (i : Int)) → Calls Tryd.prog 43 #[u] W fun e w' => e = .returned (.tuple #[.agg (slV (decSR (R.now (i : Int)))).toArray, .int .i64 (decSE (R.now (i : Int)))]) ∧ Below W.heap.size W w') := hide (fun W u hI => rdecS_calls hI)
  have hinfD := rdC_infoS (R.n : Int) a1 n1 c1 a2 n2 c2 R.rd R.wt R.fl
  have hA0 : (rdC (R.n : Int) a1 n1 c1 a2 n2 c2 R.rd R.wt R.fl)[0]? = some (.int .i64 (R.n : Int)) := rfl
  have HC0 := hide hA0
  have hok := decSR_ok hby
  have hcase : (decS (R.now (i : Int)) = none ∧ decSE (R.now (i : Int)) = 180) ∨ (∃ s, decS (R.now (i : Int)) = some s ∧ decSR (R.now (i : Int)) = s ∧ decSE (R.now (i : Int)) = 0 ∧ 0 ≤ s.t) := by
    cases h : decS (R.now (i : Int)) with
    | none => exact Or.inl ⟨rfl, (decSR_none h).2⟩
    | some s => exact Or.inr ⟨s, rfl, (decSR_some h).1, (decSR_some h).2, (decS_some h).2.2.1.t.1⟩
  have hinf := infoSof hok
  have hlen : z105.length = (slV (decSR (R.now (i : Int)))).length := by rw [slV_len hok]; rfl
  have hon := slV_one (decSR (R.now (i : Int)))
  generalize rdC (R.n : Int) a1 n1 c1 a2 n2 c2 R.rd R.wt R.fl = rcD at *
  generalize hN : R.n = N at *
  generalize hb : R.now (i : Int) = b at *
  clear h1 h2 hok1 hok2 hby hok hA0 hN hb
  go_enter Tryd.func49, Tryd.ntmps49
  go_wp2_with (first
    | (refine wpList_boxJ rfl 44 (.tmp 0) rfl rfl ?_; intro w1 hA1 hb1 hs1
       have hba := jalloc_below w1 (.cells z105.toArray 27)
       have hA2 := Arr.new w1 z105 27
       have hrgD := (hA1.below hba).rangeJ
       have HAD := hide (hA1.below hba)
       have HA4 := hide hA2
       have HB2 := hide (below_then hb1 hba)
       have HG4 : Hid (w.heap.size < w1.heap.size) := hide (by omega)
       clear hA1 hb1 hs1 hba hA2)
    | (refine wpList_allocJ rfl 27 rfl infoSlo ?_; generalize w1.alloc (.cells z105.toArray 27) = w2 at *; generalize w1.heap.size = g4 at *)
    | (refine wpList_loadJ rfl 44 (.tmp 2) rfl _ 0 rfl rcD _ hrgD Tryd.underlying44 rfl hinfD ?_)
    | fail)
  refine (unhide HNOW _ HB2.out).mono ?_
  rintro e w3 ⟨u, rfl, ho3, hb3⟩
  obtain ⟨ua, un, uc, rfl⟩ := ho3.shape
  have HI3 := hide ho3.isB
  have HAD3 := hide (HAD.out.below hb3)
  have HA43 := hide (HA4.out.below hb3)
  have HB3 := hide (below_then HB2.out hb3)
  clear ho3 hb3 HAD HA4 HB2 hrgD HNOW
  go_wp2_with fail
  refine (unhide HDC _ _ HI3.out).mono ?_
  rintro e w4 ⟨rfl, hb4⟩
  have hAD4 := HAD3.out.below hb4
  have hA44 := HA43.out.below hb4
  have hbw4 := below_then HB3.out hb4
  have HX : Hid (∀ w5, Arr w5 w4.heap.size 27 (slV (decSR b)) → (w4.alloc (.cells z105.toArray 27)).grownBy w5 (some w4.heap.size) → Arr w5 w.heap.size 44 rcD ∧ Arr w5 g4 27 z105 ∧ Below w.heap.size w w5 ∧ g4 ≠ w4.heap.size) := hide (fun w5 hA5 hg5 => by
    have hba := jalloc_below w4 (.cells z105.toArray 27)
    have hb5 := jbelow_grown hba hg5 hba.size (Nat.le_refl _)
    exact ⟨hAD4.below hb5, hA44.below hb5, below_then hbw4 hb5, by have := hA44.lt; omega⟩)
  clear HDC HI3 HAD3 HA43 HB3 hb4 hAD4 hA44 hbw4
  go_wp2_with (first
    | (refine wpList_allocJ rfl 27 rfl infoSlo ?_)
    | (refine wpList_storeJ rfl (.tmp 6) (.tmp 13) 27 rfl rfl rfl (Arr.new w4 z105 27) hinf hlen hon ?_; intro w5 hA5 hg5
       obtain ⟨hAD5, hA45, hB5, hne5⟩ := unhide HX w5 hA5 hg5
       have HA6 := hide hA5
       have HAD5 := hide hAD5
       have HA45 := hide hA45
       have HB5 := hide hB5
       have HNE := hide hne5
       clear hA5 hg5 hAD5 hA45 hB5 hne5 HX)
    | fail)
  generalize w4.heap.size = g6 at *
  have HS0 : Hid (∀ W, Arr W g6 27 (slV (decSR b)) → Arr W w.heap.size 44 rcD → W.rangeAt g6 0 (slV (decSR b)) ∧ W.cell? ⟨g6, 0, none⟩ = some (.int .i64 (decSR b).sc) ∧ W.cell? ⟨g6, 2, none⟩ = some (.int .i64 (decSR b).t) ∧ W.cell? ⟨w.heap.size, 0, none⟩ = some (.int .i64 (N : Int))) := hide (fun W q1 q2 => ⟨q1.rangeJ, (q1.cell 0).trans (slV_at _).1, (q1.cell 2).trans (slV_at _).2.2.1, (q2.cell 0).trans HC0.out⟩)
  have HSD := hide (unhide HS0 _ HA6.out.drew HAD5.out.drew)
  have HFIN : Hid (∀ w9, w5.drew.grownBy w9 (some g4) → Arr w9 g6 27 (slV (decSR b)) ∧ Arr w9 w.heap.size 44 rcD ∧ Below w.heap.size w w9) := hide (fun w9 hg9 => ⟨arr_grown HA6.out.drew hg9 (by simpa using HNE.out.symm), arr_grown HAD5.out.drew hg9 (by have := HG4.out; simp; omega), jbelow_grown HB5.out.drew hg9 HB5.out.drew.size (by have := HG4.out; omega)⟩)
  rcases hcase with ⟨hd, he⟩ | ⟨s, hd, hsr, he, ht0⟩
  · have HR : Hid ((sndO N b i).isSome = false) := hide (by rw [sndO_none hd]; rfl)
    rw [he]
    generalize hcs1 : slV (decSR b) = cs1 at *
    have HCS1 := hide hcs1
    clear hcs1
    generalize (decSR b).sc = x0 at *
    generalize (decSR b).t = xt at *
    clear hd he
    go_wp2_with fail
    refine wp_region_held_drew (S := fun W => W.rangeAt g6 0 cs1 ∧ W.cell? ⟨g6, 0, none⟩ = some (.int .i64 x0) ∧ W.cell? ⟨g6, 2, none⟩ = some (.int .i64 xt) ∧ W.cell? ⟨w.heap.size, 0, none⟩ = some (.int .i64 (N : Int))) (by kernel_rfl) (HSD.out) (fun hHeld => ?_)
    refine wpAnyH_take (i := 0) (v := .agg (cs1).toArray) rfl (by kernel_rfl) (by kernel_rfl) (by kernel_rfl) (fun _ _ _ h => h) (yieldsIf_load_mid (by rfl) _ _ rfl _ _ rfl _ _ (fun w hSw => hSw.1) Tryd.underlying27 rfl hinf) (by assumption) ?_
    simp only [List.getElem_toArray, List.getElem_cons_zero, Act.put, List.setIfInBounds_toArray, List.set_cons_zero, List.set_cons_succ]
    refine wpAnyH_take (i := 1) (v := .int .i64 180) rfl (by kernel_rfl) (by kernel_rfl) (by kernel_rfl) (fun _ _ _ h => h) (Or.inl ⟨by rfl, fun w hSw => by obtain ⟨hS0, hS1, hS2, hS3⟩ := hSw; go_simp⟩) (by assumption) ?_
    simp only [List.getElem_toArray, List.getElem_cons_succ, List.getElem_cons_zero, Act.put, List.setIfInBounds_toArray, List.set_cons_zero, List.set_cons_succ]
    refine wpAnyH_take (i := 2) (v := .bool false) rfl (by kernel_rfl) (by kernel_rfl) (by kernel_rfl) (fun _ _ _ h => h) (Or.inl ⟨by rfl, fun w hSw => by obtain ⟨hS0, hS1, hS2, hS3⟩ := hSw; go_simp⟩) (by assumption) ?_
    simp only [List.getElem_toArray, List.getElem_cons_succ, List.getElem_cons_zero, Act.put, List.setIfInBounds_toArray, List.set_cons_zero, List.set_cons_succ]
    refine wpAnyH_take (i := 3) (v := .bool false) rfl (by kernel_rfl) (by kernel_rfl) (by kernel_rfl) (fun _ _ _ h => h) (Or.inl ⟨by rfl, fun w hSw => by obtain ⟨hS0, hS1, hS2, hS3⟩ := hSw; go_simp⟩) (by assumption) ?_
    simp only [List.getElem_toArray, List.getElem_cons_succ, List.getElem_cons_zero, Act.put, List.setIfInBounds_toArray, List.set_cons_zero, List.set_cons_succ]
    refine wpAnyH_take (i := 4) (v := undef) rfl (by kernel_rfl) (by kernel_rfl) (by kernel_rfl) (fun _ _ _ h => h) (Or.inr ⟨by rfl, rfl⟩) (by assumption) ?_
    simp only [List.getElem_toArray, List.getElem_cons_succ, List.getElem_cons_zero, Act.put, List.setIfInBounds_toArray, List.set_cons_zero, List.set_cons_succ]
    refine wpAnyH_take (i := 5) (v := undef) rfl (by kernel_rfl) (by kernel_rfl) (by kernel_rfl) (fun _ _ _ h => h) (Or.inr ⟨by rfl, rfl⟩) (by assumption) ?_
    simp only [List.getElem_toArray, List.getElem_cons_succ, List.getElem_cons_zero, Act.put, List.setIfInBounds_toArray, List.set_cons_zero, List.set_cons_succ]
    refine wpAnyH_take (i := 6) (v := undef) rfl (by kernel_rfl) (by kernel_rfl) (by kernel_rfl) (fun _ _ _ h => h) (Or.inr ⟨by rfl, rfl⟩) (by assumption) ?_
    simp only [List.getElem_toArray, List.getElem_cons_succ, List.getElem_cons_zero, Act.put, List.setIfInBounds_toArray, List.set_cons_zero, List.set_cons_succ]
    refine wpAnyH_take (i := 7) (v := undef) rfl (by kernel_rfl) (by kernel_rfl) (by kernel_rfl) (fun _ _ _ h => h) (Or.inr ⟨by rfl, rfl⟩) (by assumption) ?_
    simp only [List.getElem_toArray, List.getElem_cons_succ, List.getElem_cons_zero, Act.put, List.setIfInBounds_toArray, List.set_cons_zero, List.set_cons_succ]
    refine wpAnyH_take (i := 8) (v := undef) rfl (by kernel_rfl) (by kernel_rfl) (by kernel_rfl) (fun _ _ _ h => h) (Or.inr ⟨by rfl, rfl⟩) (by assumption) ?_
    simp only [List.getElem_toArray, List.getElem_cons_succ, List.getElem_cons_zero, Act.put, List.setIfInBounds_toArray, List.set_cons_zero, List.set_cons_succ]
    refine wpAnyH_take (i := 9) (v := .bool false) rfl (by kernel_rfl) (by kernel_rfl) (by kernel_rfl) (fun _ _ _ h => h) (Or.inl ⟨by rfl, fun w hSw => by obtain ⟨hS0, hS1, hS2, hS3⟩ := hSw; go_simp⟩) (by assumption) ?_
    simp only [List.getElem_toArray, List.getElem_cons_succ, List.getElem_cons_zero, Act.put, List.setIfInBounds_toArray, List.set_cons_zero, List.set_cons_succ]
    refine wpAnyH_take (i := 10) (v := .bool false) rfl (by kernel_rfl) (by kernel_rfl) (by kernel_rfl) (fun _ _ _ h => h) (Or.inl ⟨by rfl, fun w hSw => by obtain ⟨hS0, hS1, hS2, hS3⟩ := hSw; go_simp⟩) (by assumption) ?_
    simp only [List.getElem_toArray, List.getElem_cons_succ, List.getElem_cons_zero, Act.put, List.setIfInBounds_toArray, List.set_cons_zero, List.set_cons_succ]
    refine wpAnyH_take (i := 11) (v := undef) rfl (by kernel_rfl) (by kernel_rfl) (by kernel_rfl) (fun _ _ _ h => h) (Or.inr ⟨by rfl, rfl⟩) (by assumption) ?_
    simp only [List.getElem_toArray, List.getElem_cons_succ, List.getElem_cons_zero, Act.put, List.setIfInBounds_toArray, List.set_cons_zero, List.set_cons_succ]
    refine wpAnyH_take (i := 12) (v := undef) rfl (by kernel_rfl) (by kernel_rfl) (by kernel_rfl) (fun _ _ _ h => h) (Or.inr ⟨by rfl, rfl⟩) (by assumption) ?_
    simp only [List.getElem_toArray, List.getElem_cons_succ, List.getElem_cons_zero, Act.put, List.setIfInBounds_toArray, List.set_cons_zero, List.set_cons_succ]
    refine wpAnyH_take (i := 13) (v := undef) rfl (by kernel_rfl) (by kernel_rfl) (by kernel_rfl) (fun _ _ _ h => h) (Or.inr ⟨by rfl, rfl⟩) (by assumption) ?_
    simp only [List.getElem_toArray, List.getElem_cons_succ, List.getElem_cons_zero, Act.put, List.setIfInBounds_toArray, List.set_cons_zero, List.set_cons_succ]
    refine wpAnyH_take (i := 14) (v := undef) rfl (by kernel_rfl) (by kernel_rfl) (by kernel_rfl) (fun _ _ _ h => h) (Or.inr ⟨by rfl, rfl⟩) (by assumption) ?_
    simp only [List.getElem_toArray, List.getElem_cons_succ, List.getElem_cons_zero, Act.put, List.setIfInBounds_toArray, List.set_cons_zero, List.set_cons_succ]
    refine wpAnyH_take (i := 15) (v := undef) rfl (by kernel_rfl) (by kernel_rfl) (by kernel_rfl) (fun _ _ _ h => h) (Or.inr ⟨by rfl, rfl⟩) (by assumption) ?_
    simp only [List.getElem_toArray, List.getElem_cons_succ, List.getElem_cons_zero, Act.put, List.setIfInBounds_toArray, List.set_cons_zero, List.set_cons_succ]
    refine wpAnyH_take (i := 16) (v := .bool false) rfl (by kernel_rfl) (by kernel_rfl) (by kernel_rfl) (fun _ _ _ h => h) (Or.inl ⟨by rfl, fun w hSw => by obtain ⟨hS0, hS1, hS2, hS3⟩ := hSw; go_simp⟩) (by assumption) ?_
    simp only [List.getElem_toArray, List.getElem_cons_succ, List.getElem_cons_zero, Act.put, List.setIfInBounds_toArray, List.set_cons_zero, List.set_cons_succ]
    refine wpAnyH_ready (rs := [17]) (by kernel_rfl) (by simp) (AllReadyH.cons rfl (fun K hK => ?_) AllReadyH.nil)
    refine step_storeJ (by rfl) (.tmp 4) (.tmp 15) 27 rfl rfl rfl HA45.out.drew hinf hlen hon ?_
    intro w9 hA9 hg9
    obtain ⟨f1, f2, f3⟩ := unhide HFIN w9 hg9
    have HF3 := hide f3
    refine hK.out _ _ (unhide HS0 _ f1 f2) (fun hJ9 => ?_)
    clear hK K
    simp only [List.getElem_toArray, List.getElem_cons_succ, List.getElem_cons_zero, Act.put]
    clear f1 f2 f3
    refine wpAnyH_take (i := 18) (v := .bool false) rfl (by kernel_rfl) (by kernel_rfl) (by kernel_rfl) (fun _ _ _ h => h) (Or.inl ⟨by rfl, fun w hSw => by obtain ⟨hS0, hS1, hS2, hS3⟩ := hSw; go_simp⟩) (by assumption) ?_
    simp only [List.getElem_toArray, List.getElem_cons_succ, List.getElem_cons_zero, Act.put, List.setIfInBounds_toArray, List.set_cons_zero, List.set_cons_succ]
    refine wpAnyH_done (by kernel_rfl) ?_ _
    go_wp2
    have hA9' : Arr w9 g4 27 cs1 := hA9
    refine bodyPost_ret (results_rowJ2 rfl rfl rfl hA9' Tryd.underlying27 rfl hinf) rfl ?_
    rw [HR.out, HCS1.out]
    exact ⟨rfl, HF3.out⟩
  · rw [he]
    subst hsr
    have hmt : (decSR b).t.tmod 2 = (decSR b).t % 2 := Int.tmod_eq_emod_of_nonneg ht0
    have HSN : Hid (¬ ((decSR b).sc = (N : Int) ∧ (decSR b).t % 2 = (i : Int)) → (sndO N b i).isSome = false) := hide (fun hk => by rw [sndO_not hd hk]; rfl)
    have HSY : Hid ((decSR b).sc = (N : Int) → (decSR b).t % 2 = (i : Int) → (sndO N b i).isSome = true) := hide (fun h1 h2 => by rw [sndO_yes hd h1 h2]; rfl)
    generalize hcs1 : slV (decSR b) = cs1 at *
    have HCS1 := hide hcs1
    clear hcs1
    generalize (decSR b).sc = x0 at *
    generalize (decSR b).t = xt at *
    obtain ⟨y, hy⟩ : ∃ y, y = xt % 2 := ⟨_, rfl⟩
    rw [← hy] at hmt HSN HSY
    have HY : Hid (IntKind.i64.wrap y = y) := hide (IntWalk.i64_in _ (by omega))
    clear hd he ht0
    by_cases h1 : x0 = (N : Int)
    · have hsc : (x0 == (N : Int)) = true := by simpa using h1
      by_cases h2 : y = (i : Int)
      · have hty : (y == (i : Int)) = true := by simpa using h2
        have HR := hide (unhide HSY h1 h2)
        clear h1 h2 HSN HSY
        have hmt2 : xt % 2 = y := hy.symm
        clear hy
        go_wp2_with fail
        refine wp_region_held_drew (S := fun W => W.rangeAt g6 0 cs1 ∧ W.cell? ⟨g6, 0, none⟩ = some (.int .i64 x0) ∧ W.cell? ⟨g6, 2, none⟩ = some (.int .i64 xt) ∧ W.cell? ⟨w.heap.size, 0, none⟩ = some (.int .i64 (N : Int))) (by kernel_rfl) (HSD.out) (fun hHeld => ?_)
        refine wpAnyH_take (i := 0) (v := .agg (cs1).toArray) rfl (by kernel_rfl) (by kernel_rfl) (by kernel_rfl) (fun _ _ _ h => h) (yieldsIf_load_mid (by rfl) _ _ rfl _ _ rfl _ _ (fun w hSw => hSw.1) Tryd.underlying27 rfl hinf) (by assumption) ?_
        simp only [List.getElem_toArray, List.getElem_cons_zero, Act.put, List.setIfInBounds_toArray, List.set_cons_zero, List.set_cons_succ]
        refine wpAnyH_take (i := 1) (v := .int .i64 0) rfl (by kernel_rfl) (by kernel_rfl) (by kernel_rfl) (fun _ _ _ h => h) (Or.inl ⟨by rfl, fun w hSw => by obtain ⟨hS0, hS1, hS2, hS3⟩ := hSw; go_simp⟩) (by assumption) ?_
        simp only [List.getElem_toArray, List.getElem_cons_succ, List.getElem_cons_zero, Act.put, List.setIfInBounds_toArray, List.set_cons_zero, List.set_cons_succ]
        refine wpAnyH_take (i := 2) (v := .bool true) rfl (by kernel_rfl) (by kernel_rfl) (by kernel_rfl) (fun _ _ _ h => h) (Or.inl ⟨by rfl, fun w hSw => by obtain ⟨hS0, hS1, hS2, hS3⟩ := hSw; go_simp⟩) (by assumption) ?_
        simp only [List.getElem_toArray, List.getElem_cons_succ, List.getElem_cons_zero, Act.put, List.setIfInBounds_toArray, List.set_cons_zero, List.set_cons_succ]
        refine wpAnyH_take (i := 3) (v := .bool true) rfl (by kernel_rfl) (by kernel_rfl) (by kernel_rfl) (fun _ _ _ h => h) (Or.inl ⟨by rfl, fun w hSw => by obtain ⟨hS0, hS1, hS2, hS3⟩ := hSw; go_simp⟩) (by assumption) ?_
        simp only [List.getElem_toArray, List.getElem_cons_succ, List.getElem_cons_zero, Act.put, List.setIfInBounds_toArray, List.set_cons_zero, List.set_cons_succ]
        refine wpAnyH_take (i := 4) (v := .pointer (some ⟨g6, 0, none⟩)) rfl (by kernel_rfl) (by kernel_rfl) (by kernel_rfl) (fun _ _ _ h => h) (Or.inl ⟨by rfl, fun w hSw => by obtain ⟨hS0, hS1, hS2, hS3⟩ := hSw; go_simp⟩) (by assumption) ?_
        simp only [List.getElem_toArray, List.getElem_cons_succ, List.getElem_cons_zero, Act.put, List.setIfInBounds_toArray, List.set_cons_zero, List.set_cons_succ]
        refine wpAnyH_take (i := 5) (v := .int .i64 x0) rfl (by kernel_rfl) (by kernel_rfl) (by kernel_rfl) (fun _ _ _ h => h) (Or.inl ⟨by rfl, fun w hSw => by obtain ⟨hS0, hS1, hS2, hS3⟩ := hSw; go_simp⟩) (by assumption) ?_
        simp only [List.getElem_toArray, List.getElem_cons_succ, List.getElem_cons_zero, Act.put, List.setIfInBounds_toArray, List.set_cons_zero, List.set_cons_succ]
        refine wpAnyH_take (i := 6) (v := .pointer (some ⟨w.heap.size, 0, none⟩)) rfl (by kernel_rfl) (by kernel_rfl) (by kernel_rfl) (fun _ _ _ h => h) (Or.inl ⟨by rfl, fun w hSw => by obtain ⟨hS0, hS1, hS2, hS3⟩ := hSw; go_simp⟩) (by assumption) ?_
        simp only [List.getElem_toArray, List.getElem_cons_succ, List.getElem_cons_zero, Act.put, List.setIfInBounds_toArray, List.set_cons_zero, List.set_cons_succ]
        refine wpAnyH_take (i := 7) (v := .int .i64 (N : Int)) rfl (by kernel_rfl) (by kernel_rfl) (by kernel_rfl) (fun _ _ _ h => h) (Or.inl ⟨by rfl, fun w hSw => by obtain ⟨hS0, hS1, hS2, hS3⟩ := hSw; go_simp⟩) (by assumption) ?_
        simp only [List.getElem_toArray, List.getElem_cons_succ, List.getElem_cons_zero, Act.put, List.setIfInBounds_toArray, List.set_cons_zero, List.set_cons_succ]
        refine wpAnyH_take (i := 8) (v := .bool true) rfl (by kernel_rfl) (by kernel_rfl) (by kernel_rfl) (fun _ _ _ h => h) (Or.inl ⟨by rfl, fun w hSw => by obtain ⟨hS0, hS1, hS2, hS3⟩ := hSw; go_simp⟩) (by assumption) ?_
        simp only [List.getElem_toArray, List.getElem_cons_succ, List.getElem_cons_zero, Act.put, List.setIfInBounds_toArray, List.set_cons_zero, List.set_cons_succ]
        refine wpAnyH_take (i := 9) (v := .bool true) rfl (by kernel_rfl) (by kernel_rfl) (by kernel_rfl) (fun _ _ _ h => h) (Or.inl ⟨by rfl, fun w hSw => by obtain ⟨hS0, hS1, hS2, hS3⟩ := hSw; go_simp⟩) (by assumption) ?_
        simp only [List.getElem_toArray, List.getElem_cons_succ, List.getElem_cons_zero, Act.put, List.setIfInBounds_toArray, List.set_cons_zero, List.set_cons_succ]
        refine wpAnyH_take (i := 10) (v := .bool true) rfl (by kernel_rfl) (by kernel_rfl) (by kernel_rfl) (fun _ _ _ h => h) (Or.inl ⟨by rfl, fun w hSw => by obtain ⟨hS0, hS1, hS2, hS3⟩ := hSw; go_simp⟩) (by assumption) ?_
        simp only [List.getElem_toArray, List.getElem_cons_succ, List.getElem_cons_zero, Act.put, List.setIfInBounds_toArray, List.set_cons_zero, List.set_cons_succ]
        refine wpAnyH_take (i := 11) (v := .pointer (some ⟨g6, 2, none⟩)) rfl (by kernel_rfl) (by kernel_rfl) (by kernel_rfl) (fun _ _ _ h => h) (Or.inl ⟨by rfl, fun w hSw => by obtain ⟨hS0, hS1, hS2, hS3⟩ := hSw; go_simp⟩) (by assumption) ?_
        simp only [List.getElem_toArray, List.getElem_cons_succ, List.getElem_cons_zero, Act.put, List.setIfInBounds_toArray, List.set_cons_zero, List.set_cons_succ]
        refine wpAnyH_take (i := 12) (v := .int .i64 xt) rfl (by kernel_rfl) (by kernel_rfl) (by kernel_rfl) (fun _ _ _ h => h) (Or.inl ⟨by rfl, fun w hSw => by obtain ⟨hS0, hS1, hS2, hS3⟩ := hSw; go_simp⟩) (by assumption) ?_
        simp only [List.getElem_toArray, List.getElem_cons_succ, List.getElem_cons_zero, Act.put, List.setIfInBounds_toArray, List.set_cons_zero, List.set_cons_succ]
        refine wpAnyH_take (i := 13) (v := .int .i64 y) rfl (by kernel_rfl) (by kernel_rfl) (by kernel_rfl) (fun _ _ _ h => h) (Or.inl ⟨by rfl, fun w hSw => by obtain ⟨hS0, hS1, hS2, hS3⟩ := hSw; go_simp⟩) (by assumption) ?_
        simp only [List.getElem_toArray, List.getElem_cons_succ, List.getElem_cons_zero, Act.put, List.setIfInBounds_toArray, List.set_cons_zero, List.set_cons_succ]
        refine wpAnyH_take (i := 14) (v := .int .i64 (i : Int)) rfl (by kernel_rfl) (by kernel_rfl) (by kernel_rfl) (fun _ _ _ h => h) (Or.inl ⟨by rfl, fun w hSw => by obtain ⟨hS0, hS1, hS2, hS3⟩ := hSw; go_simp⟩) (by assumption) ?_
        simp only [List.getElem_toArray, List.getElem_cons_succ, List.getElem_cons_zero, Act.put, List.setIfInBounds_toArray, List.set_cons_zero, List.set_cons_succ]
        refine wpAnyH_take (i := 15) (v := .bool true) rfl (by kernel_rfl) (by kernel_rfl) (by kernel_rfl) (fun _ _ _ h => h) (Or.inl ⟨by rfl, fun w hSw => by obtain ⟨hS0, hS1, hS2, hS3⟩ := hSw; go_simp⟩) (by assumption) ?_
        simp only [List.getElem_toArray, List.getElem_cons_succ, List.getElem_cons_zero, Act.put, List.setIfInBounds_toArray, List.set_cons_zero, List.set_cons_succ]
        refine wpAnyH_take (i := 16) (v := .bool true) rfl (by kernel_rfl) (by kernel_rfl) (by kernel_rfl) (fun _ _ _ h => h) (Or.inl ⟨by rfl, fun w hSw => by obtain ⟨hS0, hS1, hS2, hS3⟩ := hSw; go_simp⟩) (by assumption) ?_
        simp only [List.getElem_toArray, List.getElem_cons_succ, List.getElem_cons_zero, Act.put, List.setIfInBounds_toArray, List.set_cons_zero, List.set_cons_succ]
        refine wpAnyH_ready (rs := [17]) (by kernel_rfl) (by simp) (AllReadyH.cons rfl (fun K hK => ?_) AllReadyH.nil)
        refine step_storeJ (by rfl) (.tmp 4) (.tmp 15) 27 rfl rfl rfl HA45.out.drew hinf hlen hon ?_
        intro w9 hA9 hg9
        obtain ⟨f1, f2, f3⟩ := unhide HFIN w9 hg9
        have HF3 := hide f3
        refine hK.out _ _ (unhide HS0 _ f1 f2) (fun hJ9 => ?_)
        clear hK K
        simp only [List.getElem_toArray, List.getElem_cons_succ, List.getElem_cons_zero, Act.put]
        clear f1 f2 f3
        refine wpAnyH_take (i := 18) (v := .bool true) rfl (by kernel_rfl) (by kernel_rfl) (by kernel_rfl) (fun _ _ _ h => h) (Or.inl ⟨by rfl, fun w hSw => by obtain ⟨hS0, hS1, hS2, hS3⟩ := hSw; go_simp⟩) (by assumption) ?_
        simp only [List.getElem_toArray, List.getElem_cons_succ, List.getElem_cons_zero, Act.put, List.setIfInBounds_toArray, List.set_cons_zero, List.set_cons_succ]
        refine wpAnyH_done (by kernel_rfl) ?_ _
        go_wp2
        have hA9' : Arr w9 g4 27 cs1 := hA9
        refine bodyPost_ret (results_rowJ2 rfl rfl rfl hA9' Tryd.underlying27 rfl hinf) rfl ?_
        rw [HR.out, HCS1.out]
        exact ⟨rfl, HF3.out⟩
      · have hty : (y == (i : Int)) = false := by simpa using h2
        have HR := hide (unhide HSN (fun hc => h2 hc.2))
        clear h1 h2 HSN HSY
        have hmt2 : xt % 2 = y := hy.symm
        clear hy
        go_wp2_with fail
        refine wp_region_held_drew (S := fun W => W.rangeAt g6 0 cs1 ∧ W.cell? ⟨g6, 0, none⟩ = some (.int .i64 x0) ∧ W.cell? ⟨g6, 2, none⟩ = some (.int .i64 xt) ∧ W.cell? ⟨w.heap.size, 0, none⟩ = some (.int .i64 (N : Int))) (by kernel_rfl) (HSD.out) (fun hHeld => ?_)
        refine wpAnyH_take (i := 0) (v := .agg (cs1).toArray) rfl (by kernel_rfl) (by kernel_rfl) (by kernel_rfl) (fun _ _ _ h => h) (yieldsIf_load_mid (by rfl) _ _ rfl _ _ rfl _ _ (fun w hSw => hSw.1) Tryd.underlying27 rfl hinf) (by assumption) ?_
        simp only [List.getElem_toArray, List.getElem_cons_zero, Act.put, List.setIfInBounds_toArray, List.set_cons_zero, List.set_cons_succ]
        refine wpAnyH_take (i := 1) (v := .int .i64 0) rfl (by kernel_rfl) (by kernel_rfl) (by kernel_rfl) (fun _ _ _ h => h) (Or.inl ⟨by rfl, fun w hSw => by obtain ⟨hS0, hS1, hS2, hS3⟩ := hSw; go_simp⟩) (by assumption) ?_
        simp only [List.getElem_toArray, List.getElem_cons_succ, List.getElem_cons_zero, Act.put, List.setIfInBounds_toArray, List.set_cons_zero, List.set_cons_succ]
        refine wpAnyH_take (i := 2) (v := .bool true) rfl (by kernel_rfl) (by kernel_rfl) (by kernel_rfl) (fun _ _ _ h => h) (Or.inl ⟨by rfl, fun w hSw => by obtain ⟨hS0, hS1, hS2, hS3⟩ := hSw; go_simp⟩) (by assumption) ?_
        simp only [List.getElem_toArray, List.getElem_cons_succ, List.getElem_cons_zero, Act.put, List.setIfInBounds_toArray, List.set_cons_zero, List.set_cons_succ]
        refine wpAnyH_take (i := 3) (v := .bool true) rfl (by kernel_rfl) (by kernel_rfl) (by kernel_rfl) (fun _ _ _ h => h) (Or.inl ⟨by rfl, fun w hSw => by obtain ⟨hS0, hS1, hS2, hS3⟩ := hSw; go_simp⟩) (by assumption) ?_
        simp only [List.getElem_toArray, List.getElem_cons_succ, List.getElem_cons_zero, Act.put, List.setIfInBounds_toArray, List.set_cons_zero, List.set_cons_succ]
        refine wpAnyH_take (i := 4) (v := .pointer (some ⟨g6, 0, none⟩)) rfl (by kernel_rfl) (by kernel_rfl) (by kernel_rfl) (fun _ _ _ h => h) (Or.inl ⟨by rfl, fun w hSw => by obtain ⟨hS0, hS1, hS2, hS3⟩ := hSw; go_simp⟩) (by assumption) ?_
        simp only [List.getElem_toArray, List.getElem_cons_succ, List.getElem_cons_zero, Act.put, List.setIfInBounds_toArray, List.set_cons_zero, List.set_cons_succ]
        refine wpAnyH_take (i := 5) (v := .int .i64 x0) rfl (by kernel_rfl) (by kernel_rfl) (by kernel_rfl) (fun _ _ _ h => h) (Or.inl ⟨by rfl, fun w hSw => by obtain ⟨hS0, hS1, hS2, hS3⟩ := hSw; go_simp⟩) (by assumption) ?_
        simp only [List.getElem_toArray, List.getElem_cons_succ, List.getElem_cons_zero, Act.put, List.setIfInBounds_toArray, List.set_cons_zero, List.set_cons_succ]
        refine wpAnyH_take (i := 6) (v := .pointer (some ⟨w.heap.size, 0, none⟩)) rfl (by kernel_rfl) (by kernel_rfl) (by kernel_rfl) (fun _ _ _ h => h) (Or.inl ⟨by rfl, fun w hSw => by obtain ⟨hS0, hS1, hS2, hS3⟩ := hSw; go_simp⟩) (by assumption) ?_
        simp only [List.getElem_toArray, List.getElem_cons_succ, List.getElem_cons_zero, Act.put, List.setIfInBounds_toArray, List.set_cons_zero, List.set_cons_succ]
        refine wpAnyH_take (i := 7) (v := .int .i64 (N : Int)) rfl (by kernel_rfl) (by kernel_rfl) (by kernel_rfl) (fun _ _ _ h => h) (Or.inl ⟨by rfl, fun w hSw => by obtain ⟨hS0, hS1, hS2, hS3⟩ := hSw; go_simp⟩) (by assumption) ?_
        simp only [List.getElem_toArray, List.getElem_cons_succ, List.getElem_cons_zero, Act.put, List.setIfInBounds_toArray, List.set_cons_zero, List.set_cons_succ]
        refine wpAnyH_take (i := 8) (v := .bool true) rfl (by kernel_rfl) (by kernel_rfl) (by kernel_rfl) (fun _ _ _ h => h) (Or.inl ⟨by rfl, fun w hSw => by obtain ⟨hS0, hS1, hS2, hS3⟩ := hSw; go_simp⟩) (by assumption) ?_
        simp only [List.getElem_toArray, List.getElem_cons_succ, List.getElem_cons_zero, Act.put, List.setIfInBounds_toArray, List.set_cons_zero, List.set_cons_succ]
        refine wpAnyH_take (i := 9) (v := .bool true) rfl (by kernel_rfl) (by kernel_rfl) (by kernel_rfl) (fun _ _ _ h => h) (Or.inl ⟨by rfl, fun w hSw => by obtain ⟨hS0, hS1, hS2, hS3⟩ := hSw; go_simp⟩) (by assumption) ?_
        simp only [List.getElem_toArray, List.getElem_cons_succ, List.getElem_cons_zero, Act.put, List.setIfInBounds_toArray, List.set_cons_zero, List.set_cons_succ]
        refine wpAnyH_take (i := 10) (v := .bool true) rfl (by kernel_rfl) (by kernel_rfl) (by kernel_rfl) (fun _ _ _ h => h) (Or.inl ⟨by rfl, fun w hSw => by obtain ⟨hS0, hS1, hS2, hS3⟩ := hSw; go_simp⟩) (by assumption) ?_
        simp only [List.getElem_toArray, List.getElem_cons_succ, List.getElem_cons_zero, Act.put, List.setIfInBounds_toArray, List.set_cons_zero, List.set_cons_succ]
        refine wpAnyH_take (i := 11) (v := .pointer (some ⟨g6, 2, none⟩)) rfl (by kernel_rfl) (by kernel_rfl) (by kernel_rfl) (fun _ _ _ h => h) (Or.inl ⟨by rfl, fun w hSw => by obtain ⟨hS0, hS1, hS2, hS3⟩ := hSw; go_simp⟩) (by assumption) ?_
        simp only [List.getElem_toArray, List.getElem_cons_succ, List.getElem_cons_zero, Act.put, List.setIfInBounds_toArray, List.set_cons_zero, List.set_cons_succ]
        refine wpAnyH_take (i := 12) (v := .int .i64 xt) rfl (by kernel_rfl) (by kernel_rfl) (by kernel_rfl) (fun _ _ _ h => h) (Or.inl ⟨by rfl, fun w hSw => by obtain ⟨hS0, hS1, hS2, hS3⟩ := hSw; go_simp⟩) (by assumption) ?_
        simp only [List.getElem_toArray, List.getElem_cons_succ, List.getElem_cons_zero, Act.put, List.setIfInBounds_toArray, List.set_cons_zero, List.set_cons_succ]
        refine wpAnyH_take (i := 13) (v := .int .i64 y) rfl (by kernel_rfl) (by kernel_rfl) (by kernel_rfl) (fun _ _ _ h => h) (Or.inl ⟨by rfl, fun w hSw => by obtain ⟨hS0, hS1, hS2, hS3⟩ := hSw; go_simp⟩) (by assumption) ?_
        simp only [List.getElem_toArray, List.getElem_cons_succ, List.getElem_cons_zero, Act.put, List.setIfInBounds_toArray, List.set_cons_zero, List.set_cons_succ]
        refine wpAnyH_take (i := 14) (v := .int .i64 (i : Int)) rfl (by kernel_rfl) (by kernel_rfl) (by kernel_rfl) (fun _ _ _ h => h) (Or.inl ⟨by rfl, fun w hSw => by obtain ⟨hS0, hS1, hS2, hS3⟩ := hSw; go_simp⟩) (by assumption) ?_
        simp only [List.getElem_toArray, List.getElem_cons_succ, List.getElem_cons_zero, Act.put, List.setIfInBounds_toArray, List.set_cons_zero, List.set_cons_succ]
        refine wpAnyH_take (i := 15) (v := .bool false) rfl (by kernel_rfl) (by kernel_rfl) (by kernel_rfl) (fun _ _ _ h => h) (Or.inl ⟨by rfl, fun w hSw => by obtain ⟨hS0, hS1, hS2, hS3⟩ := hSw; go_simp⟩) (by assumption) ?_
        simp only [List.getElem_toArray, List.getElem_cons_succ, List.getElem_cons_zero, Act.put, List.setIfInBounds_toArray, List.set_cons_zero, List.set_cons_succ]
        refine wpAnyH_take (i := 16) (v := .bool false) rfl (by kernel_rfl) (by kernel_rfl) (by kernel_rfl) (fun _ _ _ h => h) (Or.inl ⟨by rfl, fun w hSw => by obtain ⟨hS0, hS1, hS2, hS3⟩ := hSw; go_simp⟩) (by assumption) ?_
        simp only [List.getElem_toArray, List.getElem_cons_succ, List.getElem_cons_zero, Act.put, List.setIfInBounds_toArray, List.set_cons_zero, List.set_cons_succ]
        refine wpAnyH_ready (rs := [17]) (by kernel_rfl) (by simp) (AllReadyH.cons rfl (fun K hK => ?_) AllReadyH.nil)
        refine step_storeJ (by rfl) (.tmp 4) (.tmp 15) 27 rfl rfl rfl HA45.out.drew hinf hlen hon ?_
        intro w9 hA9 hg9
        obtain ⟨f1, f2, f3⟩ := unhide HFIN w9 hg9
        have HF3 := hide f3
        refine hK.out _ _ (unhide HS0 _ f1 f2) (fun hJ9 => ?_)
        clear hK K
        simp only [List.getElem_toArray, List.getElem_cons_succ, List.getElem_cons_zero, Act.put]
        clear f1 f2 f3
        refine wpAnyH_take (i := 18) (v := .bool false) rfl (by kernel_rfl) (by kernel_rfl) (by kernel_rfl) (fun _ _ _ h => h) (Or.inl ⟨by rfl, fun w hSw => by obtain ⟨hS0, hS1, hS2, hS3⟩ := hSw; go_simp⟩) (by assumption) ?_
        simp only [List.getElem_toArray, List.getElem_cons_succ, List.getElem_cons_zero, Act.put, List.setIfInBounds_toArray, List.set_cons_zero, List.set_cons_succ]
        refine wpAnyH_done (by kernel_rfl) ?_ _
        go_wp2
        have hA9' : Arr w9 g4 27 cs1 := hA9
        refine bodyPost_ret (results_rowJ2 rfl rfl rfl hA9' Tryd.underlying27 rfl hinf) rfl ?_
        rw [HR.out, HCS1.out]
        exact ⟨rfl, HF3.out⟩
    · have hsc : (x0 == (N : Int)) = false := by simpa using h1
      have HR := hide (unhide HSN (fun hc => h1 hc.1))
      clear h1 HSN HSY hy
      go_wp2_with fail
      refine wp_region_held_drew (S := fun W => W.rangeAt g6 0 cs1 ∧ W.cell? ⟨g6, 0, none⟩ = some (.int .i64 x0) ∧ W.cell? ⟨g6, 2, none⟩ = some (.int .i64 xt) ∧ W.cell? ⟨w.heap.size, 0, none⟩ = some (.int .i64 (N : Int))) (by kernel_rfl) (HSD.out) (fun hHeld => ?_)
      refine wpAnyH_take (i := 0) (v := .agg (cs1).toArray) rfl (by kernel_rfl) (by kernel_rfl) (by kernel_rfl) (fun _ _ _ h => h) (yieldsIf_load_mid (by rfl) _ _ rfl _ _ rfl _ _ (fun w hSw => hSw.1) Tryd.underlying27 rfl hinf) (by assumption) ?_
      simp only [List.getElem_toArray, List.getElem_cons_zero, Act.put, List.setIfInBounds_toArray, List.set_cons_zero, List.set_cons_succ]
      refine wpAnyH_take (i := 1) (v := .int .i64 0) rfl (by kernel_rfl) (by kernel_rfl) (by kernel_rfl) (fun _ _ _ h => h) (Or.inl ⟨by rfl, fun w hSw => by obtain ⟨hS0, hS1, hS2, hS3⟩ := hSw; go_simp⟩) (by assumption) ?_
      simp only [List.getElem_toArray, List.getElem_cons_succ, List.getElem_cons_zero, Act.put, List.setIfInBounds_toArray, List.set_cons_zero, List.set_cons_succ]
      refine wpAnyH_take (i := 2) (v := .bool true) rfl (by kernel_rfl) (by kernel_rfl) (by kernel_rfl) (fun _ _ _ h => h) (Or.inl ⟨by rfl, fun w hSw => by obtain ⟨hS0, hS1, hS2, hS3⟩ := hSw; go_simp⟩) (by assumption) ?_
      simp only [List.getElem_toArray, List.getElem_cons_succ, List.getElem_cons_zero, Act.put, List.setIfInBounds_toArray, List.set_cons_zero, List.set_cons_succ]
      refine wpAnyH_take (i := 3) (v := .bool true) rfl (by kernel_rfl) (by kernel_rfl) (by kernel_rfl) (fun _ _ _ h => h) (Or.inl ⟨by rfl, fun w hSw => by obtain ⟨hS0, hS1, hS2, hS3⟩ := hSw; go_simp⟩) (by assumption) ?_
      simp only [List.getElem_toArray, List.getElem_cons_succ, List.getElem_cons_zero, Act.put, List.setIfInBounds_toArray, List.set_cons_zero, List.set_cons_succ]
      refine wpAnyH_take (i := 4) (v := .pointer (some ⟨g6, 0, none⟩)) rfl (by kernel_rfl) (by kernel_rfl) (by kernel_rfl) (fun _ _ _ h => h) (Or.inl ⟨by rfl, fun w hSw => by obtain ⟨hS0, hS1, hS2, hS3⟩ := hSw; go_simp⟩) (by assumption) ?_
      simp only [List.getElem_toArray, List.getElem_cons_succ, List.getElem_cons_zero, Act.put, List.setIfInBounds_toArray, List.set_cons_zero, List.set_cons_succ]
      refine wpAnyH_take (i := 5) (v := .int .i64 x0) rfl (by kernel_rfl) (by kernel_rfl) (by kernel_rfl) (fun _ _ _ h => h) (Or.inl ⟨by rfl, fun w hSw => by obtain ⟨hS0, hS1, hS2, hS3⟩ := hSw; go_simp⟩) (by assumption) ?_
      simp only [List.getElem_toArray, List.getElem_cons_succ, List.getElem_cons_zero, Act.put, List.setIfInBounds_toArray, List.set_cons_zero, List.set_cons_succ]
      refine wpAnyH_take (i := 6) (v := .pointer (some ⟨w.heap.size, 0, none⟩)) rfl (by kernel_rfl) (by kernel_rfl) (by kernel_rfl) (fun _ _ _ h => h) (Or.inl ⟨by rfl, fun w hSw => by obtain ⟨hS0, hS1, hS2, hS3⟩ := hSw; go_simp⟩) (by assumption) ?_
      simp only [List.getElem_toArray, List.getElem_cons_succ, List.getElem_cons_zero, Act.put, List.setIfInBounds_toArray, List.set_cons_zero, List.set_cons_succ]
      refine wpAnyH_take (i := 7) (v := .int .i64 (N : Int)) rfl (by kernel_rfl) (by kernel_rfl) (by kernel_rfl) (fun _ _ _ h => h) (Or.inl ⟨by rfl, fun w hSw => by obtain ⟨hS0, hS1, hS2, hS3⟩ := hSw; go_simp⟩) (by assumption) ?_
      simp only [List.getElem_toArray, List.getElem_cons_succ, List.getElem_cons_zero, Act.put, List.setIfInBounds_toArray, List.set_cons_zero, List.set_cons_succ]
      refine wpAnyH_take (i := 8) (v := .bool false) rfl (by kernel_rfl) (by kernel_rfl) (by kernel_rfl) (fun _ _ _ h => h) (Or.inl ⟨by rfl, fun w hSw => by obtain ⟨hS0, hS1, hS2, hS3⟩ := hSw; go_simp⟩) (by assumption) ?_
      simp only [List.getElem_toArray, List.getElem_cons_succ, List.getElem_cons_zero, Act.put, List.setIfInBounds_toArray, List.set_cons_zero, List.set_cons_succ]
      refine wpAnyH_take (i := 9) (v := .bool false) rfl (by kernel_rfl) (by kernel_rfl) (by kernel_rfl) (fun _ _ _ h => h) (Or.inl ⟨by rfl, fun w hSw => by obtain ⟨hS0, hS1, hS2, hS3⟩ := hSw; go_simp⟩) (by assumption) ?_
      simp only [List.getElem_toArray, List.getElem_cons_succ, List.getElem_cons_zero, Act.put, List.setIfInBounds_toArray, List.set_cons_zero, List.set_cons_succ]
      refine wpAnyH_take (i := 10) (v := .bool false) rfl (by kernel_rfl) (by kernel_rfl) (by kernel_rfl) (fun _ _ _ h => h) (Or.inl ⟨by rfl, fun w hSw => by obtain ⟨hS0, hS1, hS2, hS3⟩ := hSw; go_simp⟩) (by assumption) ?_
      simp only [List.getElem_toArray, List.getElem_cons_succ, List.getElem_cons_zero, Act.put, List.setIfInBounds_toArray, List.set_cons_zero, List.set_cons_succ]
      refine wpAnyH_take (i := 11) (v := undef) rfl (by kernel_rfl) (by kernel_rfl) (by kernel_rfl) (fun _ _ _ h => h) (Or.inr ⟨by rfl, rfl⟩) (by assumption) ?_
      simp only [List.getElem_toArray, List.getElem_cons_succ, List.getElem_cons_zero, Act.put, List.setIfInBounds_toArray, List.set_cons_zero, List.set_cons_succ]
      refine wpAnyH_take (i := 12) (v := undef) rfl (by kernel_rfl) (by kernel_rfl) (by kernel_rfl) (fun _ _ _ h => h) (Or.inr ⟨by rfl, rfl⟩) (by assumption) ?_
      simp only [List.getElem_toArray, List.getElem_cons_succ, List.getElem_cons_zero, Act.put, List.setIfInBounds_toArray, List.set_cons_zero, List.set_cons_succ]
      refine wpAnyH_take (i := 13) (v := undef) rfl (by kernel_rfl) (by kernel_rfl) (by kernel_rfl) (fun _ _ _ h => h) (Or.inr ⟨by rfl, rfl⟩) (by assumption) ?_
      simp only [List.getElem_toArray, List.getElem_cons_succ, List.getElem_cons_zero, Act.put, List.setIfInBounds_toArray, List.set_cons_zero, List.set_cons_succ]
      refine wpAnyH_take (i := 14) (v := undef) rfl (by kernel_rfl) (by kernel_rfl) (by kernel_rfl) (fun _ _ _ h => h) (Or.inr ⟨by rfl, rfl⟩) (by assumption) ?_
      simp only [List.getElem_toArray, List.getElem_cons_succ, List.getElem_cons_zero, Act.put, List.setIfInBounds_toArray, List.set_cons_zero, List.set_cons_succ]
      refine wpAnyH_take (i := 15) (v := undef) rfl (by kernel_rfl) (by kernel_rfl) (by kernel_rfl) (fun _ _ _ h => h) (Or.inr ⟨by rfl, rfl⟩) (by assumption) ?_
      simp only [List.getElem_toArray, List.getElem_cons_succ, List.getElem_cons_zero, Act.put, List.setIfInBounds_toArray, List.set_cons_zero, List.set_cons_succ]
      refine wpAnyH_take (i := 16) (v := .bool false) rfl (by kernel_rfl) (by kernel_rfl) (by kernel_rfl) (fun _ _ _ h => h) (Or.inl ⟨by rfl, fun w hSw => by obtain ⟨hS0, hS1, hS2, hS3⟩ := hSw; go_simp⟩) (by assumption) ?_
      simp only [List.getElem_toArray, List.getElem_cons_succ, List.getElem_cons_zero, Act.put, List.setIfInBounds_toArray, List.set_cons_zero, List.set_cons_succ]
      refine wpAnyH_ready (rs := [17]) (by kernel_rfl) (by simp) (AllReadyH.cons rfl (fun K hK => ?_) AllReadyH.nil)
      refine step_storeJ (by rfl) (.tmp 4) (.tmp 15) 27 rfl rfl rfl HA45.out.drew hinf hlen hon ?_
      intro w9 hA9 hg9
      obtain ⟨f1, f2, f3⟩ := unhide HFIN w9 hg9
      have HF3 := hide f3
      refine hK.out _ _ (unhide HS0 _ f1 f2) (fun hJ9 => ?_)
      clear hK K
      simp only [List.getElem_toArray, List.getElem_cons_succ, List.getElem_cons_zero, Act.put]
      clear f1 f2 f3
      refine wpAnyH_take (i := 18) (v := .bool false) rfl (by kernel_rfl) (by kernel_rfl) (by kernel_rfl) (fun _ _ _ h => h) (Or.inl ⟨by rfl, fun w hSw => by obtain ⟨hS0, hS1, hS2, hS3⟩ := hSw; go_simp⟩) (by assumption) ?_
      simp only [List.getElem_toArray, List.getElem_cons_succ, List.getElem_cons_zero, Act.put, List.setIfInBounds_toArray, List.set_cons_zero, List.set_cons_succ]
      refine wpAnyH_done (by kernel_rfl) ?_ _
      go_wp2
      have hA9' : Arr w9 g4 27 cs1 := hA9
      refine bodyPost_ret (results_rowJ2 rfl rfl rfl hA9' Tryd.underlying27 rfl hinf) rfl ?_
      rw [HR.out, HCS1.out]
      exact ⟨rfl, HF3.out⟩
end Go.Proofs.YtbgknbjpbobebaaDoor
