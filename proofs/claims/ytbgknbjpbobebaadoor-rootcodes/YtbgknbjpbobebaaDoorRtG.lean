/- What Decode answers. -/
import Derived.Test.YtbgknbjpbobebaaDoorRtF
namespace Go.Proofs.YtbgknbjpbobebaaDoor
open Go.RowKit Go.Maps

set_option maxRecDepth 100000 in
set_option maxHeartbeats 2000000 in
theorem sdec_short {w : World} {v : Value} {b : List Int} (h : IsB w v b) (hl : b.length ≠ 512) :
    Calls Tryd.prog 29 #[v] w fun e w' => e = .returned (.tuple #[.agg (slV .nul).toArray, .int .i64 180]) ∧ Below w.heap.size w w' := by
  obtain ⟨_, va, vc, rfl, hlc, hvm, _, _⟩ := id h
  have hne : ((b.length : Int) != 512) = true := by simpa using (by omega : ¬ (b.length : Int) = 512)
  generalize b.length = n at *
  have hlen : z105.length = (slV .nul).length := by rw [slV_len SL.nul_ok]; rfl
  have hinf := infoSof SL.nul_ok
  have hone := slV_one SL.nul
  have HB1 := hide (jalloc_below w (.cells z105.toArray 27))
  clear h hl
  go_enter Tryd.func29, Tryd.ntmps29
  go_wp2_with (first
    | (refine wpList_allocJ rfl 27 rfl infoSlo ?_)
    | (refine wpList_bldJ rfl 27 rfl bldS0 ?_)
    | (refine wpList_storeJ rfl (.tmp 2) (.tmp 10) 27 rfl rfl rfl (Arr.new w z105 27) hinf hlen hone ?_; intro w2 hA2 hg2))
  have HB2 := hide (jbelow_grown HB1.out hg2 HB1.out.size (Nat.le_refl _))
  have hA3 : Arr w2 w.heap.size 27 (slV .nul) := hA2
  refine bodyPost_ret (results_rowJ2 rfl rfl rfl hA3 Tryd.underlying27 rfl hinf) rfl ?_
  exact ⟨rfl, HB2.out⟩
set_option maxRecDepth 100000 in
set_option maxHeartbeats 4000000 in
theorem sdec_long {w : World} {v : Value} {b : List Int} (h : IsB w v b) (hl : b.length = 512) (ht : Tab w) :
    Calls Tryd.prog 29 #[v] w fun e w' => e = .returned (.tuple #[.agg (slV (decSR b)).toArray, .int .i64 (decSE b)]) ∧ Below w.heap.size w w' := by
  have hby : By8 b := h.mem
  have hok := nmS_ok hby hl
  have hb1 := jalloc_below w (.cells z105.toArray 27)
  have hA1 := Arr.new w z105 27
  obtain ⟨w1, hw1⟩ : ∃ w1, w1 = w.alloc (.cells z105.toArray 27) := ⟨_, rfl⟩
  rw [← hw1] at hb1 hA1
  have HNM := hide (snamed_calls (h.below hb1) hl)
  have HIS : Hid (∀ W, Below w.heap.size w W → IsB W v b ∧ Tab W) := hide (fun W hW => ⟨h.below hW, ht.below hW⟩)
  obtain ⟨_, va, vc, rfl, hlc, hvm, _, _⟩ := id h
  have HDY : Hid ((nmS b).May → slL (nmS b) = b → decSR b = nmS b ∧ decSE b = 0) := hide (fun h1 h2 => decSR_some (decS_yes hl h1 h2))
  have HDN : Hid (¬ ((nmS b).May ∧ slL (nmS b) = b) → decSR b = .nul ∧ decSE b = 180) := hide (fun h1 => decSR_none (decS_no fun hc => h1 hc.2))
  rw [hl] at *
  have hlen0 : z105.length = (slV .nul).length := by rw [slV_len SL.nul_ok]; rfl
  have hinf0 := infoSof SL.nul_ok
  have hone0 := slV_one SL.nul
  have hinf := infoSof hok
  have hlen : z105.length = (slV (nmS b)).length := by rw [slV_len hok]; rfl
  have hon := slV_one (nmS b)
  have HOK := hide hok
  have HB1 := hide hb1
  have HA1 := hide hA1
  have HW1 := hide hw1
  obtain ⟨g2, hg2⟩ : ∃ g2, g2 = w.heap.size := ⟨_, rfl⟩
  have HG2 := hide hg2
  rw [← hg2] at HA1
  clear h hby hok hb1 hA1 hw1 hg2
  go_enter Tryd.func29, Tryd.ntmps29
  go_wp2_with (first
    | (refine wpList_allocJ rfl 27 rfl infoSlo ?_; rw [← HW1.out, ← HG2.out])
    | fail)
  refine (unhide HNM).mono ?_
  rintro e w2 ⟨rfl, hb2⟩
  have hA2 := HA1.out.below hb2
  have hbw2 := below_then HB1.out hb2
  have hba := jalloc_below w2 (.cells z105.toArray 27)
  have HX : Hid (∀ w3, (w2.alloc (.cells z105.toArray 27)).grownBy w3 (some w2.heap.size) → Arr w3 g2 27 z105 ∧ Below w.heap.size w w3) := hide (fun w3 hg3 => by
    have hlt := hA2.lt
    exact ⟨arr_grown (hA2.below hba) hg3 (by simp; omega), jbelow_grown (below_then hbw2 hba) hg3 (Nat.le_trans hbw2.size hba.size) hbw2.size⟩)
  clear HNM hb2 hA2 hba hbw2 HA1
  go_wp2_with (first
    | (refine wpList_allocJ rfl 27 rfl infoSlo ?_)
    | (refine wpList_storeJ rfl (.tmp 4) (.tmp 12) 27 rfl rfl rfl (Arr.new w2 z105 27) hinf hlen hon ?_; intro w3 hA3 hg3
       obtain ⟨hA23, hb3⟩ := unhide HX w3 hg3
       have hrng := hA3.rangeJ
       obtain ⟨hi3, ht3⟩ := unhide HIS w3 hb3
       have HEN := hide (senc_calls HOK.out ht3)
       have HA3 := hide hA3
       have HA23 := hide hA23
       have HB3 := hide hb3
       clear hA3 hg3 hA23 hb3 hi3 ht3)
    | (refine wpList_loadJ rfl 27 (.tmp 4) rfl _ 0 rfl (slV (nmS b)) _ hrng Tryd.underlying27 rfl hinf ?_)
    | fail)
  refine (unhide HEN).mono ?_
  rintro e w4 ⟨fv, rfl, ho4, hb4⟩
  have hA4 := HA3.out.below hb4
  have hA24 := HA23.out.below hb4
  have hb4w := below_then HB3.out hb4
  obtain ⟨hi4, _⟩ := unhide HIS w4 hb4w
  obtain ⟨fa, fn, fc, rfl⟩ := ho4.shape
  have hrng4 := hA4.rangeJ
  have HQ : Hid (∀ w5, w4.grownBy w5 (some g2) → Below w.heap.size w w5) := hide (fun w5 hg5 => jbelow_grown hb4w hg5 hb4w.size (by rw [HG2.out]; exact Nat.le_refl _))
  have HA24 := hide hA24
  have HIF := hide ho4.isB
  have HI4 := hide hi4
  clear HEN ho4 hb4 hA4 hA24 hb4w hi4 HA3 HA23 HB3 hrng
  by_cases he : (nmS b).May
  · have HE := hide he
    rw [(encS_yes he).2]
    have HIF2 : Hid (IsB w4 (.slice fa fn fc) (slL (nmS b))) := hide (by have := HIF.out; rw [(encS_yes HE.out).1] at this; exact this)
    clear HIF he
    by_cases heq : slL (nmS b) = b
    · obtain ⟨q1, q2⟩ := unhide HDY HE.out heq
      have HEQ : Hid (Calls Tryd.prog 57 #[.slice fa fn fc, .slice va 512 vc] w4 fun e w' => e = .returned (.bool true) ∧ w' = w4) := hide (by have := sequal_calls HIF2.out HI4.out; rw [decide_eq_true heq] at this; exact this)
      have HQ1 := hide (And.intro q1 q2)
      clear q1 q2 heq HDY HDN HIF2 HI4
      go_wp2_with fail
      refine (unhide HEQ).mono ?_
      rintro e w5 ⟨rfl, hw5⟩
      obtain rfl := hw5.symm
      clear hw5 HEQ
      go_wp2_with (first
        | (refine wpList_loadJ rfl 27 (.tmp 4) rfl _ 0 rfl (slV (nmS b)) _ hrng4 Tryd.underlying27 rfl hinf ?_)
        | (refine wpList_storeJ rfl (.tmp 2) (.tmp 27) 27 rfl rfl rfl HA24.out hinf hlen hon ?_; intro w6 hA6 hg6))
      have hb6 := unhide HQ w6 hg6
      have hA7 : Arr w6 g2 27 (slV (nmS b)) := hA6
      refine bodyPost_ret (results_rowJ2 rfl rfl rfl hA7 Tryd.underlying27 rfl hinf) rfl ?_
      rw [HQ1.out.1, HQ1.out.2]
      exact ⟨rfl, hb6⟩
    · obtain ⟨q1, q2⟩ := unhide HDN (fun hc => heq hc.2)
      have HEQ : Hid (Calls Tryd.prog 57 #[.slice fa fn fc, .slice va 512 vc] w4 fun e w' => e = .returned (.bool false) ∧ w' = w4) := hide (by have := sequal_calls HIF2.out HI4.out; rw [decide_eq_false heq] at this; exact this)
      have HQ1 := hide (And.intro q1 q2)
      clear q1 q2 heq HDY HDN HIF2 HI4
      go_wp2_with fail
      refine (unhide HEQ).mono ?_
      rintro e w5 ⟨rfl, hw5⟩
      obtain rfl := hw5.symm
      clear hw5 HEQ
      go_wp2_with (first
        | (refine wpList_bldJ rfl 27 rfl bldS0 ?_)
        | (refine wpList_storeJ rfl (.tmp 2) (.tmp 26) 27 rfl rfl rfl HA24.out hinf0 hlen0 hone0 ?_; intro w6 hA6 hg6))
      have hb6 := unhide HQ w6 hg6
      have hA7 : Arr w6 g2 27 (slV .nul) := hA6
      refine bodyPost_ret (results_rowJ2 rfl rfl rfl hA7 Tryd.underlying27 rfl hinf0) rfl ?_
      rw [HQ1.out.1, HQ1.out.2]
      exact ⟨rfl, hb6⟩
  · obtain ⟨q1, q2⟩ := unhide HDN (fun hc => he hc.1)
    rw [(encS_no he).2]
    have HQ1 := hide (And.intro q1 q2)
    clear q1 q2 he HDY HDN HI4 HIF
    go_wp2_with (first
      | (refine wpList_bldJ rfl 27 rfl bldS0 ?_)
      | (refine wpList_storeJ rfl (.tmp 2) (.tmp 26) 27 rfl rfl rfl HA24.out hinf0 hlen0 hone0 ?_; intro w6 hA6 hg6))
    have hb6 := unhide HQ w6 hg6
    have hA7 : Arr w6 g2 27 (slV .nul) := hA6
    refine bodyPost_ret (results_rowJ2 rfl rfl rfl hA7 Tryd.underlying27 rfl hinf0) rfl ?_
    rw [HQ1.out.1, HQ1.out.2]
    exact ⟨rfl, hb6⟩
/-- What Decode answers. -/
theorem sdec_calls {w : World} {v : Value} {b : List Int} (h : IsB w v b) (ht : Tab w) :
    Calls Tryd.prog 29 #[v] w fun e w' => e = .returned (.tuple #[.agg (slV (decSR b)).toArray, .int .i64 (decSE b)]) ∧ Below w.heap.size w w' := by
  by_cases hl : b.length = 512
  · exact sdec_long h hl ht
  · obtain ⟨q1, q2⟩ := decSR_none (decS_short hl)
    rw [q1, q2]
    exact sdec_short h hl
end Go.Proofs.YtbgknbjpbobebaaDoor
