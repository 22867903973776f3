/- What Turn answers. -/
import Derived.Test.YthhjlopgpmaokabDoorDkT
namespace Go.Proofs.YthhjlopgpmaokabDoor
open Go.RowKit Go.Maps

theorem turned_enter (v u : Value) (W : World) : (callFunc 46 #[v, u]).run Tryd.prog W = .ok (.enter 46 #[v, u]) W := by kernel_rfl
theorem there_of_block {w w' : World} {b o n : Nat} (h : w.there b o n) (hb : w'.heap[b]? = w.heap[b]?) : w'.there b o n := fun j hj => by
  obtain ⟨h1, h2⟩ := h j hj
  exact ⟨by rw [World.cell?_of_block (a := ⟨b, o + j, none⟩) hb]; exact h1, by rw [World.frozen?_of_block (a := ⟨b, o + j, none⟩) hb]; exact h2⟩
set_option maxRecDepth 100000 in
set_option maxHeartbeats 4000000 in
theorem turn_good {w : World} {p gl gm i bit : Nat} {V : Nat → Value} {D : AD} (h : Dk w p gl gm V D) (hi : i < D.la.length) (hb : bit < 4096) (hwl : (D.wr i).length ≤ 68719476736) :
    Calls Tryd.prog 15 #[.pointer (some ⟨p, 0, none⟩), .int .i64 (i : Int), .int .i64 (bit : Int)] w fun e w' => e = .returned (.int .i64 0) ∧ Dk w' p gl gm V (D.turn i bit) ∧ Up (Ft p gl gm V) w w' := by
  have hlen := h.ok.hi
  have hc0 := h.cells.1
  have hO := hide (outside_in (i := i) hc0 hi)
  have hsec : IsSec (D.la.getD i zsec) := by rw [List.getD_eq_getElem?_getD, List.getElem?_eq_getElem hi]; exact h.ok.las _ (List.getElem_mem hi)
  have hr := owns_range h.las h.ok.las hi
  have hth := h.there hi
  have HT : Hid (∀ W, Calls Tryd.prog 46 #[.agg (u8V (D.la.getD i zsec)).toArray, .int .i64 (bit : Int)] W fun e w' => e = .returned (.agg (u8V (turnB (D.la.getD i zsec) bit)).toArray) ∧ Below W.heap.size W w') := fun W => turned_sec hsec hb
  have hcl : (u8V (D.la.getD i zsec)).length = 512 := by rw [u8V_len]; exact hsec.1
  have hdl : (u8V (turnB (D.la.getD i zsec) bit)).length = 512 := by rw [u8V_len]; exact (turnB_is hsec hb).1
  have hinf : (Tryd.prog.info? 99).map (·.size) = some (u8V (D.la.getD i zsec)).length := by rw [hcl]; kernel_rfl
  have hone := u8V_one (turnB (D.la.getD i zsec) bit)
  have hp : p < w.heap.size := h.blk.lt
  have hgl : gl < w.heap.size := h.lt (Or.inr (Or.inl rfl))
  have hpl := h.p_gl
  have HD0 : Hid (∀ W, Below w.heap.size w W → Dk (W.setCells gl (i * 512) (u8V (turnB (D.la.getD i zsec) bit))) p gl gm V (turnD D i bit 0)) := fun W hW => by
    rw [turnD_zero]; exact (h.below hW).put hi (turnB_is hsec hb)
  have HDA : Hid (∀ W, Dk W p gl gm V (turnD D i bit (D.wr i).length) → Dk W p gl gm V (D.turn i bit)) := fun W hW => by rw [turnD_all] at hW; exact hW
  have HLT : Hid (∀ b, Ft p gl gm V b → b < w.heap.size) := fun b hb => h.lt hb
  have HV : Hid (∃ a c, V i = .slice a (D.wr i).length c ∧ (0 < (D.wr i).length → ∃ g, a = some ⟨g, 0, none⟩ ∧ (D.wr i).length ≤ c ∧ c ≤ 9223372036854775807)) := by
    rcases (h.row i).2 with ⟨hv, h0⟩ | ⟨g, cap, cur, hv, _, _, hle, hm, _⟩
    · exact ⟨none, 0, by rw [hv, h0], fun hp => by omega⟩
    · exact ⟨_, cap, hv, fun _ => ⟨g, rfl, hle, by simpa [maxLen] using hm⟩⟩
  have HWS := hide h.ok.wrs
  have hbi : decide ((bit : Int) < 0) = false := by simp
  have hbj : decide (4096 ≤ (bit : Int)) = false := by simp; omega
  clear h
  generalize hcs : u8V (D.la.getD i zsec) = cs at *
  generalize hds : u8V (turnB (D.la.getD i zsec) bit) = ds at *
  generalize hn : D.la.length = n at *
  have HS : Hid (∀ W, Below w.heap.size w W → W.cell? ⟨p, 0, none⟩ = some (.slice (some ⟨gl, 0, none⟩) n n) ∧ W.there gl (i * 512) 512) := fun W hW =>
    ⟨(hW.cell (p := ⟨p, 0, none⟩) hp).trans hc0, there_of_block hth (hW.block gl hgl)⟩
  have HS3 : Hid (∀ W, Below w.heap.size w W → (W.setCells gl (i * 512) ds).cell? ⟨p, 0, none⟩ = some (.slice (some ⟨gl, 0, none⟩) n n) ∧ (W.setCells gl (i * 512) ds).there gl (i * 512) 512) := fun W hW =>
    ⟨(grown_setCells W gl (i * 512) ds).cell (unhide HS W hW).1 (by simpa using hpl), World.there_setCells (unhide HS W hW).2 _ _ _⟩
  have HRD : Hid (w.drew.rangeAt gl (i * 512) cs) := hide (by simpa using hr)
  clear hcs hds hn hsec hcl
  go_enter Tryd.func15, Tryd.ntmps15
  go_wp2_with (go_at_call 45; refine (unhide hO).mono ?_; rintro e w1 ⟨rfl, hw1⟩; obtain rfl := hw1.symm)
  clear hO
  refine wp_region_held_drew (S := fun W => W.cell? ⟨p, 0, none⟩ = some (.slice (some ⟨gl, 0, none⟩) n n) ∧ W.there gl (i * 512) 512) (by kernel_rfl) (unhide HS _ (Below.refl _ _).drew) (fun hHeld => ?_)
  refine wpAnyH_take (i := 0) (v := .pointer (some ⟨p, 0, none⟩)) rfl (by kernel_rfl) (by kernel_rfl) (by kernel_rfl) (fun _ _ _ h => h) (Or.inl ⟨by rfl, fun w hSw => by obtain ⟨hSc, _⟩ := hSw; go_simp⟩) (by assumption) ?_
  simp only [List.getElem_toArray, List.getElem_cons_zero, Act.put, List.setIfInBounds_toArray, List.set_cons_zero, List.set_cons_succ]
  refine wpAnyH_take (i := 1) (v := .pointer (some ⟨p, 0, none⟩)) rfl (by kernel_rfl) (by kernel_rfl) (by kernel_rfl) (fun _ _ _ h => h) (Or.inl ⟨by rfl, fun w hSw => by obtain ⟨hSc, _⟩ := hSw; go_simp⟩) (by assumption) ?_
  simp only [List.getElem_toArray, List.getElem_cons_succ, List.getElem_cons_zero, Act.put, List.setIfInBounds_toArray, List.set_cons_zero, List.set_cons_succ]
  refine wpAnyH_take (i := 2) (v := .pointer (some ⟨p, 0, none⟩)) rfl (by kernel_rfl) (by kernel_rfl) (by kernel_rfl) (fun _ _ _ h => h) (Or.inl ⟨by rfl, fun w hSw => by obtain ⟨hSc, _⟩ := hSw; go_simp⟩) (by assumption) ?_
  simp only [List.getElem_toArray, List.getElem_cons_succ, List.getElem_cons_zero, Act.put, List.setIfInBounds_toArray, List.set_cons_zero, List.set_cons_succ]
  refine wpAnyH_take (i := 3) (v := .slice (some ⟨gl, 0, none⟩) n n) rfl (by kernel_rfl) (by kernel_rfl) (by kernel_rfl) (fun _ _ _ h => h) (Or.inl ⟨by rfl, fun w hSw => by obtain ⟨hSc, _⟩ := hSw; go_simp⟩) (by assumption) ?_
  simp only [List.getElem_toArray, List.getElem_cons_succ, List.getElem_cons_zero, Act.put, List.setIfInBounds_toArray, List.set_cons_zero, List.set_cons_succ]
  refine wpAnyH_take (i := 4) (v := .int .i64 (i : Int)) rfl (by kernel_rfl) (by kernel_rfl) (by kernel_rfl) (fun _ _ _ h => h) (Or.inl ⟨by rfl, fun w hSw => by obtain ⟨hSc, _⟩ := hSw; go_simp⟩) (by assumption) ?_
  simp only [List.getElem_toArray, List.getElem_cons_succ, List.getElem_cons_zero, Act.put, List.setIfInBounds_toArray, List.set_cons_zero, List.set_cons_succ]
  refine wpAnyH_take (i := 5) (v := .pointer (some ⟨p, 0, none⟩)) rfl (by kernel_rfl) (by kernel_rfl) (by kernel_rfl) (fun _ _ _ h => h) (Or.inl ⟨by rfl, fun w hSw => by obtain ⟨hSc, _⟩ := hSw; go_simp⟩) (by assumption) ?_
  simp only [List.getElem_toArray, List.getElem_cons_succ, List.getElem_cons_zero, Act.put, List.setIfInBounds_toArray, List.set_cons_zero, List.set_cons_succ]
  refine wpAnyH_take (i := 6) (v := .pointer (some ⟨p, 0, none⟩)) rfl (by kernel_rfl) (by kernel_rfl) (by kernel_rfl) (fun _ _ _ h => h) (Or.inl ⟨by rfl, fun w hSw => by obtain ⟨hSc, _⟩ := hSw; go_simp⟩) (by assumption) ?_
  simp only [List.getElem_toArray, List.getElem_cons_succ, List.getElem_cons_zero, Act.put, List.setIfInBounds_toArray, List.set_cons_zero, List.set_cons_succ]
  refine wpAnyH_take (i := 7) (v := .pointer (some ⟨p, 0, none⟩)) rfl (by kernel_rfl) (by kernel_rfl) (by kernel_rfl) (fun _ _ _ h => h) (Or.inl ⟨by rfl, fun w hSw => by obtain ⟨hSc, _⟩ := hSw; go_simp⟩) (by assumption) ?_
  simp only [List.getElem_toArray, List.getElem_cons_succ, List.getElem_cons_zero, Act.put, List.setIfInBounds_toArray, List.set_cons_zero, List.set_cons_succ]
  refine wpAnyH_take (i := 8) (v := .slice (some ⟨gl, 0, none⟩) n n) rfl (by kernel_rfl) (by kernel_rfl) (by kernel_rfl) (fun _ _ _ h => h) (Or.inl ⟨by rfl, fun w hSw => by obtain ⟨hSc, _⟩ := hSw; go_simp⟩) (by assumption) ?_
  simp only [List.getElem_toArray, List.getElem_cons_succ, List.getElem_cons_zero, Act.put, List.setIfInBounds_toArray, List.set_cons_zero, List.set_cons_succ]
  refine wpAnyH_take (i := 9) (v := .int .i64 (i : Int)) rfl (by kernel_rfl) (by kernel_rfl) (by kernel_rfl) (fun _ _ _ h => h) (Or.inl ⟨by rfl, fun w hSw => by obtain ⟨hSc, _⟩ := hSw; go_simp⟩) (by assumption) ?_
  simp only [List.getElem_toArray, List.getElem_cons_succ, List.getElem_cons_zero, Act.put, List.setIfInBounds_toArray, List.set_cons_zero, List.set_cons_succ]
  refine wpAnyH_take (i := 10) (v := .pointer (some ⟨gl, i * 512, none⟩)) rfl (by kernel_rfl) (by kernel_rfl) (by kernel_rfl) (fun _ _ _ h => h) (Or.inl ⟨by rfl, fun w hSw => by obtain ⟨hSc, _⟩ := hSw; go_simp⟩) (by assumption) ?_
  simp only [List.getElem_toArray, List.getElem_cons_succ, List.getElem_cons_zero, Act.put, List.setIfInBounds_toArray, List.set_cons_zero, List.set_cons_succ]
  refine wpAnyH_take (i := 12) (v := .int .i64 (bit : Int)) rfl (by kernel_rfl) (by kernel_rfl) (by kernel_rfl) (fun _ _ _ h => h) (Or.inl ⟨by rfl, fun w hSw => by obtain ⟨hSc, _⟩ := hSw; go_simp⟩) (by assumption) ?_
  simp only [List.getElem_toArray, List.getElem_cons_succ, List.getElem_cons_zero, Act.put, List.setIfInBounds_toArray, List.set_cons_zero, List.set_cons_succ]
  refine wpAnyH_ready (rs := [11]) (by kernel_rfl) (by simp) (AllReadyH.cons rfl (fun K hK => ?_) AllReadyH.nil)
  refine step_loadMid rfl (.tmp 29) rfl rfl (unhide HRD) hinf ?_
  refine hK.out _ _ hHeld (fun hHeld1 => ?_)
  clear hK K
  simp only [List.getElem_toArray, List.getElem_cons_succ, List.getElem_cons_zero, Act.put, List.setIfInBounds_toArray, List.set_cons_zero, List.set_cons_succ]
  refine wpAnyH_ready (rs := [13]) (by kernel_rfl) (by simp) (AllReadyH.cons rfl (fun K hK => ?_) AllReadyH.nil)
  refine step_call2Q rfl 46 turned_enter (.tmp 30) (.tmp 31) _ rfl rfl rfl (unhide HT _) ?_
  rintro e w2 ⟨rfl, hb2'⟩
  have hb2 : Below w.heap.size w w2 := below_drew hb2'
  refine ⟨_, rfl, hK.out _ _ (unhide HS _ hb2) (fun hHeld2 => ?_)⟩
  clear hK K
  simp only [List.getElem_toArray, List.getElem_cons_succ, List.getElem_cons_zero, Act.put, List.setIfInBounds_toArray, List.set_cons_zero, List.set_cons_succ]
  refine wpAnyH_take (i := 14) (v := .pointer (some ⟨gl, i * 512, none⟩)) rfl (by kernel_rfl) (by kernel_rfl) (by kernel_rfl) (fun _ _ _ h => h) (Or.inl ⟨by rfl, fun w hSw => by obtain ⟨hSc, _⟩ := hSw; go_simp⟩) (by assumption) ?_
  simp only [List.getElem_toArray, List.getElem_cons_succ, List.getElem_cons_zero, Act.put, List.setIfInBounds_toArray, List.set_cons_zero, List.set_cons_succ]
  refine wpAnyH_ready (rs := [15]) (by kernel_rfl) (by simp) (AllReadyH.cons rfl (fun K hK => ?_) AllReadyH.nil)
  refine step_storeMid rfl (.tmp 33) (.tmp 32) rfl rfl rfl hHeld2.2 hdl hone ?_
  refine hK.out _ _ (unhide HS3 _ hb2) (fun hHeld3 => ?_)
  clear hK K
  simp only [List.getElem_toArray, List.getElem_cons_succ, List.getElem_cons_zero, Act.put]
  refine wpAnyH_done (by kernel_rfl) ?_ _
  have hD3 := unhide HD0 w2 hb2
  have hU3 : Up (Ft p gl gm V) w (w2.setCells gl (i * 512) ds) := (Up.of_below hb2).trans (F' := Ft p gl gm V) (Up.of_grown (grown_setCells w2 gl (i * 512) ds) (fun g hg => by injection hg with hg; exact Or.inr (Or.inl hg.symm))) (fun _ h => Or.inl h)
  clear hb2 hb2' hHeld hHeld1 hHeld2 hHeld3 HS HS3 HRD HT HD0 hth hr hinf hone hdl
  generalize w2.setCells gl (i * 512) ds = w3 at *
  have hc3 := hD3.cells.2.1
  have hlook := hD3.look (i := i) (by omega)
  obtain ⟨va, vc, hV, hVp⟩ := HV.out
  rw [hV] at hlook
  generalize hm : (D.wr i).length = m at *
  have HM := hide hm
  have HVV := hide hV
  have HD3 := hide hD3
  clear hm hV hD3 HV hc0
  go_wp2_with (first
    | (at_lookup; refine wpList_lookRun rfl _ _ 87 rfl rfl rfl hlook ?_))
  go_loopw [42] (fun kv wr => ∃ k : Nat, k ≤ m ∧ kv = .int .i64 (k : Int) ∧ Dk wr p gl gm V (turnD D i bit k) ∧ Up (Ft p gl gm V) w wr) (fun kv _ => m - (intOf kv).toNat)
  case atStart => exact ⟨0, by omega, rfl, HD3.out, hU3⟩
  case round =>
    clear hlook hc3 hU3 HD3
    obtain ⟨k, hk, rfl, hD, hU⟩ := hrel
    by_cases hlt : k < m
    · obtain ⟨g, rfl, hmc, hcm⟩ := hVp (by omega)
      have hkw : k < (D.wr i).length := by rw [HM.out]; exact hlt
      have hob : (V i).ownBlock = some g := by rw [HVV.out]; rfl
      have hwl2 : ((turnD D i bit k).wr i).length = m := by rw [turnD_len D i bit k (by omega)]; exact HM.out
      have hrow := hD.row i
      rw [hwl2, HVV.out] at hrow
      have hsk : IsSec ((D.wr i).getD k zsec) := by rw [List.getD_eq_getElem?_getD, List.getElem?_eq_getElem hkw]; exact unhide HWS i _ (List.getElem_mem hkw)
      have hr := owns_range hrow (hD.ok.wrs i) (i := k) (by rw [hwl2]; exact hlt)
      rw [turnD_get D i bit k hkw] at hr
      have hth := owns_there hrow hlt
      have hcl : (u8V ((D.wr i).getD k zsec)).length = 512 := by rw [u8V_len]; exact hsk.1
      have hdl : (u8V (turnB ((D.wr i).getD k zsec) bit)).length = 512 := by rw [u8V_len]; exact (turnB_is hsk hb).1
      have hund := Tryd.underlying99
      have hinf : (Tryd.prog.info? 99).map (·.size) = some (u8V ((D.wr i).getD k zsec)).length := by rw [hcl]; kernel_rfl
      have hinf2 : (Tryd.prog.info? 99).map (·.size) = some (u8V (turnB ((D.wr i).getD k zsec) bit)).toArray.size := by rw [List.size_toArray, hdl]; kernel_rfl
      have hzl : zcells.length = (u8V ((D.wr i).getD k zsec)).length := by rw [hcl, zcells_len]
      have hone := u8V_one ((D.wr i).getD k zsec)
      have hone2 := all_oneCell_toArray (u8V_one (turnB ((D.wr i).getD k zsec) bit))
      have HT : Hid (∀ W, Calls Tryd.prog 46 #[.agg (u8V ((D.wr i).getD k zsec)).toArray, .int .i64 (bit : Int)] W fun e w' => e = .returned (.agg (u8V (turnB ((D.wr i).getD k zsec) bit)).toArray) ∧ Below W.heap.size W w') := fun W => turned_sec hsk hb
      have HZ := Arr.new wr zcells 99
      have hglt : g < wr.heap.size := hD.lt (Or.inr (Or.inr (Or.inr ⟨i, hob⟩)))
      have HNEW : Hid (∀ W, Below wr.heap.size wr W → Dk (W.setCells g (k * 512) (u8V (turnB ((D.wr i).getD k zsec) bit))) p gl gm V (turnD D i bit (k + 1)) ∧ Up (Ft p gl gm V) w (W.setCells g (k * 512) (u8V (turnB ((D.wr i).getD k zsec) bit)))) := fun W hW => by
        refine ⟨?_, (hU.then_below hW).trans (F' := Ft p gl gm V) (Up.of_grown (grown_setCells W g (k * 512) _) (fun g' hg => by injection hg with hg; exact Or.inr (Or.inr (Or.inr ⟨i, by rw [hob, hg]⟩)))) (fun _ h => Or.inl h)⟩
        rw [← turnD_step D i bit k hkw]
        exact (hD.below hW).turnRow HVV.out hwl2 hlt (turnB_is hsk hb)
      have HTH : Hid (∀ W, Below wr.heap.size wr W → W.there g (k * 512) (u8V (turnB ((D.wr i).getD k zsec) bit)).toArray.size) := fun W hW => by rw [List.size_toArray, hdl]; exact there_of_block hth (hW.block g hglt)
      clear hD hU hrow hsk hcl hdl hth hwl2 hkw hob
      generalize u8V ((D.wr i).getD k zsec) = cs at *
      generalize u8V (turnB ((D.wr i).getD k zsec) bit) = ds at *
      go_wp2_with (first
        | (refine wpList_load_mid rfl 99 (.tmp 45) rfl g (k * 512) rfl cs (.array 512 5) hr hund rfl hinf ?_)
        | (refine wpList_allocS rfl rfl ?_)
        | (refine wpList_storeArr2 (cs' := cs) rfl (.tmp 9) (.tmp 46) 99 rfl rfl rfl HZ hinf hzl hone ?_; intro w5 hZ5 hW5; have hb5 : Below wr.heap.size wr w5 := hW5.below _ _ ((Below.refl _ _).alloc (Nat.le_refl _) _) (Nat.le_refl _))
        | (refine wpList_loadArr rfl (.tmp 9) 99 rfl rfl hZ5 hund hinf ?_)
        | (go_at_call 46; refine (unhide HT _).mono ?_; rintro e w6 ⟨rfl, hb6⟩; have hb7 : Below wr.heap.size wr w6 := below_then hb5 hb6; have hth6 := unhide HTH w6 hb7)
        | (refine wpList_store_mid rfl 99 (.tmp 52) (.tmp 51) rfl g (k * 512) ds.toArray rfl rfl hth6 hinf2 hone2 ?_))
      obtain ⟨hN1, hN2⟩ := unhide HNEW w6 hb7
      go_roundw
      case rel => exact ⟨k + 1, by omega, by go_num, hN1, hN2⟩
      case measure => simp [intOf]; omega
    · have hkm : k = m := by omega
      have HK := hide hkm
      clear hkm
      go_wp2
      go_ret
      exact ⟨rfl, unhide HDA wr (by rw [← HK.out]; exact hD), hU⟩
set_option maxRecDepth 100000 in
set_option maxHeartbeats 1000000 in
theorem turn_out {w : World} {p gl n cap : Nat} {x y : Int} (hc : w.cell? ⟨p, 0, none⟩ = some (.slice (some ⟨gl, 0, none⟩) n cap)) (hx : x < 0 ∨ (n : Int) ≤ x) :
    Calls Tryd.prog 15 #[.pointer (some ⟨p, 0, none⟩), .int .i64 x, .int .i64 y] w fun e w' => e = .returned (.int .i64 31) ∧ w' = w := by
  have hO := hide (outside_out (x := x) hc hx)
  clear hx
  go_enter Tryd.func15, Tryd.ntmps15
  go_wp2_with (go_at_call 45; refine (unhide hO).mono ?_; rintro e w1 ⟨rfl, rfl⟩)
  go_ret
  exact ⟨rfl, rfl⟩
set_option maxRecDepth 100000 in
set_option maxHeartbeats 1000000 in
theorem turn_arg {w : World} {p gl n cap i : Nat} {y : Int} (hc : w.cell? ⟨p, 0, none⟩ = some (.slice (some ⟨gl, 0, none⟩) n cap)) (hi : i < n) (hy : y < 0 ∨ 4096 ≤ y) :
    Calls Tryd.prog 15 #[.pointer (some ⟨p, 0, none⟩), .int .i64 (i : Int), .int .i64 y] w fun e w' => e = .returned (.int .i64 1) ∧ w' = w := by
  have hO := hide (outside_in (i := i) hc hi)
  by_cases h0 : y < 0
  · clear hi hy
    go_enter Tryd.func15, Tryd.ntmps15
    go_wp2_with (go_at_call 45; refine (unhide hO).mono ?_; rintro e w1 ⟨rfl, rfl⟩)
    go_ret
    exact ⟨rfl, rfl⟩
  · have h1 : decide (y < 0) = false := by simpa using h0
    have h2 : decide (4096 ≤ y) = true := by rcases hy with hy | hy; · exact absurd hy h0
                                             · simpa using hy
    clear hi hy h0
    go_enter Tryd.func15, Tryd.ntmps15
    go_wp2_with (go_at_call 45; refine (unhide hO).mono ?_; rintro e w1 ⟨rfl, rfl⟩)
    go_ret
    exact ⟨rfl, rfl⟩
end Go.Proofs.YthhjlopgpmaokabDoor
