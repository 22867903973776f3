/- lasts: what lasts of each sector. -/
import Derived.Test.YtfgjhlnaaopdeaaOtD
namespace Go.Proofs.Ytfgjhlnaaopdeaa
open Go.RowKit Go.Maps

def firstOf (m : Nat) (x : Int) : Nat := if 0 ≤ x ∧ x < (m : Int) then x.toNat + 1 else 0
theorem firstOf_le (m : Nat) (x : Int) : firstOf m x ≤ m := by
  unfold firstOf
  split <;> omega
set_option maxRecDepth 100000 in
set_option maxHeartbeats 2000000 in
theorem wlasts_calls {w : World} {p gl gm n : Nat} {V : Nat → Value} {D : AD} {v : Value} {l : Ats} {x : Int} (h : Dk w p gl gm V D) (hW : IsWs w v l) (hn : D.la.length = n) (hN : Ls D (l.take (firstOf l.length x))) :
    Calls Try.prog 20 #[.pointer (some ⟨p, 0, none⟩), .int .i64 (n : Int), v, .int .i64 x] w fun e w' => e = .returned (.bool true) ∧ Below w.heap.size w w' := by
  have hhi := h.ok.hi
  obtain ⟨va, vc, rfl, _⟩ := hW.shape
  have HN : Hid (∀ i, i < n → D.la.getD i [] = lastOf (l.take (firstOf l.length x)) (i : Int)) := fun i hi => by
    rw [← hN i (by omega), List.getD_eq_getElem?_getD, List.getD_eq_getElem?_getD, List.getElem?_eq_getElem (by omega)]
    rfl
  have HIM := hide (image_calls h)
  have HW := hide hW
  have HFL := hide (firstOf_le l.length x)
  have hfe : firstOf l.length x = if 0 ≤ x ∧ x < (l.length : Int) then x.toNat + 1 else 0 := rfl
  have hlen : l.length ≤ 9223372036854775807 := by
    obtain ⟨a, c, hv, hp⟩ := hW.shape
    by_cases h0 : 0 < l.length
    · obtain ⟨g, _, h1, h2⟩ := hp h0; omega
    · omega
  have HNL := hide hn
  clear h hW hN
  rw [hn] at hhi
  clear hn
  generalize hm : l.length = m at *
  generalize hf : firstOf m x = f at *
  have HM := hide hm
  clear hm hf
  have key : (x < 0 ∧ f = 0) ∨ (0 ≤ x ∧ x < (m : Int) ∧ f = x.toNat + 1) ∨ (0 ≤ x ∧ (m : Int) ≤ x ∧ f = 0) := by
    by_cases h1 : 0 ≤ x ∧ x < (m : Int)
    · rw [if_pos h1] at hfe
      exact Or.inr (Or.inl ⟨h1.1, h1.2, hfe⟩)
    · rw [if_neg h1] at hfe
      by_cases h2 : 0 ≤ x
      · exact Or.inr (Or.inr ⟨h2, by omega, hfe⟩)
      · exact Or.inl ⟨by omega, hfe⟩
  clear hfe
  rcases key with ⟨hx, hf⟩ | ⟨hx, hx2, hf⟩ | ⟨hx, hx2, hf⟩
  · have hd1 : decide (0 ≤ x) = false := by simpa using hx
    subst hf
    clear hx
    go_enter Try.func20, Try.ntmps20
    go_wp2_with fail
    refine (unhide HIM).mono ?_
    rintro e w1 ⟨v1, rfl, hI, hb1⟩
    have hBB := hI.isBB (by rw [HNL.out]; exact hhi)
    obtain ⟨a1, c1, rfl, hl1, hc1, hcell⟩ := hBB
    rw [HNL.out] at hl1
    have HCE : Hid (0 < n → ∃ b o, a1 = some ⟨b, o, none⟩ ∧ ∀ j, j < n → ∃ u, w1.cell? ⟨b, o + j, none⟩ = some u ∧ IsB w1 u (D.la.getD j [])) := by rw [HNL.out] at hcell; exact hcell
    have HB1 := hide hb1
    have hsz1 := hb1.size
    rw [HNL.out]
    clear hI hb1 hcell HIM
    go_wp2
    go_loopw [11] (fun iv wr => ∃ k : Nat, k ≤ n ∧ iv = .int .i64 (k : Int) ∧ Below w1.heap.size w1 wr) (fun iv _ => n - (intOf iv).toNat)
    case atStart => exact ⟨0, by omega, rfl, Below.refl _ _⟩
    case round =>
      obtain ⟨k, hk, rfl, hb⟩ := hrel
      by_cases hlt : k < n
      · obtain ⟨b, o, rfl, hcs⟩ := unhide HCE (by omega)
        obtain ⟨u, hcu, hIu⟩ := hcs k hlt
        obtain ⟨ua, un, uc, rfl⟩ := hIu.shape
        have hbw := World.block_lt_of_cell? w1 _ hcu
        have hsb := hb.size
        have HLAST : Hid (∀ W, Below wr.heap.size wr W → Calls Try.prog 42 #[.slice va m vc, .int .i64 (k : Int), .int .i64 (0 : Int)] W fun e w' => ∃ u, e = .returned u ∧ IsB w' u (D.la.getD k []) ∧ Below wr.heap.size wr w') := fun W hW => by
          have := last_calls (i := k) (((HW.out.below HB1.out).below hb).below hW) (f := 0) (by rw [HM.out]; exact HFL.out)
          rw [← unhide HN k hlt] at this
          exact this.mono fun e w' ⟨u, h1, h2, h3⟩ => ⟨u, h1, h2, hW.trans (h3.mono hW.size)⟩
        have HSS : Hid (∀ W, Below wr.heap.size wr W → W.cell? ⟨b, o + k, none⟩ = some (.slice ua un uc) ∧ (convert 27 9 (.slice ua un uc)).run Try.prog W = .ok (.string (mkS (D.la.getD k []))) W) := fun W hW =>
          ⟨(hW.cell (p := ⟨b, o + k, none⟩) (by show b < _; exact Nat.lt_of_lt_of_le hbw hb.size)).trans ((hb.cell (p := ⟨b, o + k, none⟩) hbw).trans hcu), conv_isB ((hIu.below hb).below hW)⟩
        have HCV2 : Hid (∀ W u, IsB W u (D.la.getD k []) → (convert 27 9 u).run Try.prog W = .ok (.string (mkS (D.la.getD k []))) W) := fun W u hu => conv_isB hu
        have HB := hide hb
        clear hcs hcu hIu hb
        generalize D.la.getD k [] = sec at *
        generalize mkS sec = st at *
        go_wp2_with fail
        refine wp_region_held_drew (S := fun W => W.cell? ⟨b, o + k, none⟩ = some (.slice ua un uc) ∧ (convert 27 9 (.slice ua un uc)).run Try.prog W = .ok (.string st) W) (by kernel_rfl) (unhide HSS _ (Below.refl _ _).drew) (fun hHeld => ?_)
        refine wpAnyH_take (i := 0) (v := .slice (some ⟨b, o, none⟩) n c1) rfl (by kernel_rfl) (by kernel_rfl) (by kernel_rfl) (fun _ _ _ h => h) (Or.inl ⟨by rfl, fun w hSw => by obtain ⟨hS1, hS2⟩ := hSw; go_simp⟩) (by assumption) ?_
        simp only [List.getElem_toArray, List.getElem_cons_zero, Act.put, List.setIfInBounds_toArray, List.set_cons_zero, List.set_cons_succ]
        refine wpAnyH_take (i := 1) (v := .int .i64 (k : Int)) rfl (by kernel_rfl) (by kernel_rfl) (by kernel_rfl) (fun _ _ _ h => h) (Or.inl ⟨by rfl, fun w hSw => by obtain ⟨hS1, hS2⟩ := hSw; go_simp⟩) (by assumption) ?_
        simp only [List.getElem_toArray, List.getElem_cons_succ, List.getElem_cons_zero, Act.put, List.setIfInBounds_toArray, List.set_cons_zero, List.set_cons_succ]
        refine wpAnyH_take (i := 2) (v := .pointer (some ⟨b, o + k, none⟩)) rfl (by kernel_rfl) (by kernel_rfl) (by kernel_rfl) (fun _ _ _ h => h) (Or.inl ⟨by rfl, fun w hSw => by obtain ⟨hS1, hS2⟩ := hSw; go_simp⟩) (by assumption) ?_
        simp only [List.getElem_toArray, List.getElem_cons_succ, List.getElem_cons_zero, Act.put, List.setIfInBounds_toArray, List.set_cons_zero, List.set_cons_succ]
        refine wpAnyH_take (i := 3) (v := .slice ua un uc) rfl (by kernel_rfl) (by kernel_rfl) (by kernel_rfl) (fun _ _ _ h => h) (Or.inl ⟨by rfl, fun w hSw => by obtain ⟨hS1, hS2⟩ := hSw; go_simp⟩) (by assumption) ?_
        simp only [List.getElem_toArray, List.getElem_cons_succ, List.getElem_cons_zero, Act.put, List.setIfInBounds_toArray, List.set_cons_zero, List.set_cons_succ]
        refine wpAnyH_take (i := 4) (v := .string st) rfl (by kernel_rfl) (by kernel_rfl) (by kernel_rfl) (fun _ _ _ h => h) (Or.inl ⟨by rfl, fun w hSw => by obtain ⟨hS1, hS2⟩ := hSw; go_simp⟩) (by assumption) ?_
        simp only [List.getElem_toArray, List.getElem_cons_succ, List.getElem_cons_zero, Act.put, List.setIfInBounds_toArray, List.set_cons_zero, List.set_cons_succ]
        refine wpAnyH_take (i := 5) (v := .slice va m vc) rfl (by kernel_rfl) (by kernel_rfl) (by kernel_rfl) (fun _ _ _ h => h) (Or.inl ⟨by rfl, fun w hSw => by obtain ⟨hS1, hS2⟩ := hSw; go_simp⟩) (by assumption) ?_
        simp only [List.getElem_toArray, List.getElem_cons_succ, List.getElem_cons_zero, Act.put, List.setIfInBounds_toArray, List.set_cons_zero, List.set_cons_succ]
        refine wpAnyH_take (i := 6) (v := .int .i64 (k : Int)) rfl (by kernel_rfl) (by kernel_rfl) (by kernel_rfl) (fun _ _ _ h => h) (Or.inl ⟨by rfl, fun w hSw => by obtain ⟨hS1, hS2⟩ := hSw; go_simp⟩) (by assumption) ?_
        simp only [List.getElem_toArray, List.getElem_cons_succ, List.getElem_cons_zero, Act.put, List.setIfInBounds_toArray, List.set_cons_zero, List.set_cons_succ]
        refine wpAnyH_take (i := 7) (v := .int .i64 (0 : Int)) rfl (by kernel_rfl) (by kernel_rfl) (by kernel_rfl) (fun _ _ _ h => h) (Or.inl ⟨by rfl, fun w hSw => by obtain ⟨hS1, hS2⟩ := hSw; go_simp⟩) (by assumption) ?_
        simp only [List.getElem_toArray, List.getElem_cons_succ, List.getElem_cons_zero, Act.put, List.setIfInBounds_toArray, List.set_cons_zero, List.set_cons_succ]
        refine wpAnyH_ready (rs := [8]) (by kernel_rfl) (by simp) (AllReadyH.cons rfl (fun K hK => ?_) AllReadyH.nil)
        refine step_call3Gd (by rfl) 42 last_enter (.tmp 38) (.tmp 39) (.tmp 40) _ rfl rfl rfl rfl (unhide HLAST _ (Below.refl _ _).drew) ?_
        rintro e w3 ⟨u3, rfl, hI3, hb3⟩
        obtain ⟨a3, n3, c3, rfl⟩ := hI3.shape
        have hcv3 := unhide HCV2 _ _ hI3
        refine ⟨_, rfl, ?_⟩
        refine hK.out _ _ (unhide HSS _ hb3) (fun hHeld2 => ?_)
        clear hK K
        simp only [List.getElem_toArray, List.getElem_cons_succ, List.getElem_cons_zero, Act.put, List.setIfInBounds_toArray, List.set_cons_zero, List.set_cons_succ]
        refine wpAnyH_ready (rs := [9]) (by kernel_rfl) (by simp) (AllReadyH.cons rfl (fun K hK => ?_) AllReadyH.nil)
        refine step_conv (by rfl) (.tmp 41) rfl rfl hcv3 ?_
        refine hK.out _ _ (hHeld2) (fun hHeld3 => ?_)
        clear hK K
        simp only [List.getElem_toArray, List.getElem_cons_succ, List.getElem_cons_zero, Act.put, List.setIfInBounds_toArray, List.set_cons_zero, List.set_cons_succ]
        refine wpAnyH_take (i := 10) (v := .bool false) rfl (by kernel_rfl) (by kernel_rfl) (by kernel_rfl) (fun _ _ _ h => h) (Or.inl ⟨by rfl, fun w hSw => by obtain ⟨hS1, hS2⟩ := hSw; go_simp⟩) (by assumption) ?_
        simp only [List.getElem_toArray, List.getElem_cons_succ, List.getElem_cons_zero, Act.put, List.setIfInBounds_toArray, List.set_cons_zero, List.set_cons_succ]
        refine wpAnyH_done (by kernel_rfl) ?_ _
        go_wp2
        go_roundw
        case rel => exact ⟨k + 1, by omega, by go_num, HB.out.trans (hb3.mono hsb)⟩
        case measure => simp [intOf]; omega
      · have HB := hide hb
        clear hb
        go_wp2
        go_ret
        exact ⟨rfl, HB1.out.trans (HB.out.mono hsz1)⟩
  · have hd1 : decide (0 ≤ x) = true := by simpa using hx
    have hd2 : decide (x < (m : Int)) = true := by simpa using hx2
    have hw1 : IntKind.i64.wrap (x + 1) = (f : Int) := by
      rw [show x + 1 = (f : Int) by omega]
      exact IntWalk.i64_in _ (by omega)
    have hw2 : x + 1 = (f : Int) := by omega
    have hw3 : wrap64 (f : Int) = (f : Int) := by
      unfold wrap64
      omega
    clear hx hx2 hf
    go_enter Try.func20, Try.ntmps20
    go_wp2_with fail
    refine (unhide HIM).mono ?_
    rintro e w1 ⟨v1, rfl, hI, hb1⟩
    have hBB := hI.isBB (by rw [HNL.out]; exact hhi)
    obtain ⟨a1, c1, rfl, hl1, hc1, hcell⟩ := hBB
    rw [HNL.out] at hl1
    have HCE : Hid (0 < n → ∃ b o, a1 = some ⟨b, o, none⟩ ∧ ∀ j, j < n → ∃ u, w1.cell? ⟨b, o + j, none⟩ = some u ∧ IsB w1 u (D.la.getD j [])) := by rw [HNL.out] at hcell; exact hcell
    have HB1 := hide hb1
    have hsz1 := hb1.size
    rw [HNL.out]
    clear hI hb1 hcell HIM
    go_wp2
    go_loopw [11] (fun iv wr => ∃ k : Nat, k ≤ n ∧ iv = .int .i64 (k : Int) ∧ Below w1.heap.size w1 wr) (fun iv _ => n - (intOf iv).toNat)
    case atStart => exact ⟨0, by omega, rfl, Below.refl _ _⟩
    case round =>
      obtain ⟨k, hk, rfl, hb⟩ := hrel
      by_cases hlt : k < n
      · obtain ⟨b, o, rfl, hcs⟩ := unhide HCE (by omega)
        obtain ⟨u, hcu, hIu⟩ := hcs k hlt
        obtain ⟨ua, un, uc, rfl⟩ := hIu.shape
        have hbw := World.block_lt_of_cell? w1 _ hcu
        have hsb := hb.size
        have HLAST : Hid (∀ W, Below wr.heap.size wr W → Calls Try.prog 42 #[.slice va m vc, .int .i64 (k : Int), .int .i64 (f : Int)] W fun e w' => ∃ u, e = .returned u ∧ IsB w' u (D.la.getD k []) ∧ Below wr.heap.size wr w') := fun W hW => by
          have := last_calls (i := k) (((HW.out.below HB1.out).below hb).below hW) (f := f) (by rw [HM.out]; exact HFL.out)
          rw [← unhide HN k hlt] at this
          exact this.mono fun e w' ⟨u, h1, h2, h3⟩ => ⟨u, h1, h2, hW.trans (h3.mono hW.size)⟩
        have HSS : Hid (∀ W, Below wr.heap.size wr W → W.cell? ⟨b, o + k, none⟩ = some (.slice ua un uc) ∧ (convert 27 9 (.slice ua un uc)).run Try.prog W = .ok (.string (mkS (D.la.getD k []))) W) := fun W hW =>
          ⟨(hW.cell (p := ⟨b, o + k, none⟩) (by show b < _; exact Nat.lt_of_lt_of_le hbw hb.size)).trans ((hb.cell (p := ⟨b, o + k, none⟩) hbw).trans hcu), conv_isB ((hIu.below hb).below hW)⟩
        have HCV2 : Hid (∀ W u, IsB W u (D.la.getD k []) → (convert 27 9 u).run Try.prog W = .ok (.string (mkS (D.la.getD k []))) W) := fun W u hu => conv_isB hu
        have HB := hide hb
        clear hcs hcu hIu hb
        generalize D.la.getD k [] = sec at *
        generalize mkS sec = st at *
        go_wp2_with fail
        refine wp_region_held_drew (S := fun W => W.cell? ⟨b, o + k, none⟩ = some (.slice ua un uc) ∧ (convert 27 9 (.slice ua un uc)).run Try.prog W = .ok (.string st) W) (by kernel_rfl) (unhide HSS _ (Below.refl _ _).drew) (fun hHeld => ?_)
        refine wpAnyH_take (i := 0) (v := .slice (some ⟨b, o, none⟩) n c1) rfl (by kernel_rfl) (by kernel_rfl) (by kernel_rfl) (fun _ _ _ h => h) (Or.inl ⟨by rfl, fun w hSw => by obtain ⟨hS1, hS2⟩ := hSw; go_simp⟩) (by assumption) ?_
        simp only [List.getElem_toArray, List.getElem_cons_zero, Act.put, List.setIfInBounds_toArray, List.set_cons_zero, List.set_cons_succ]
        refine wpAnyH_take (i := 1) (v := .int .i64 (k : Int)) rfl (by kernel_rfl) (by kernel_rfl) (by kernel_rfl) (fun _ _ _ h => h) (Or.inl ⟨by rfl, fun w hSw => by obtain ⟨hS1, hS2⟩ := hSw; go_simp⟩) (by assumption) ?_
        simp only [List.getElem_toArray, List.getElem_cons_succ, List.getElem_cons_zero, Act.put, List.setIfInBounds_toArray, List.set_cons_zero, List.set_cons_succ]
        refine wpAnyH_take (i := 2) (v := .pointer (some ⟨b, o + k, none⟩)) rfl (by kernel_rfl) (by kernel_rfl) (by kernel_rfl) (fun _ _ _ h => h) (Or.inl ⟨by rfl, fun w hSw => by obtain ⟨hS1, hS2⟩ := hSw; go_simp⟩) (by assumption) ?_
        simp only [List.getElem_toArray, List.getElem_cons_succ, List.getElem_cons_zero, Act.put, List.setIfInBounds_toArray, List.set_cons_zero, List.set_cons_succ]
        refine wpAnyH_take (i := 3) (v := .slice ua un uc) rfl (by kernel_rfl) (by kernel_rfl) (by kernel_rfl) (fun _ _ _ h => h) (Or.inl ⟨by rfl, fun w hSw => by obtain ⟨hS1, hS2⟩ := hSw; go_simp⟩) (by assumption) ?_
        simp only [List.getElem_toArray, List.getElem_cons_succ, List.getElem_cons_zero, Act.put, List.setIfInBounds_toArray, List.set_cons_zero, List.set_cons_succ]
        refine wpAnyH_take (i := 4) (v := .string st) rfl (by kernel_rfl) (by kernel_rfl) (by kernel_rfl) (fun _ _ _ h => h) (Or.inl ⟨by rfl, fun w hSw => by obtain ⟨hS1, hS2⟩ := hSw; go_simp⟩) (by assumption) ?_
        simp only [List.getElem_toArray, List.getElem_cons_succ, List.getElem_cons_zero, Act.put, List.setIfInBounds_toArray, List.set_cons_zero, List.set_cons_succ]
        refine wpAnyH_take (i := 5) (v := .slice va m vc) rfl (by kernel_rfl) (by kernel_rfl) (by kernel_rfl) (fun _ _ _ h => h) (Or.inl ⟨by rfl, fun w hSw => by obtain ⟨hS1, hS2⟩ := hSw; go_simp⟩) (by assumption) ?_
        simp only [List.getElem_toArray, List.getElem_cons_succ, List.getElem_cons_zero, Act.put, List.setIfInBounds_toArray, List.set_cons_zero, List.set_cons_succ]
        refine wpAnyH_take (i := 6) (v := .int .i64 (k : Int)) rfl (by kernel_rfl) (by kernel_rfl) (by kernel_rfl) (fun _ _ _ h => h) (Or.inl ⟨by rfl, fun w hSw => by obtain ⟨hS1, hS2⟩ := hSw; go_simp⟩) (by assumption) ?_
        simp only [List.getElem_toArray, List.getElem_cons_succ, List.getElem_cons_zero, Act.put, List.setIfInBounds_toArray, List.set_cons_zero, List.set_cons_succ]
        refine wpAnyH_take (i := 7) (v := .int .i64 (f : Int)) rfl (by kernel_rfl) (by kernel_rfl) (by kernel_rfl) (fun _ _ _ h => h) (Or.inl ⟨by rfl, fun w hSw => by obtain ⟨hS1, hS2⟩ := hSw; go_simp⟩) (by assumption) ?_
        simp only [List.getElem_toArray, List.getElem_cons_succ, List.getElem_cons_zero, Act.put, List.setIfInBounds_toArray, List.set_cons_zero, List.set_cons_succ]
        refine wpAnyH_ready (rs := [8]) (by kernel_rfl) (by simp) (AllReadyH.cons rfl (fun K hK => ?_) AllReadyH.nil)
        refine step_call3Gd (by rfl) 42 last_enter (.tmp 38) (.tmp 39) (.tmp 40) _ rfl rfl rfl rfl (unhide HLAST _ (Below.refl _ _).drew) ?_
        rintro e w3 ⟨u3, rfl, hI3, hb3⟩
        obtain ⟨a3, n3, c3, rfl⟩ := hI3.shape
        have hcv3 := unhide HCV2 _ _ hI3
        refine ⟨_, rfl, ?_⟩
        refine hK.out _ _ (unhide HSS _ hb3) (fun hHeld2 => ?_)
        clear hK K
        simp only [List.getElem_toArray, List.getElem_cons_succ, List.getElem_cons_zero, Act.put, List.setIfInBounds_toArray, List.set_cons_zero, List.set_cons_succ]
        refine wpAnyH_ready (rs := [9]) (by kernel_rfl) (by simp) (AllReadyH.cons rfl (fun K hK => ?_) AllReadyH.nil)
        refine step_conv (by rfl) (.tmp 41) rfl rfl hcv3 ?_
        refine hK.out _ _ (hHeld2) (fun hHeld3 => ?_)
        clear hK K
        simp only [List.getElem_toArray, List.getElem_cons_succ, List.getElem_cons_zero, Act.put, List.setIfInBounds_toArray, List.set_cons_zero, List.set_cons_succ]
        refine wpAnyH_take (i := 10) (v := .bool false) rfl (by kernel_rfl) (by kernel_rfl) (by kernel_rfl) (fun _ _ _ h => h) (Or.inl ⟨by rfl, fun w hSw => by obtain ⟨hS1, hS2⟩ := hSw; go_simp⟩) (by assumption) ?_
        simp only [List.getElem_toArray, List.getElem_cons_succ, List.getElem_cons_zero, Act.put, List.setIfInBounds_toArray, List.set_cons_zero, List.set_cons_succ]
        refine wpAnyH_done (by kernel_rfl) ?_ _
        go_wp2
        go_roundw
        case rel => exact ⟨k + 1, by omega, by go_num, HB.out.trans (hb3.mono hsb)⟩
        case measure => simp [intOf]; omega
      · have HB := hide hb
        clear hb
        go_wp2
        go_ret
        exact ⟨rfl, HB1.out.trans (HB.out.mono hsz1)⟩
  · have hd1 : decide (0 ≤ x) = true := by simpa using hx
    have hd2 : decide (x < (m : Int)) = false := by simpa using hx2
    subst hf
    clear hx hx2
    go_enter Try.func20, Try.ntmps20
    go_wp2_with fail
    refine (unhide HIM).mono ?_
    rintro e w1 ⟨v1, rfl, hI, hb1⟩
    have hBB := hI.isBB (by rw [HNL.out]; exact hhi)
    obtain ⟨a1, c1, rfl, hl1, hc1, hcell⟩ := hBB
    rw [HNL.out] at hl1
    have HCE : Hid (0 < n → ∃ b o, a1 = some ⟨b, o, none⟩ ∧ ∀ j, j < n → ∃ u, w1.cell? ⟨b, o + j, none⟩ = some u ∧ IsB w1 u (D.la.getD j [])) := by rw [HNL.out] at hcell; exact hcell
    have HB1 := hide hb1
    have hsz1 := hb1.size
    rw [HNL.out]
    clear hI hb1 hcell HIM
    go_wp2
    go_loopw [11] (fun iv wr => ∃ k : Nat, k ≤ n ∧ iv = .int .i64 (k : Int) ∧ Below w1.heap.size w1 wr) (fun iv _ => n - (intOf iv).toNat)
    case atStart => exact ⟨0, by omega, rfl, Below.refl _ _⟩
    case round =>
      obtain ⟨k, hk, rfl, hb⟩ := hrel
      by_cases hlt : k < n
      · obtain ⟨b, o, rfl, hcs⟩ := unhide HCE (by omega)
        obtain ⟨u, hcu, hIu⟩ := hcs k hlt
        obtain ⟨ua, un, uc, rfl⟩ := hIu.shape
        have hbw := World.block_lt_of_cell? w1 _ hcu
        have hsb := hb.size
        have HLAST : Hid (∀ W, Below wr.heap.size wr W → Calls Try.prog 42 #[.slice va m vc, .int .i64 (k : Int), .int .i64 (0 : Int)] W fun e w' => ∃ u, e = .returned u ∧ IsB w' u (D.la.getD k []) ∧ Below wr.heap.size wr w') := fun W hW => by
          have := last_calls (i := k) (((HW.out.below HB1.out).below hb).below hW) (f := 0) (by rw [HM.out]; exact HFL.out)
          rw [← unhide HN k hlt] at this
          exact this.mono fun e w' ⟨u, h1, h2, h3⟩ => ⟨u, h1, h2, hW.trans (h3.mono hW.size)⟩
        have HSS : Hid (∀ W, Below wr.heap.size wr W → W.cell? ⟨b, o + k, none⟩ = some (.slice ua un uc) ∧ (convert 27 9 (.slice ua un uc)).run Try.prog W = .ok (.string (mkS (D.la.getD k []))) W) := fun W hW =>
          ⟨(hW.cell (p := ⟨b, o + k, none⟩) (by show b < _; exact Nat.lt_of_lt_of_le hbw hb.size)).trans ((hb.cell (p := ⟨b, o + k, none⟩) hbw).trans hcu), conv_isB ((hIu.below hb).below hW)⟩
        have HCV2 : Hid (∀ W u, IsB W u (D.la.getD k []) → (convert 27 9 u).run Try.prog W = .ok (.string (mkS (D.la.getD k []))) W) := fun W u hu => conv_isB hu
        have HB := hide hb
        clear hcs hcu hIu hb
        generalize D.la.getD k [] = sec at *
        generalize mkS sec = st at *
        go_wp2_with fail
        refine wp_region_held_drew (S := fun W => W.cell? ⟨b, o + k, none⟩ = some (.slice ua un uc) ∧ (convert 27 9 (.slice ua un uc)).run Try.prog W = .ok (.string st) W) (by kernel_rfl) (unhide HSS _ (Below.refl _ _).drew) (fun hHeld => ?_)
        refine wpAnyH_take (i := 0) (v := .slice (some ⟨b, o, none⟩) n c1) rfl (by kernel_rfl) (by kernel_rfl) (by kernel_rfl) (fun _ _ _ h => h) (Or.inl ⟨by rfl, fun w hSw => by obtain ⟨hS1, hS2⟩ := hSw; go_simp⟩) (by assumption) ?_
        simp only [List.getElem_toArray, List.getElem_cons_zero, Act.put, List.setIfInBounds_toArray, List.set_cons_zero, List.set_cons_succ]
        refine wpAnyH_take (i := 1) (v := .int .i64 (k : Int)) rfl (by kernel_rfl) (by kernel_rfl) (by kernel_rfl) (fun _ _ _ h => h) (Or.inl ⟨by rfl, fun w hSw => by obtain ⟨hS1, hS2⟩ := hSw; go_simp⟩) (by assumption) ?_
        simp only [List.getElem_toArray, List.getElem_cons_succ, List.getElem_cons_zero, Act.put, List.setIfInBounds_toArray, List.set_cons_zero, List.set_cons_succ]
        refine wpAnyH_take (i := 2) (v := .pointer (some ⟨b, o + k, none⟩)) rfl (by kernel_rfl) (by kernel_rfl) (by kernel_rfl) (fun _ _ _ h => h) (Or.inl ⟨by rfl, fun w hSw => by obtain ⟨hS1, hS2⟩ := hSw; go_simp⟩) (by assumption) ?_
        simp only [List.getElem_toArray, List.getElem_cons_succ, List.getElem_cons_zero, Act.put, List.setIfInBounds_toArray, List.set_cons_zero, List.set_cons_succ]
        refine wpAnyH_take (i := 3) (v := .slice ua un uc) rfl (by kernel_rfl) (by kernel_rfl) (by kernel_rfl) (fun _ _ _ h => h) (Or.inl ⟨by rfl, fun w hSw => by obtain ⟨hS1, hS2⟩ := hSw; go_simp⟩) (by assumption) ?_
        simp only [List.getElem_toArray, List.getElem_cons_succ, List.getElem_cons_zero, Act.put, List.setIfInBounds_toArray, List.set_cons_zero, List.set_cons_succ]
        refine wpAnyH_take (i := 4) (v := .string st) rfl (by kernel_rfl) (by kernel_rfl) (by kernel_rfl) (fun _ _ _ h => h) (Or.inl ⟨by rfl, fun w hSw => by obtain ⟨hS1, hS2⟩ := hSw; go_simp⟩) (by assumption) ?_
        simp only [List.getElem_toArray, List.getElem_cons_succ, List.getElem_cons_zero, Act.put, List.setIfInBounds_toArray, List.set_cons_zero, List.set_cons_succ]
        refine wpAnyH_take (i := 5) (v := .slice va m vc) rfl (by kernel_rfl) (by kernel_rfl) (by kernel_rfl) (fun _ _ _ h => h) (Or.inl ⟨by rfl, fun w hSw => by obtain ⟨hS1, hS2⟩ := hSw; go_simp⟩) (by assumption) ?_
        simp only [List.getElem_toArray, List.getElem_cons_succ, List.getElem_cons_zero, Act.put, List.setIfInBounds_toArray, List.set_cons_zero, List.set_cons_succ]
        refine wpAnyH_take (i := 6) (v := .int .i64 (k : Int)) rfl (by kernel_rfl) (by kernel_rfl) (by kernel_rfl) (fun _ _ _ h => h) (Or.inl ⟨by rfl, fun w hSw => by obtain ⟨hS1, hS2⟩ := hSw; go_simp⟩) (by assumption) ?_
        simp only [List.getElem_toArray, List.getElem_cons_succ, List.getElem_cons_zero, Act.put, List.setIfInBounds_toArray, List.set_cons_zero, List.set_cons_succ]
        refine wpAnyH_take (i := 7) (v := .int .i64 (0 : Int)) rfl (by kernel_rfl) (by kernel_rfl) (by kernel_rfl) (fun _ _ _ h => h) (Or.inl ⟨by rfl, fun w hSw => by obtain ⟨hS1, hS2⟩ := hSw; go_simp⟩) (by assumption) ?_
        simp only [List.getElem_toArray, List.getElem_cons_succ, List.getElem_cons_zero, Act.put, List.setIfInBounds_toArray, List.set_cons_zero, List.set_cons_succ]
        refine wpAnyH_ready (rs := [8]) (by kernel_rfl) (by simp) (AllReadyH.cons rfl (fun K hK => ?_) AllReadyH.nil)
        refine step_call3Gd (by rfl) 42 last_enter (.tmp 38) (.tmp 39) (.tmp 40) _ rfl rfl rfl rfl (unhide HLAST _ (Below.refl _ _).drew) ?_
        rintro e w3 ⟨u3, rfl, hI3, hb3⟩
        obtain ⟨a3, n3, c3, rfl⟩ := hI3.shape
        have hcv3 := unhide HCV2 _ _ hI3
        refine ⟨_, rfl, ?_⟩
        refine hK.out _ _ (unhide HSS _ hb3) (fun hHeld2 => ?_)
        clear hK K
        simp only [List.getElem_toArray, List.getElem_cons_succ, List.getElem_cons_zero, Act.put, List.setIfInBounds_toArray, List.set_cons_zero, List.set_cons_succ]
        refine wpAnyH_ready (rs := [9]) (by kernel_rfl) (by simp) (AllReadyH.cons rfl (fun K hK => ?_) AllReadyH.nil)
        refine step_conv (by rfl) (.tmp 41) rfl rfl hcv3 ?_
        refine hK.out _ _ (hHeld2) (fun hHeld3 => ?_)
        clear hK K
        simp only [List.getElem_toArray, List.getElem_cons_succ, List.getElem_cons_zero, Act.put, List.setIfInBounds_toArray, List.set_cons_zero, List.set_cons_succ]
        refine wpAnyH_take (i := 10) (v := .bool false) rfl (by kernel_rfl) (by kernel_rfl) (by kernel_rfl) (fun _ _ _ h => h) (Or.inl ⟨by rfl, fun w hSw => by obtain ⟨hS1, hS2⟩ := hSw; go_simp⟩) (by assumption) ?_
        simp only [List.getElem_toArray, List.getElem_cons_succ, List.getElem_cons_zero, Act.put, List.setIfInBounds_toArray, List.set_cons_zero, List.set_cons_succ]
        refine wpAnyH_done (by kernel_rfl) ?_ _
        go_wp2
        go_roundw
        case rel => exact ⟨k + 1, by omega, by go_num, HB.out.trans (hb3.mono hsb)⟩
        case measure => simp [intOf]; omega
      · have HB := hide hb
        clear hb
        go_wp2
        go_ret
        exact ⟨rfl, HB1.out.trans (HB.out.mono hsz1)⟩
end Go.Proofs.Ytfgjhlnaaopdeaa
