/- tells: what Read tells of each sector. -/
import Derived.Test.YtfgjhlnaaopdeabOtC
import Derived.Test.YtfgjhlnaaopdeabStG
namespace Go.Proofs.Ytfgjhlnaaopdeab
open Go.RowKit Go.Maps

theorem IsWs.dk {F : Nat → Prop} {w w' : World} {v : Value} {l : Ats} {p gl gm : Nat} {V : Nat → Value} {D : AD} (hW : IsWs w v l) (h : Dk w p gl gm V D) (hu : Up F w w') (hF : ∀ b, F b → Ft p gl gm V b) : IsWs w' v l :=
  hW.tm hu (fun b hb => h.tm b (hF b hb))
def AD.reads (D : AD) (k : Nat) : AD := { D with rd := D.rd + (k : Int) }
theorem reads_zero (D : AD) : D.reads 0 = D := by unfold AD.reads; simp
theorem reads_read (D : AD) (k : Nat) : (D.reads k).read = D.reads (k + 1) := by
  unfold AD.reads AD.read
  simp only [AD.mk.injEq, true_and, and_true]
  omega
theorem last_enter (v u z : Value) (W : World) : (callFunc 36 #[v, u, z]).run Try.prog W = .ok (.enter 36 #[v, u, z]) W := by kernel_rfl
set_option maxRecDepth 100000 in
set_option maxHeartbeats 2000000 in
theorem tells_calls {w : World} {p gl gm n f : Nat} {V : Nat → Value} {D : AD} {v : Value} {l : Ats} (h : Dk w p gl gm V D) (hW : IsWs w v l) (hf : f ≤ l.length) (hn : D.la.length = n) (hN : Nw D (l.take f)) (hr0 : 0 ≤ D.rd) (hr1 : D.rd ≤ 576460752303423488) :
    Calls Try.prog 15 #[.pointer (some ⟨p, 0, none⟩), .int .i64 (n : Int), v, .int .i64 (f : Int)] w fun e w' => e = .returned (.bool true) ∧ Dk w' p gl gm V (D.reads n) ∧ Up (fun b => b = p) w w' := by
  have hhi := h.ok.hi
  obtain ⟨va, vc, rfl, _⟩ := hW.shape
  have HD := hide h
  have HN := hide hN
  have HNL := hide hn
  have HWS : Hid (∀ W, Up (fun b => b = p) w W → IsWs W (.slice va l.length vc) l) := fun W hU => hW.dk h hU (fun b hb => Or.inl hb)
  have HF := hide hf
  have HSEC : Hid (∀ i, i < n → IsSec (D.now i)) := fun i hi => h.ok.now (by omega)
  have hp0 : p < w.heap.size := h.blk.lt
  clear h hW hN
  rw [hn] at hhi
  clear hn
  generalize hm : l.length = m at *
  have HM := hide hm
  clear hm
  go_enter Try.func15, Try.ntmps15
  go_wp2
  go_loopw [9] (fun iv wr => ∃ k : Nat, k ≤ n ∧ iv = .int .i64 (k : Int) ∧ Dk wr p gl gm V (D.reads k) ∧ Up (fun b => b = p) w wr) (fun iv _ => n - (intOf iv).toNat)
  case atStart => exact ⟨0, by omega, rfl, by rw [reads_zero]; exact HD.out, Up.refl _ _⟩
  case round =>
    obtain ⟨k, hk, rfl, hD, hU⟩ := hrel
    by_cases hlt : k < n
    · have hkl : k < (D.reads k).la.length := by show k < D.la.length; rw [HNL.out]; exact hlt
      have HR := hide (read_calls hD hkl (by show 0 ≤ D.rd + (k : Int); omega) (by show D.rd + (k : Int) ≤ _; omega))
      have HU := hide hU
      have hwp : p < wr.heap.size := hD.blk.lt
      have hsz := hU.size
      clear hD hU hkl
      go_wp2_with fail
      refine (unhide HR).mono ?_
      rintro e w1 ⟨g, rfl, hgw, hA, hD1, hg1⟩
      have hU1 : Up (fun b => b = p) w w1 := HU.out.trans (F' := fun b => b = p) (Up.of_grown hg1 (fun g hg => by injection hg with hg; exact hg.symm)) (fun _ h => Or.inl h)
      rw [reads_read] at hD1
      have hsec := unhide HSEC k hlt
      have hA' : Arr w1 g 77 (u8V (D.now k)) := hA
      have hI := isB_arrS hA' hsec
      have hw := unhide HWS w1 hU1
      have HLAST : Hid (∀ W, Below w1.heap.size w1 W → Calls Try.prog 36 #[.slice va m vc, .int .i64 (k : Int), .int .i64 (f : Int)] W fun e w' => ∃ u, e = .returned u ∧ IsB w' u (D.now k) ∧ Below w1.heap.size w1 w') := fun W hW => by
        have := last_calls (i := k) (hw.below hW) (f := f) (by rw [HM.out]; exact hf)
        rw [← unhide HN k (by rw [HNL.out]; exact hlt)] at this
        exact this.mono fun e w' ⟨u, h1, h2, h3⟩ => ⟨u, h1, h2, hW.trans (h3.mono hW.size)⟩
      have HCV : Hid (∀ W, Below w1.heap.size w1 W → (convert 23 9 (.slice (some ⟨g, 0, none⟩) 512 512)).run Try.prog W = .ok (.string (mkS (D.now k))) W) := fun W hW => conv_isB (hI.below hW)
      have HCV2 : Hid (∀ W u, IsB W u (D.now k) → (convert 23 9 u).run Try.prog W = .ok (.string (mkS (D.now k))) W) := fun W u hu => conv_isB hu
      have HD1 := hide hD1
      have HU1 := hide hU1
      clear HR hA hA' hI hw hD1 hU1 hg1 hsec HU
      generalize D.now k = sec at *
      generalize mkS sec = st at *
      go_wp2_with fail
      refine wp_region_held_drew (S := fun W => (convert 23 9 (.slice (some ⟨g, 0, none⟩) 512 512)).run Try.prog W = .ok (.string st) W) (by kernel_rfl) (unhide HCV _ (Below.refl _ _).drew) (fun hHeld => ?_)
      refine wpAnyH_take (i := 0) (v := .int .i64 0) rfl (by kernel_rfl) (by kernel_rfl) (by kernel_rfl) (fun _ _ _ h => h) (Or.inl ⟨by rfl, fun w hSw => by go_simp⟩) (by assumption) ?_
      simp only [List.getElem_toArray, List.getElem_cons_zero, Act.put, List.setIfInBounds_toArray, List.set_cons_zero, List.set_cons_succ]
      refine wpAnyH_take (i := 1) (v := .bool false) rfl (by kernel_rfl) (by kernel_rfl) (by kernel_rfl) (fun _ _ _ h => h) (Or.inl ⟨by rfl, fun w hSw => by go_simp⟩) (by assumption) ?_
      simp only [List.getElem_toArray, List.getElem_cons_succ, List.getElem_cons_zero, Act.put, List.setIfInBounds_toArray, List.set_cons_zero, List.set_cons_succ]
      refine wpAnyH_take (i := 2) (v := .bool false) rfl (by kernel_rfl) (by kernel_rfl) (by kernel_rfl) (fun _ _ _ h => h) (Or.inl ⟨by rfl, fun w hSw => by go_simp⟩) (by assumption) ?_
      simp only [List.getElem_toArray, List.getElem_cons_succ, List.getElem_cons_zero, Act.put, List.setIfInBounds_toArray, List.set_cons_zero, List.set_cons_succ]
      refine wpAnyH_take (i := 3) (v := .slice (some ⟨g, 0, none⟩) 512 512) rfl (by kernel_rfl) (by kernel_rfl) (by kernel_rfl) (fun _ _ _ h => h) (Or.inl ⟨by rfl, fun w hSw => by go_simp⟩) (by assumption) ?_
      simp only [List.getElem_toArray, List.getElem_cons_succ, List.getElem_cons_zero, Act.put, List.setIfInBounds_toArray, List.set_cons_zero, List.set_cons_succ]
      refine wpAnyH_take (i := 4) (v := .string st) rfl (by kernel_rfl) (by kernel_rfl) (by kernel_rfl) (fun _ _ _ h => h) (Or.inl ⟨by rfl, fun w hSw => by go_simp⟩) (by assumption) ?_
      simp only [List.getElem_toArray, List.getElem_cons_succ, List.getElem_cons_zero, Act.put, List.setIfInBounds_toArray, List.set_cons_zero, List.set_cons_succ]
      refine wpAnyH_take (i := 5) (v := .slice va m vc) rfl (by kernel_rfl) (by kernel_rfl) (by kernel_rfl) (fun _ _ _ h => h) (Or.inl ⟨by rfl, fun w hSw => by go_simp⟩) (by assumption) ?_
      simp only [List.getElem_toArray, List.getElem_cons_succ, List.getElem_cons_zero, Act.put, List.setIfInBounds_toArray, List.set_cons_zero, List.set_cons_succ]
      refine wpAnyH_take (i := 6) (v := .int .i64 (k : Int)) rfl (by kernel_rfl) (by kernel_rfl) (by kernel_rfl) (fun _ _ _ h => h) (Or.inl ⟨by rfl, fun w hSw => by go_simp⟩) (by assumption) ?_
      simp only [List.getElem_toArray, List.getElem_cons_succ, List.getElem_cons_zero, Act.put, List.setIfInBounds_toArray, List.set_cons_zero, List.set_cons_succ]
      refine wpAnyH_take (i := 7) (v := .int .i64 (f : Int)) rfl (by kernel_rfl) (by kernel_rfl) (by kernel_rfl) (fun _ _ _ h => h) (Or.inl ⟨by rfl, fun w hSw => by go_simp⟩) (by assumption) ?_
      simp only [List.getElem_toArray, List.getElem_cons_succ, List.getElem_cons_zero, Act.put, List.setIfInBounds_toArray, List.set_cons_zero, List.set_cons_succ]
      refine wpAnyH_ready (rs := [8]) (by kernel_rfl) (by simp) (AllReadyH.cons rfl (fun K hK => ?_) AllReadyH.nil)
      refine step_call3Gd (by rfl) 36 last_enter (.tmp 28) (.tmp 29) (.tmp 30) _ rfl rfl rfl rfl (unhide HLAST _ (Below.refl _ _).drew) ?_
      rintro e w3 ⟨u3, rfl, hI3, hb3⟩
      obtain ⟨a3, n3, c3, rfl⟩ := hI3.shape
      have hcv3 := unhide HCV2 _ _ hI3
      refine ⟨_, rfl, ?_⟩
      refine hK.out _ _ (unhide HCV _ hb3) (fun hHeld2 => ?_)
      clear hK K
      simp only [List.getElem_toArray, List.getElem_cons_succ, List.getElem_cons_zero, Act.put, List.setIfInBounds_toArray, List.set_cons_zero, List.set_cons_succ]
      refine wpAnyH_ready (rs := [9]) (by kernel_rfl) (by simp) (AllReadyH.cons rfl (fun K hK => ?_) AllReadyH.nil)
      refine step_conv (by rfl) (.tmp 31) rfl rfl hcv3 ?_
      refine hK.out _ _ (hHeld2) (fun hHeld3 => ?_)
      clear hK K
      simp only [List.getElem_toArray, List.getElem_cons_succ, List.getElem_cons_zero, Act.put, List.setIfInBounds_toArray, List.set_cons_zero, List.set_cons_succ]
      refine wpAnyH_take (i := 10) (v := .bool false) rfl (by kernel_rfl) (by kernel_rfl) (by kernel_rfl) (fun _ _ _ h => h) (Or.inl ⟨by rfl, fun w hSw => by go_simp⟩) (by assumption) ?_
      simp only [List.getElem_toArray, List.getElem_cons_succ, List.getElem_cons_zero, Act.put, List.setIfInBounds_toArray, List.set_cons_zero, List.set_cons_succ]
      refine wpAnyH_take (i := 11) (v := .bool false) rfl (by kernel_rfl) (by kernel_rfl) (by kernel_rfl) (fun _ _ _ h => h) (Or.inl ⟨by rfl, fun w hSw => by go_simp⟩) (by assumption) ?_
      simp only [List.getElem_toArray, List.getElem_cons_succ, List.getElem_cons_zero, Act.put, List.setIfInBounds_toArray, List.set_cons_zero, List.set_cons_succ]
      refine wpAnyH_done (by kernel_rfl) ?_ _
      go_wp2
      go_roundw
      case rel => exact ⟨k + 1, by omega, by go_num, HD1.out.below hb3, HU1.out.then_below hb3⟩
      case measure => simp [intOf]; omega
    · have hkn : k = n := by omega
      have HK := hide hkn
      have HDD : Hid (Dk wr p gl gm V (D.reads n)) := hide (by rw [← hkn]; exact hD)
      have HU := hide hU
      clear hkn hD hU
      go_wp2
      go_ret
      exact ⟨rfl, HDD.out, HU.out⟩
end Go.Proofs.Ytfgjhlnaaopdeab
