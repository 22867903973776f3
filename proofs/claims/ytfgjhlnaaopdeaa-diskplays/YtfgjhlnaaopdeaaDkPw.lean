/- DiskPlays, walked whole. -/
import Derived.Test.YtfgjhlnaaopdeaaDkPl
namespace Go.Proofs.Ytfgjhlnaaopdeaa
open Go.RowKit Go.Maps

theorem infoOpD : (Try.prog.info? 30).map (·.size) = some 6 := by kernel_rfl
/-- A script that is handed in. -/
structure IsOpsD (w : World) (v : Value) (os : List OpD) : Prop where
  val : ∃ a cap, v = .slice a os.length cap ∧ os.length ≤ cap ∧ cap ≤ 9223372036854775807 ∧ (0 < os.length → ∃ b off, a = some ⟨b, off, none⟩ ∧ b < w.heap.size ∧
    ∀ j, j < os.length → w.rangeAt b (off + j * 6) (os.getD j .nul).cells)
  each : ∀ j, j < os.length → (os.getD j .nul).ok w
section
variable {ops : Array Oper} {o : Oper} {a : Act} {w : World} {K : Act → World → Prop} {Q : Exit → Act → World → Prop} {E : Prop}
theorem load33_run {W : World} {ad : Addr} {v : Value} (h : W.cell? ad = some v) : (Instr.loadAt 33 (.pointer (some ad))).run Try.prog W = .ok v W := by
  have hu := Try.underlying33
  go_simp
theorem step_load33 (hw : Region.wanted o (yielded ops a.tmps) = true) (x : Operand) (ho : o.op = .load 33 x) {ad : Addr} {v : Value} (hx : a.eval x = .pointer (some ad)) (hc : w.cell? ad = some v) (hk : K (a.put o.dst v) w) : if Region.wanted o (yielded ops a.tmps) = true then Oper.wp Try.prog o a w K Q else E := by
  rw [if_pos hw]
  unfold Oper.wp execOp
  simp only [ho, hx, Sem.run_bind, load33_run hc, Result.andThen_ok, Sem.run_pure]
  exact hk
end
/-- Behind k of the calls. -/
def Ply (w wr : World) (k g n : Nat) : Prop := ∃ p gl gm V D R, Pr wr g p gl gm V D R ∧ Bp k D R ∧ D.la.length = n ∧ (∀ b, Fp g p gl gm V b → w.heap.size ≤ b) ∧ Below w.heap.size w wr
theorem ply_acts {w wr : World} {k g n : Nat} (h : Ply w wr k g n) : ∃ p ra rb rc, wr.cell? ⟨g, 0, none⟩ = some (.pointer (some ⟨p, 0, none⟩)) ∧ wr.rangeAt g 4 [.int .i64 ra, .int .i64 rb, .int .i64 rc] ∧ g < wr.heap.size ∧
    Calls Try.prog 11 #[.pointer (some ⟨p, 0, none⟩)] wr fun e w' => e = .returned (.agg #[.int .i64 ra, .int .i64 rb, .int .i64 rc]) ∧ Below wr.heap.size wr w' := by
  obtain ⟨p, gl, gm, V, D, R, hP, hB, hl, hF, hb⟩ := h
  obtain ⟨a1, n1, c1, a2, n2, c2, hG, _, _⟩ := hP.blk
  obtain ⟨d0, d1, d2, d3, d4⟩ := hP.dk.cells
  refine ⟨p, D.rd, D.wt, D.fl, hG.cell_of (j := 0) rfl, fun j v hv => ?_, hG.lt, acts_calls d2 d3 d4⟩
  have hr := hP.rel
  rw [hr.rd, hr.wt, hr.fl] at hG
  refine hG.cell_of (j := 4 + j) ?_
  match j, hv with
  | 0, hv => exact hv
  | 1, hv => exact hv
  | 2, hv => exact hv
theorem Ply.below {w wr w' : World} {k g n : Nat} (h : Ply w wr k g n) (hb : Below wr.heap.size wr w') : Ply w w' k g n := by
  obtain ⟨p, gl, gm, V, D, R, hP, hB, hl, hF, hbw⟩ := h
  exact ⟨p, gl, gm, V, D, R, hP.below hb, hB, hl, hF, hbw.trans (hb.mono hbw.size)⟩
theorem ply_does {w wr : World} {k g n : Nat} {o : OpD} (h : Ply w wr k g n) (hk : k ≤ 200) (hn : n ≤ 64) (hok : o.ok w) (hfar : ∀ b, Value.inBlock o.vf b → b < w.heap.size) {W : World} (hW : Below wr.heap.size wr W) :
    Calls Try.prog 10 #[.pointer (some ⟨g, 0, none⟩), .agg o.cells.toArray] W fun e w' => e = .returned (.bool true) ∧ Ply w w' (k + 1) g n := by
  obtain ⟨p, gl, gm, V, D, R, hP, hB, hl, hF, hbw⟩ := h.below hW
  refine (does_any hP hB hk (by omega) (hok.below hbw) (fun b hb hFb => by have := hfar b hb; have := hF b hFb; omega)).mono ?_
  rintro e w' ⟨rfl, p', gl', gm', V', D', R', hP', hB', hl', hft, hU⟩
  have hs := hbw.size
  refine ⟨rfl, p', gl', gm', V', D', R', hP', hB', by omega, fun b hb => ?_, hbw.trans (hU.below hs (fun x hx => hF x hx))⟩
  rcases hb with rfl | hb
  · exact hF _ (Or.inl rfl)
  · rcases hft b hb with hb | hb
    · exact hF b (Or.inr hb)
    · omega
theorem opd_far {w : World} {o : OpD} (h : o.ok w) : ∀ b, Value.inBlock o.vf b → b < w.heap.size := by
  rintro b ⟨off, n, c, hv, hn⟩
  obtain ⟨_, a, cap, hv2, _, _, hc⟩ := h.f
  rw [hv] at hv2
  injection hv2 with e1 e2 e3
  obtain ⟨b2, off2, ha, hcell⟩ := hc (by omega)
  rw [ha] at e1
  injection e1 with e1
  injection e1 with e1
  subst e1
  exact World.block_lt_of_cell? w _ (hcell 0 (by omega))
set_option maxRecDepth 100000 in
set_option maxHeartbeats 4000000 in
theorem plays_walk {w : World} {v : Value} {os : List OpD} (x : Int) (h : IsOpsD w v os) :
    Calls Try.prog 3 #[.int .i64 x, v] w fun e w' => e = .returned (.bool true) ∧ Below w.heap.size w w' := by
  obtain ⟨va, vc, rfl, hlc, hcm, hcells⟩ := h.val
  have HC := hide hcells
  have HE := hide h.each
  clear h hcells
  by_cases hx : x < 2 ∨ 65536 < x
  · have HS := hide (started_bad (w := w) hx)
    clear hx
    generalize os.length = m at *
    go_enter Try.func3, Try.ntmps3
    go_wp2_with fail
    refine (unhide HS).mono ?_
    rintro e w1 ⟨rfl, hb⟩
    go_wp2
    go_ret
    exact ⟨rfl, hb⟩
  · obtain ⟨n, rfl⟩ := Int.eq_ofNat_of_zero_le (show 0 ≤ x by omega)
    have HS := hide (started_good (w := w) (n := n) (by omega) (by omega))
    by_cases h40 : n ≤ 40
    · have hn2 : 2 ≤ n := by omega
      have hd40 : decide (40 < (n : Int)) = false := by simp; omega
      clear hx
      generalize hm : os.length = m at *
      have HM := hide hm
      clear hm
      go_enter Try.func3, Try.ntmps3
      go_wp2_with fail
      refine (unhide HS).mono ?_
      rintro e w1 ⟨g, p, gl, gm, V, rfl, hP, hBn⟩
      have HT : Hid (Ply w w1 0 g n) := ⟨p, gl, gm, V, _, _, hP, ⟨⟨Int.le_refl _, Int.le_refl _⟩, ⟨Int.le_refl _, Int.le_refl _⟩, ⟨Int.le_refl _, Int.le_refl _⟩, fun _ => Nat.le_refl _, Nat.le_refl _, Nat.zero_le _⟩, by simp [zeroD], hBn.fp, hBn.b⟩
      clear HS hP hBn
      go_wp2
      go_loopw [7] (fun iv wr => ∃ k : Nat, k ≤ m ∧ k ≤ 100 ∧ iv = .int .i64 (k : Int) ∧ Hid (Ply w wr k g n)) (fun iv _ => m - (intOf iv).toNat)
      case atStart => exact ⟨0, by omega, by omega, rfl, HT⟩
      case round =>
        clear HT
        obtain ⟨k, hk, hk1, rfl, HT⟩ := hrel
        by_cases hlt : k < m
        · by_cases hlt2 : k < 100
          · have hd1 : decide ((k : Int) < (m : Int)) = true := by simpa using hlt
            have hd2 : decide ((k : Int) < 100) = true := by simp; omega
            obtain ⟨b, off, rfl, hbw, hrg⟩ := unhide HC (by omega)
            have hok := unhide HE k hlt
            have hbel : Below w.heap.size w wr := by obtain ⟨_, _, _, _, _, _, _, _, _, _, hb⟩ := HT.out; exact hb
            have hrgk := hrg k hlt
            have HDO : Hid (∀ W, Below wr.heap.size wr W → Calls Try.prog 10 #[.pointer (some ⟨g, 0, none⟩), .agg (os.getD k .nul).cells.toArray] W fun e w' => e = .returned (.bool true) ∧ Ply w w' (k + 1) g n) := fun W hW => ply_does HT.out (by omega) (by omega) hok (opd_far hok) hW
            have HSS : Hid (∀ W, Below w.heap.size w W → W.rangeAt b (off + k * 6) (os.getD k .nul).cells) := fun W hW => range_of_block hrgk (hW.block b hbw)
            have hcl : (os.getD k .nul).cells.length = 6 := rfl
            have hinf : (Try.prog.info? 30).map (·.size) = some (os.getD k .nul).cells.length := by rw [hcl]; exact infoOpD
            have hund := Try.underlying30
            have hund2 := Try.underlying32
            have HB := hide hbel
            clear hrg hrgk hok hbel HT hcl
            generalize (os.getD k .nul).cells = cs at *
            go_wp2_with fail
            refine wp_region_held_drew (S := fun W => W.rangeAt b (off + k * 6) cs) (by kernel_rfl) (unhide HSS _ HB.out.drew) (fun hHeld => ?_)
            refine wpAnyH_take (i := 0) (v := .pointer (some ⟨g, 0, none⟩)) rfl (by kernel_rfl) (by kernel_rfl) (by kernel_rfl) (fun _ _ _ h => h) (Or.inl ⟨by rfl, fun w hSw => by go_simp⟩) (by assumption) ?_
            simp only [List.getElem_toArray, List.getElem_cons_zero, Act.put, List.setIfInBounds_toArray, List.set_cons_zero, List.set_cons_succ]
            refine wpAnyH_take (i := 1) (v := .slice (some ⟨b, off, none⟩) m vc) rfl (by kernel_rfl) (by kernel_rfl) (by kernel_rfl) (fun _ _ _ h => h) (Or.inl ⟨by rfl, fun w hSw => by go_simp⟩) (by assumption) ?_
            simp only [List.getElem_toArray, List.getElem_cons_succ, List.getElem_cons_zero, Act.put, List.setIfInBounds_toArray, List.set_cons_zero, List.set_cons_succ]
            refine wpAnyH_take (i := 2) (v := .int .i64 (k : Int)) rfl (by kernel_rfl) (by kernel_rfl) (by kernel_rfl) (fun _ _ _ h => h) (Or.inl ⟨by rfl, fun w hSw => by go_simp⟩) (by assumption) ?_
            simp only [List.getElem_toArray, List.getElem_cons_succ, List.getElem_cons_zero, Act.put, List.setIfInBounds_toArray, List.set_cons_zero, List.set_cons_succ]
            refine wpAnyH_take (i := 3) (v := .pointer (some ⟨b, off + k * 6, none⟩)) rfl (by kernel_rfl) (by kernel_rfl) (by kernel_rfl) (fun _ _ _ h => h) (Or.inl ⟨by rfl, fun w hSw => by go_simp⟩) (by assumption) ?_
            simp only [List.getElem_toArray, List.getElem_cons_succ, List.getElem_cons_zero, Act.put, List.setIfInBounds_toArray, List.set_cons_zero, List.set_cons_succ]
            refine wpAnyH_take (i := 4) (v := .agg (cs).toArray) rfl (by kernel_rfl) (by kernel_rfl) (by kernel_rfl) (fun _ _ _ h => h) (yieldsIf_load_mid (by rfl) _ _ rfl _ _ rfl _ _ (fun w hSw => hSw) hund rfl hinf) (by assumption) ?_
            simp only [List.getElem_toArray, List.getElem_cons_succ, List.getElem_cons_zero, Act.put, List.setIfInBounds_toArray, List.set_cons_zero, List.set_cons_succ]
            refine wpAnyH_ready (rs := [5]) (by kernel_rfl) (by simp) (AllReadyH.cons rfl (fun K hK => ?_) AllReadyH.nil)
            refine step_call2Q rfl 10 does_enter (.tmp 30) (.tmp 34) _ rfl rfl rfl (unhide HDO _ (Below.refl _ _).drew) ?_
            rintro e w2 ⟨rfl, hT2⟩
            obtain ⟨p2, ra, rb, rc, hc0, hr4, hglt, hac⟩ := ply_acts hT2
            have hbel2 : Below w.heap.size w w2 := by obtain ⟨_, _, _, _, _, _, _, _, _, _, hb⟩ := hT2; exact hb
            have HT2 := hide hT2
            have HAC := hide hac
            clear hT2 hac
            refine ⟨_, rfl, ?_⟩
            refine hK.out _ _ (unhide HSS _ hbel2) (fun hHeld1 => ?_)
            clear hK K
            simp only [List.getElem_toArray, List.getElem_cons_succ, List.getElem_cons_zero, Act.put, List.setIfInBounds_toArray, List.set_cons_zero, List.set_cons_succ]
            refine wpAnyH_take (i := 6) (v := .bool false) rfl (by kernel_rfl) (by kernel_rfl) (by kernel_rfl) (fun _ _ _ h => h) (Or.inl ⟨by rfl, fun w hSw => by go_simp⟩) (by assumption) ?_
            simp only [List.getElem_toArray, List.getElem_cons_succ, List.getElem_cons_zero, Act.put, List.setIfInBounds_toArray, List.set_cons_zero, List.set_cons_succ]
            refine wpAnyH_take (i := 7) (v := .bool false) rfl (by kernel_rfl) (by kernel_rfl) (by kernel_rfl) (fun _ _ _ h => h) (Or.inl ⟨by rfl, fun w hSw => by go_simp⟩) (by assumption) ?_
            simp only [List.getElem_toArray, List.getElem_cons_succ, List.getElem_cons_zero, Act.put, List.setIfInBounds_toArray, List.set_cons_zero, List.set_cons_succ]
            refine wpAnyH_take (i := 8) (v := .pointer (some ⟨g, 0, none⟩)) rfl (by kernel_rfl) (by kernel_rfl) (by kernel_rfl) (fun _ _ _ h => h) (Or.inl ⟨by rfl, fun w hSw => by go_simp⟩) (by assumption) ?_
            simp only [List.getElem_toArray, List.getElem_cons_succ, List.getElem_cons_zero, Act.put, List.setIfInBounds_toArray, List.set_cons_zero, List.set_cons_succ]
            refine wpAnyH_take (i := 9) (v := .pointer (some ⟨g, 0, none⟩)) rfl (by kernel_rfl) (by kernel_rfl) (by kernel_rfl) (fun _ _ _ h => h) (Or.inl ⟨by rfl, fun w hSw => by go_simp⟩) (by assumption) ?_
            simp only [List.getElem_toArray, List.getElem_cons_succ, List.getElem_cons_zero, Act.put, List.setIfInBounds_toArray, List.set_cons_zero, List.set_cons_succ]
            refine wpAnyH_take (i := 10) (v := .pointer (some ⟨g, 0, none⟩)) rfl (by kernel_rfl) (by kernel_rfl) (by kernel_rfl) (fun _ _ _ h => h) (Or.inl ⟨by rfl, fun w hSw => by go_simp⟩) (by assumption) ?_
            simp only [List.getElem_toArray, List.getElem_cons_succ, List.getElem_cons_zero, Act.put, List.setIfInBounds_toArray, List.set_cons_zero, List.set_cons_succ]
            refine wpAnyH_take (i := 13) (v := .pointer (some ⟨g, 0, none⟩)) rfl (by kernel_rfl) (by kernel_rfl) (by kernel_rfl) (fun _ _ _ h => h) (Or.inl ⟨by rfl, fun w hSw => by go_simp⟩) (by assumption) ?_
            simp only [List.getElem_toArray, List.getElem_cons_succ, List.getElem_cons_zero, Act.put, List.setIfInBounds_toArray, List.set_cons_zero, List.set_cons_succ]
            refine wpAnyH_take (i := 14) (v := .pointer (some ⟨g, 0, none⟩)) rfl (by kernel_rfl) (by kernel_rfl) (by kernel_rfl) (fun _ _ _ h => h) (Or.inl ⟨by rfl, fun w hSw => by go_simp⟩) (by assumption) ?_
            simp only [List.getElem_toArray, List.getElem_cons_succ, List.getElem_cons_zero, Act.put, List.setIfInBounds_toArray, List.set_cons_zero, List.set_cons_succ]
            refine wpAnyH_take (i := 15) (v := .pointer (some ⟨g, 1, none⟩)) rfl (by kernel_rfl) (by kernel_rfl) (by kernel_rfl) (fun _ _ _ h => h) (Or.inl ⟨by rfl, fun w hSw => by go_simp⟩) (by assumption) ?_
            simp only [List.getElem_toArray, List.getElem_cons_succ, List.getElem_cons_zero, Act.put, List.setIfInBounds_toArray, List.set_cons_zero, List.set_cons_succ]
            refine wpAnyH_take (i := 16) (v := .pointer (some ⟨g, 4, none⟩)) rfl (by kernel_rfl) (by kernel_rfl) (by kernel_rfl) (fun _ _ _ h => h) (Or.inl ⟨by rfl, fun w hSw => by go_simp⟩) (by assumption) ?_
            simp only [List.getElem_toArray, List.getElem_cons_succ, List.getElem_cons_zero, Act.put, List.setIfInBounds_toArray, List.set_cons_zero, List.set_cons_succ]
            refine wpAnyH_ready (rs := [11, 17]) (by kernel_rfl) (by simp) (AllReadyH.cons rfl (fun K hK => ?_) (AllReadyH.cons rfl (fun K hK => ?_) AllReadyH.nil))
            · refine step_load33 (by rfl) (.tmp 40) rfl rfl hc0 ?_
              refine hK.out _ _ (unhide HSS _ hbel2) (fun hHeld2 => ?_)
              clear hK K
              simp only [List.getElem_toArray, List.getElem_cons_succ, List.getElem_cons_zero, Act.put, List.setIfInBounds_toArray, List.set_cons_zero, List.set_cons_succ]
              refine wpAnyH_ready (rs := [12, 17]) (by kernel_rfl) (by simp) (AllReadyH.cons rfl (fun K hK => ?_) (AllReadyH.cons rfl (fun K hK => ?_) AllReadyH.nil))
              · refine step_call1Gd (by rfl) 11 acts_enter (.tmp 41) _ rfl rfl (unhide HAC) ?_
                rintro e w3 ⟨rfl, hb3⟩
                have hbel3 := hbel2.trans (hb3.mono hbel2.size)
                have HT3 := hide (HT2.out.below hb3)
                refine ⟨_, rfl, ?_⟩
                refine hK.out _ _ (unhide HSS _ hbel3) (fun hHeld4 => ?_)
                clear hK K
                simp only [List.getElem_toArray, List.getElem_cons_succ, List.getElem_cons_zero, Act.put, List.setIfInBounds_toArray, List.set_cons_zero, List.set_cons_succ]
                refine wpAnyH_ready (rs := [17]) (by kernel_rfl) (by simp) (AllReadyH.cons rfl (fun K hK => ?_) AllReadyH.nil)
                refine step_loadGd (by rfl) (.tmp 46) 32 rfl rfl (cs := [.int .i64 ra, .int .i64 rb, .int .i64 rc]) (range_of_block hr4 (hb3.block g hglt)) hund2 rfl info32 ?_
                refine hK.out _ _ (unhide HSS _ hbel3) (fun hHeld3 => ?_)
                clear hK K
                simp only [List.getElem_toArray, List.getElem_cons_succ, List.getElem_cons_zero, Act.put, List.setIfInBounds_toArray, List.set_cons_zero, List.set_cons_succ]
                refine wpAnyH_take (i := 18) (v := .bool false) rfl (by kernel_rfl) (by kernel_rfl) (by kernel_rfl) (fun _ _ _ h => h) (Or.inl ⟨by rfl, fun w hSw => by go_simp⟩) (by assumption) ?_
                simp only [List.getElem_toArray, List.getElem_cons_succ, List.getElem_cons_zero, Act.put, List.setIfInBounds_toArray, List.set_cons_zero, List.set_cons_succ]
                refine wpAnyH_take (i := 19) (v := .bool false) rfl (by kernel_rfl) (by kernel_rfl) (by kernel_rfl) (fun _ _ _ h => h) (Or.inl ⟨by rfl, fun w hSw => by go_simp⟩) (by assumption) ?_
                simp only [List.getElem_toArray, List.getElem_cons_succ, List.getElem_cons_zero, Act.put, List.setIfInBounds_toArray, List.set_cons_zero, List.set_cons_succ]
                refine wpAnyH_done (by kernel_rfl) ?_ _
                clear hHeld hHeld1 hHeld2 hHeld3 hHeld4
                go_wp2
                go_roundw
                case rel => exact ⟨k + 1, by omega, by omega, by go_num, HT3⟩
                case measure => simp [intOf]; omega
              · refine step_loadGd (by rfl) (.tmp 46) 32 rfl rfl (cs := [.int .i64 ra, .int .i64 rb, .int .i64 rc]) hr4 hund2 rfl info32 ?_
                refine hK.out _ _ (unhide HSS _ hbel2) (fun hHeld3 => ?_)
                clear hK K
                simp only [List.getElem_toArray, List.getElem_cons_succ, List.getElem_cons_zero, Act.put, List.setIfInBounds_toArray, List.set_cons_zero, List.set_cons_succ]
                refine wpAnyH_ready (rs := [12]) (by kernel_rfl) (by simp) (AllReadyH.cons rfl (fun K hK => ?_) AllReadyH.nil)
                refine step_call1Gd (by rfl) 11 acts_enter (.tmp 41) _ rfl rfl (unhide HAC) ?_
                rintro e w3 ⟨rfl, hb3⟩
                have hbel3 := hbel2.trans (hb3.mono hbel2.size)
                have HT3 := hide (HT2.out.below hb3)
                refine ⟨_, rfl, ?_⟩
                refine hK.out _ _ (unhide HSS _ hbel3) (fun hHeld4 => ?_)
                clear hK K
                simp only [List.getElem_toArray, List.getElem_cons_succ, List.getElem_cons_zero, Act.put, List.setIfInBounds_toArray, List.set_cons_zero, List.set_cons_succ]
                refine wpAnyH_take (i := 18) (v := .bool false) rfl (by kernel_rfl) (by kernel_rfl) (by kernel_rfl) (fun _ _ _ h => h) (Or.inl ⟨by rfl, fun w hSw => by go_simp⟩) (by assumption) ?_
                simp only [List.getElem_toArray, List.getElem_cons_succ, List.getElem_cons_zero, Act.put, List.setIfInBounds_toArray, List.set_cons_zero, List.set_cons_succ]
                refine wpAnyH_take (i := 19) (v := .bool false) rfl (by kernel_rfl) (by kernel_rfl) (by kernel_rfl) (fun _ _ _ h => h) (Or.inl ⟨by rfl, fun w hSw => by go_simp⟩) (by assumption) ?_
                simp only [List.getElem_toArray, List.getElem_cons_succ, List.getElem_cons_zero, Act.put, List.setIfInBounds_toArray, List.set_cons_zero, List.set_cons_succ]
                refine wpAnyH_done (by kernel_rfl) ?_ _
                clear hHeld hHeld1 hHeld2 hHeld3 hHeld4
                go_wp2
                go_roundw
                case rel => exact ⟨k + 1, by omega, by omega, by go_num, HT3⟩
                case measure => simp [intOf]; omega
            · refine step_loadGd (by rfl) (.tmp 46) 32 rfl rfl (cs := [.int .i64 ra, .int .i64 rb, .int .i64 rc]) hr4 hund2 rfl info32 ?_
              refine hK.out _ _ (unhide HSS _ hbel2) (fun hHeld3 => ?_)
              clear hK K
              simp only [List.getElem_toArray, List.getElem_cons_succ, List.getElem_cons_zero, Act.put, List.setIfInBounds_toArray, List.set_cons_zero, List.set_cons_succ]
              refine wpAnyH_ready (rs := [11]) (by kernel_rfl) (by simp) (AllReadyH.cons rfl (fun K hK => ?_) AllReadyH.nil)
              refine step_load33 (by rfl) (.tmp 40) rfl rfl hc0 ?_
              refine hK.out _ _ (unhide HSS _ hbel2) (fun hHeld2 => ?_)
              clear hK K
              simp only [List.getElem_toArray, List.getElem_cons_succ, List.getElem_cons_zero, Act.put, List.setIfInBounds_toArray, List.set_cons_zero, List.set_cons_succ]
              refine wpAnyH_ready (rs := [12]) (by kernel_rfl) (by simp) (AllReadyH.cons rfl (fun K hK => ?_) AllReadyH.nil)
              refine step_call1Gd (by rfl) 11 acts_enter (.tmp 41) _ rfl rfl (unhide HAC) ?_
              rintro e w3 ⟨rfl, hb3⟩
              have hbel3 := hbel2.trans (hb3.mono hbel2.size)
              have HT3 := hide (HT2.out.below hb3)
              refine ⟨_, rfl, ?_⟩
              refine hK.out _ _ (unhide HSS _ hbel3) (fun hHeld4 => ?_)
              clear hK K
              simp only [List.getElem_toArray, List.getElem_cons_succ, List.getElem_cons_zero, Act.put, List.setIfInBounds_toArray, List.set_cons_zero, List.set_cons_succ]
              refine wpAnyH_take (i := 18) (v := .bool false) rfl (by kernel_rfl) (by kernel_rfl) (by kernel_rfl) (fun _ _ _ h => h) (Or.inl ⟨by rfl, fun w hSw => by go_simp⟩) (by assumption) ?_
              simp only [List.getElem_toArray, List.getElem_cons_succ, List.getElem_cons_zero, Act.put, List.setIfInBounds_toArray, List.set_cons_zero, List.set_cons_succ]
              refine wpAnyH_take (i := 19) (v := .bool false) rfl (by kernel_rfl) (by kernel_rfl) (by kernel_rfl) (fun _ _ _ h => h) (Or.inl ⟨by rfl, fun w hSw => by go_simp⟩) (by assumption) ?_
              simp only [List.getElem_toArray, List.getElem_cons_succ, List.getElem_cons_zero, Act.put, List.setIfInBounds_toArray, List.set_cons_zero, List.set_cons_succ]
              refine wpAnyH_done (by kernel_rfl) ?_ _
              clear hHeld hHeld1 hHeld2 hHeld3 hHeld4
              go_wp2
              go_roundw
              case rel => exact ⟨k + 1, by omega, by omega, by go_num, HT3⟩
              case measure => simp [intOf]; omega
          · have hd1 : decide ((k : Int) < (m : Int)) = true := by simpa using hlt
            have hd2 : decide ((k : Int) < 100) = false := by simp; omega
            obtain ⟨p2, gl2, gm2, V2, D2, R2, hP2, hB2, hl2, hF2, hb2⟩ := HT.out
            have HTO := hide (told_calls hP2 hB2.rd.1 (by have := hB2.rd; omega))
            have HFB : Hid (∀ W, Up (Fp g p2 gl2 gm2 V2) wr W → Below w.heap.size w W) := fun W hU => hb2.trans (hU.below hb2.size (fun x hx => hF2 x hx))
            clear HT hP2 hB2 hl2 hF2 hb2
            go_wp2_with fail
            refine (unhide HTO).mono ?_
            rintro e w3 ⟨rfl, hU3⟩
            have hb3 := unhide HFB w3 hU3
            clear hU3
            go_wp2
            go_ret
            exact ⟨rfl, hb3⟩
        · have hd1 : decide ((k : Int) < (m : Int)) = false := by simp; omega
          obtain ⟨p2, gl2, gm2, V2, D2, R2, hP2, hB2, hl2, hF2, hb2⟩ := HT.out
          have HTO := hide (told_calls hP2 hB2.rd.1 (by have := hB2.rd; omega))
          have HFB : Hid (∀ W, Up (Fp g p2 gl2 gm2 V2) wr W → Below w.heap.size w W) := fun W hU => hb2.trans (hU.below hb2.size (fun x hx => hF2 x hx))
          clear HT hP2 hB2 hl2 hF2 hb2
          go_wp2_with fail
          refine (unhide HTO).mono ?_
          rintro e w3 ⟨rfl, hU3⟩
          have hb3 := unhide HFB w3 hU3
          clear hU3
          go_wp2
          go_ret
          exact ⟨rfl, hb3⟩
    · have hd40 : decide (40 < (n : Int)) = true := by simp; omega
      clear hx
      generalize os.length = m at *
      go_enter Try.func3, Try.ntmps3
      go_wp2_with fail
      refine (unhide HS).mono ?_
      rintro e w1 ⟨g, p, gl, gm, V, rfl, hP, hBn⟩
      have hb : Below w.heap.size w w1 := hBn.b
      clear HS hP hBn
      go_wp2
      go_ret
      exact ⟨rfl, hb⟩
end Go.Proofs.Ytfgjhlnaaopdeaa
