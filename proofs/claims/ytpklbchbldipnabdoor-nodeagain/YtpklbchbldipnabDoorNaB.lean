/- turned: the change is made in place. -/
import Derived.Test.YtpklbchbldipnabDoorNaA
import Derived.Deep.DeepCutAuto
namespace Go.Proofs.YtpklbchbldipnabDoor
open Go.RowKit Go.Maps Classical

theorem below_gr {B g : Nat} {a w w' : World} (h : Below B a w) (hg : w.grownBy w' (some g)) (hB : B ≤ w.heap.size) (hb : B ≤ g) : Below B a w' :=
  h.grown hg hB (fun j hj => by injection hj with hj; omega)
/-- What a change leaves. -/
def TP (w w' : World) (B g n c gb nb cb M : Nat) : Prop := ∃ l xs, ELaid w' B g n c l ∧ IsLaid w' B gb nb cb xs ∧ (∀ e ∈ l, e.nm.length ≤ M) ∧ Below B w w'
theorem tp_list {w w1 w2 : World} {B g n c gb nb cb M : Nat} {l : List Ent} {xs : List Int} (hb : Below w.heap.size w w1) (hE : ELaid w2 B g n c l) (hX : IsLaid w1 B gb nb cb xs) (hg : w1.grownBy w2 (some g)) (hne : g ≠ gb) (hB : B ≤ w.heap.size) (hm : ∀ e ∈ l, e.nm.length ≤ M) : TP w w2 B g n c gb nb cb M :=
  ⟨l, xs, hE, hX.kept hg (fun e => hne (Option.some.inj e).symm), hm, below_gr (hb.mono hB) hg (Nat.le_trans hB hb.size) hE.lt.1⟩
theorem tp_buf {w w1 w2 : World} {B g n c gb nb cb M : Nat} {l : List Ent} {xs : List Int} (hb : Below w.heap.size w w1) (hE : ELaid w1 B g n c l) (hX : IsLaid w2 B gb nb cb xs) (hg : w1.grownBy w2 (some gb)) (hne : g ≠ gb) (hB : B ≤ w.heap.size) (hm : ∀ e ∈ l, e.nm.length ≤ M) : TP w w2 B g n c gb nb cb M :=
  ⟨l, xs, hE.kept hg (fun e => hne (Option.some.inj e)), hX, hm, below_gr (hb.mono hB) hg (Nat.le_trans hB hb.size) hX.lt.1⟩
theorem tp_same {w w1 : World} {B g n c gb nb cb M : Nat} {l : List Ent} {xs : List Int} (hb : Below w.heap.size w w1) (hE : ELaid w1 B g n c l) (hX : IsLaid w1 B gb nb cb xs) (hB : B ≤ w.heap.size) (hm : ∀ e ∈ l, e.nm.length ≤ M) : TP w w1 B g n c gb nb cb M :=
  ⟨l, xs, hE, hX, hm, hb.mono hB⟩
theorem set_le {l : List Ent} {k : Nat} {e' : Ent} {M : Nat} (h : ∀ e ∈ l, e.nm.length ≤ M) (h' : e'.nm.length ≤ M) : ∀ e ∈ l.set k e', e.nm.length ≤ M := fun e he => by
  rcases List.mem_or_eq_of_mem_set he with he | he
  · exact h e he
  · rw [he]; exact h'
theorem mkS_snoc (x : List Int) (b : Nat) : mkS x ++ ⟨#[UInt8.ofNat b]⟩ = mkS (x ++ [((b : Nat) : Int)]) := by
  refine toL_inj ?_
  rw [toL_mkS, List.map_append]
  show (mkS x ++ ⟨#[UInt8.ofNat b]⟩ : ByteArray).data.toList = _
  rw [ByteArray.data_append, Array.toList_append]
  have h : (mkS x).data.toList = _ := toL_mkS x
  rw [h]
  simp
theorem place_enter (v u : Value) (W : World) : (callFunc 47 #[v, u]).run Tryd.prog W = .ok (.enter 47 #[v, u]) W := by kernel_rfl
theorem store8k_run {W : World} {b o : Nat} {x : Int} {u : Value} (h : W.cell? ⟨b, o, none⟩ = some u) (hf : W.frozen? ⟨b, o, none⟩ = false) : (Instr.storeAt 5 (.pointer (some ⟨b, o, none⟩)) (.int .u8 x)).run Tryd.prog W = .ok () (W.setCell ⟨b, o, none⟩ (.int .u8 x)) := by
  have hu := Tryd.underlying5
  go_simp
section
variable {ops : Array Oper} {rest : List Oper} {o : Oper} {a : Act} {Q : Exit → Act → World → Prop} {w : World} {K : Act → World → Prop} {E : Prop}
theorem step_store8k (hgd : o.guard = none) (x y : Operand) (ho : o.op = .store 5 x y) {b of : Nat} {z : Int} {u : Value} (hx : a.eval x = .pointer (some ⟨b, of, none⟩)) (hy : a.eval y = .int .u8 z) (hc : w.cell? ⟨b, of, none⟩ = some u) (hf : w.frozen? ⟨b, of, none⟩ = false) (hk : K (a.put o.dst undef) (w.setCell ⟨b, of, none⟩ (.int .u8 z))) : if Region.wanted o (yielded ops a.tmps) = true then Oper.wp Tryd.prog o a w K Q else E := by
  rw [if_pos (by simp [Region.wanted, hgd])]
  unfold Oper.wp execOp
  simp only [ho, hx, hy, Sem.run_bind, store8k_run hc hf, Result.andThen_ok, Sem.run_pure]
  exact hk
end
set_option maxRecDepth 100000 in
set_option maxHeartbeats 8000000 in
theorem turned_calls {w : World} {B g n c gb nb cb M : Nat} {l : List Ent} {xs : List Int} {ki ta tb : Int} (hE : ELaid w B g n c l) (hX : IsLaid w B gb nb cb xs) (hn : n ≤ 60) (hnb : nb ≤ 8000) (hB : B ≤ w.heap.size) (hM : ∀ e ∈ l, e.nm.length ≤ M) (hMM : M ≤ 140737488355000) (htb : -9223372036854775808 ≤ tb ∧ tb ≤ 9223372036854775807) :
    Calls Tryd.prog 23 #[.slice (some ⟨g, 0, none⟩) n c, .slice (some ⟨gb, 0, none⟩) nb cb, .agg #[.int .i64 ki, .int .i64 ta, .int .i64 tb]] w fun e w' => (∃ r, e = .returned r) ∧ TP w w' B g n c gb nb cb (M + 1) := by
  have hnc : n ≤ c ∧ c ≤ 9223372036854775807 := ⟨by have := hE.room; omega, hE.room.2⟩
  have hbc : nb ≤ cb ∧ cb ≤ 9223372036854775807 := by
    rcases hX.own.2 with ⟨h0, _⟩ | ⟨g', cap, cur, hv, _, _, hle, hm, _⟩
    · cases h0
    · injection hv with _ _ e3
      subst e3
      exact ⟨by omega, by simpa [maxLen] using hm⟩
  have HNE := hide (laid_apart hE hX)
  have HM1 : Hid (∀ e ∈ l, e.nm.length ≤ M + 1) := fun e he => Nat.le_succ_of_le (hM e he)
  have HE := hide hE
  have HX := hide hX
  have HMO := hide hM
  have HTB := hide htb
  clear hE hX hM htb
  go_enter Tryd.func23, Tryd.ntmps23
  go_upto_region 1 with fail
  have HA : Hid (Arr (w.alloc (.cells #[.int .i64 ki, .int .i64 ta, .int .i64 tb] 53)) w.heap.size 53 [.int .i64 ki, .int .i64 ta, .int .i64 tb]) := Arr.new w _ _
  have HB1 : Hid (Below w.heap.size w (w.alloc (.cells #[.int .i64 ki, .int .i64 ta, .int .i64 tb] 53))) := lit_blw w _
  have HE1 := hide (HE.out.below HB1.out)
  have HX1 := hide (HX.out.below HB1.out)
  generalize w.alloc (.cells #[.int .i64 ki, .int .i64 ta, .int .i64 tb] 53) = w1 at *
  obtain ⟨gq, hgq⟩ : ∃ gq, w.heap.size = gq := ⟨_, rfl⟩
  rw [hgq] at HA
  rw [hgq]
  have hq0 : w1.cell? ⟨gq, 0, none⟩ = some (.int .i64 ki) := by rw [HA.out.cell]; rfl
  have hq1 : w1.cell? ⟨gq, 1, none⟩ = some (.int .i64 ta) := by rw [HA.out.cell]; rfl
  have hq2 : w1.cell? ⟨gq, 2, none⟩ = some (.int .i64 tb) := by rw [HA.out.cell]; rfl
  have HQB : Hid (B ≤ gq) := by show _ ≤ _; rw [← hgq]; exact hB
  have HGG : Hid (g < gq) := by show _ < _; rw [← hgq]; exact HE.out.lt.2
  have HGB : Hid (gb < gq) := by show _ < _; rw [← hgq]; exact HX.out.lt.2
  clear hgq HE HX
  go_cut [14] (fun v wc => v = .bool (decide (ki < 0) || decide (ki > 3)) ∧ w1 = wc)
  case first =>
    by_cases h0 : ki < 0
    · go_wp2
      go_meet
      exact ⟨by simp [h0], rfl⟩
    · by_cases h1 : ki > 3
      · have h2 : ki > 3 := h1
        go_wp2
        go_meet
        exact ⟨by simp [h1], rfl⟩
      · go_wp2
        go_meet
        exact ⟨by simp [h0]; omega, rfl⟩
  obtain ⟨rfl, rfl⟩ := hcut
  by_cases hk : ki < 0 ∨ ki > 3
  · have hkt : (decide (ki < 0) || decide (ki > 3)) = true := by simpa using hk
    by_cases hz : nb = 0
    · have hzI : ¬ (nb : Int) > 0 := by omega
      have HF := hide (tp_same HB1.out HE1.out HX1.out hB HM1.out)
      clear hz
      go_wp2
      exact bodyPost_ret (results_none rfl _ _ _) rfl ⟨⟨_, rfl⟩, HF.out⟩
    · have hzI : (nb : Int) > 0 := by omega
      have HPL := hide (fun W : World => place_calls (x := ta) (n := nb) (by omega) (by omega) W)
      obtain ⟨tz, htz⟩ : ∃ tz, IntKind.u8.wrap tb = tz := ⟨_, rfl⟩
      have HTZ : Hid (0 ≤ tz ∧ tz ≤ 255) := by show _ ∧ _; rw [← htz, IntKind.wrap_u8]; omega
      clear hz
      go_upto_region 3 with fail
      refine wp_region_held_drew (S := fun W => W.cell? ⟨gq, 1, none⟩ = some (.int .i64 ta) ∧ W.cell? ⟨gq, 2, none⟩ = some (.int .i64 tb)) (by kernel_rfl) (⟨hq1, hq2⟩) (fun hHeld => ?_)
      refine wpAnyH_take (i := 0) (v := .slice (some ⟨gb, 0, none⟩) nb cb) rfl (by kernel_rfl) (by kernel_rfl) (by kernel_rfl) (fun _ _ _ h => h) (Or.inl ⟨by rfl, fun w hSw => by go_simp⟩) (by assumption) ?_
      simp only [List.getElem_toArray, List.getElem_cons_zero, Act.put, List.setIfInBounds_toArray, List.set_cons_zero, List.set_cons_succ]
      refine wpAnyH_take (i := 1) (v := .pointer (some ⟨gq, 1, none⟩)) rfl (by kernel_rfl) (by kernel_rfl) (by kernel_rfl) (fun _ _ _ h => h) (Or.inl ⟨by rfl, fun w hSw => by obtain ⟨hS1, hS2⟩ := hSw; go_simp⟩) (by assumption) ?_
      simp only [List.getElem_toArray, List.getElem_cons_succ, List.getElem_cons_zero, Act.put, List.setIfInBounds_toArray, List.set_cons_zero, List.set_cons_succ]
      refine wpAnyH_take (i := 2) (v := .int .i64 ta) rfl (by kernel_rfl) (by kernel_rfl) (by kernel_rfl) (fun _ _ _ h => h) (Or.inl ⟨by rfl, fun w hSw => by obtain ⟨hS1, hS2⟩ := hSw; go_simp⟩) (by assumption) ?_
      simp only [List.getElem_toArray, List.getElem_cons_succ, List.getElem_cons_zero, Act.put, List.setIfInBounds_toArray, List.set_cons_zero, List.set_cons_succ]
      refine wpAnyH_take (i := 3) (v := .slice (some ⟨gb, 0, none⟩) nb cb) rfl (by kernel_rfl) (by kernel_rfl) (by kernel_rfl) (fun _ _ _ h => h) (Or.inl ⟨by rfl, fun w hSw => by go_simp⟩) (by assumption) ?_
      simp only [List.getElem_toArray, List.getElem_cons_succ, List.getElem_cons_zero, Act.put, List.setIfInBounds_toArray, List.set_cons_zero, List.set_cons_succ]
      refine wpAnyH_take (i := 4) (v := .int .i64 (nb : Int)) rfl (by kernel_rfl) (by kernel_rfl) (by kernel_rfl) (fun _ _ _ h => h) (Or.inl ⟨by rfl, fun w hSw => by go_simp⟩) (by assumption) ?_
      simp only [List.getElem_toArray, List.getElem_cons_succ, List.getElem_cons_zero, Act.put, List.setIfInBounds_toArray, List.set_cons_zero, List.set_cons_succ]
      refine wpAnyH_take (i := 6) (v := .pointer (some ⟨gq, 2, none⟩)) rfl (by kernel_rfl) (by kernel_rfl) (by kernel_rfl) (fun _ _ _ h => h) (Or.inl ⟨by rfl, fun w hSw => by obtain ⟨hS1, hS2⟩ := hSw; go_simp⟩) (by assumption) ?_
      simp only [List.getElem_toArray, List.getElem_cons_succ, List.getElem_cons_zero, Act.put, List.setIfInBounds_toArray, List.set_cons_zero, List.set_cons_succ]
      refine wpAnyH_take (i := 7) (v := .int .i64 tb) rfl (by kernel_rfl) (by kernel_rfl) (by kernel_rfl) (fun _ _ _ h => h) (Or.inl ⟨by rfl, fun w hSw => by obtain ⟨hS1, hS2⟩ := hSw; go_simp⟩) (by assumption) ?_
      simp only [List.getElem_toArray, List.getElem_cons_succ, List.getElem_cons_zero, Act.put, List.setIfInBounds_toArray, List.set_cons_zero, List.set_cons_succ]
      refine wpAnyH_take (i := 8) (v := .int .u8 tz) rfl (by kernel_rfl) (by kernel_rfl) (by kernel_rfl) (fun _ _ _ h => h) (Or.inl ⟨by rfl, fun w hSw => by obtain ⟨hS1, hS2⟩ := hSw; go_simp⟩) (by assumption) ?_
      simp only [List.getElem_toArray, List.getElem_cons_succ, List.getElem_cons_zero, Act.put, List.setIfInBounds_toArray, List.set_cons_zero, List.set_cons_succ]
      refine wpAnyH_ready (rs := [5]) (by kernel_rfl) (by simp) (AllReadyH.cons rfl (fun K hK => ?_) AllReadyH.nil)
      refine step_call2GC (by rfl) 47 place_enter (.tmp 20) (.tmp 22) _ rfl rfl rfl (unhide HPL _) ?_
      rintro e w2 ⟨k, rfl, hkn, hw2⟩
      obtain rfl := hw2.symm
      refine ⟨_, rfl, ?_⟩
      refine hK.out _ _ (⟨hq1, hq2⟩) (fun hH2 => ?_)
      clear hK K
      simp only [List.getElem_toArray, List.getElem_cons_succ, List.getElem_cons_zero, Act.put, List.setIfInBounds_toArray, List.set_cons_zero, List.set_cons_succ]
      have hkI : (k : Int) < (nb : Int) := by omega
      have hk0 : (0 : Int) ≤ (k : Int) := by omega
      refine wpAnyH_take (i := 9) (v := .pointer (some ⟨gb, k, none⟩)) rfl (by kernel_rfl) (by kernel_rfl) (by kernel_rfl) (fun _ _ _ h => h) (Or.inl ⟨by rfl, fun w hSw => by go_simp⟩) (by assumption) ?_
      simp only [List.getElem_toArray, List.getElem_cons_succ, List.getElem_cons_zero, Act.put, List.setIfInBounds_toArray, List.set_cons_zero, List.set_cons_succ]
      refine wpAnyH_ready (rs := [10]) (by kernel_rfl) (by simp) (AllReadyH.cons rfl (fun K hK => ?_) AllReadyH.nil)
      obtain ⟨⟨u9, hu9⟩, hf9⟩ := HX1.out.cellB hkn
      refine step_store8k rfl (.tmp 27) (.tmp 26) rfl rfl rfl hu9 hf9 ?_
      have hot : ∀ o, (w1.drew.setCell ⟨gb, k, none⟩ (.int .u8 tz)).cell? ⟨gq, o, none⟩ = w1.cell? ⟨gq, o, none⟩ := fun o => World.cell?_setCell_other _ _ _ _ (fun e => by have h1 := congrArg Addr.block e; have h2 := HGB.out; simp at h1; omega)
      obtain ⟨hX2, hg2⟩ := HX1.out.put hkn HTZ.out
      have hXd : (w1.setCell ⟨gb, k, none⟩ (.int .u8 tz)).drew = w1.drew.setCell ⟨gb, k, none⟩ (.int .u8 tz) := rfl
      have hbd := (Below.refl (w1.setCell ⟨gb, k, none⟩ (.int .u8 tz)).heap.size (w1.setCell ⟨gb, k, none⟩ (.int .u8 tz))).drew
      have HF := hide (tp_buf HB1.out HE1.out (hX2.below hbd) (grown_then hg2 (grown_belowS gb hbd)) HNE.out hB HM1.out)
      rw [hXd] at HF
      clear hX2 hg2 hXd hbd
      refine hK.out _ _ (⟨(hot 1).trans hq1, (hot 2).trans hq2⟩) (fun hH3 => ?_)
      clear hK K
      simp only [List.getElem_toArray, List.getElem_cons_succ, List.getElem_cons_zero, Act.put]
      refine wpAnyH_done (by kernel_rfl) ?_ _
      clear hot hH3 hH2 hHeld
      go_wp2
      exact bodyPost_ret (results_none rfl _ _ _) rfl ⟨⟨_, rfl⟩, HF.out⟩
  · have hkt : (decide (ki < 0) || decide (ki > 3)) = false := by simp; omega
    by_cases hz : n = 0
    · have hzI : ((n : Int) == 0) = true := by rw [hz]; rfl
      have HF := hide (tp_same HB1.out HE1.out HX1.out hB HM1.out)
      clear hz
      go_wp2
      exact bodyPost_ret (results_none rfl _ _ _) rfl ⟨⟨_, rfl⟩, HF.out⟩
    · have hzI : ((n : Int) == 0) = false := by rw [beq_eq_false_iff_ne]; omega
      have HPL := hide (fun W : World => place_calls (x := ta) (n := n) (by omega) (by omega) W)
      go_wp2_with fail
      refine (unhide HPL w1).mono ?_
      rintro e w2 ⟨k, rfl, hkn, hw2⟩
      obtain rfl := hw2.symm
      have hkI : (k : Int) < (n : Int) := by omega
      have hk0 : (0 : Int) ≤ (k : Int) := by omega
      clear HPL
      have hkl : k < l.length := by rw [← HE1.out.len]; exact hkn
      have henk : EnOk (l.getD k .nul) := en_get HE1.out.ok hkl
      have henM : (l.getD k .nul).nm.length ≤ M := en_get (P := fun e => e.nm.length ≤ M) HMO.out hkl
      have hcl : ∀ j, j < 68 → w1.cell? ⟨g, k * 68 + j, none⟩ = (enV (l.getD k .nul))[j]? ∧ w1.frozen? ⟨g, k * 68 + j, none⟩ = false := fun j hj => HE1.out.cellE hkn hj
      have hpt : ∀ (j : Nat) (cs : List Value) (e' : Ent), j + cs.length ≤ 68 → putsV (enV (l.getD k .nul)) j cs = enV e' → EnOk e' → e'.nm.length ≤ M + 1 → TP w (w1.setCells g (k * 68 + j) cs) B g n c gb nb cb (M + 1) ∧ ELaid (w1.setCells g (k * 68 + j) cs) B g n c (l.set k e') ∧ w1.grownBy (w1.setCells g (k * 68 + j) cs) (some g) := fun j cs e' hj he ho hm => by
        obtain ⟨h1, h2⟩ := HE1.out.put hkn hj he ho
        exact ⟨tp_list HB1.out h1 HX1.out h2 HNE.out hB (set_le HM1.out hm), h1, h2⟩
      obtain ⟨en, hen⟩ : ∃ en, l.getD k .nul = en := ⟨_, rfl⟩
      rw [hen] at henk henM hcl hpt
      have HEN := hide hen
      have HENK := hide henk
      have HENM := hide henM
      have HCL := hide hcl
      have HPT := hide hpt
      clear hen henk henM hcl hpt hz hkl
      have hki : ki = 0 ∨ ki = 1 ∨ ki = 2 ∨ ki = 3 := by omega
      have hMM2 := HTB.out
      clear hkt hk
      rcases hki with rfl | rfl | rfl | rfl
      · have hkt : (decide ((0 : Int) < 0) || decide ((0 : Int) > 3)) = false := by decide
        obtain ⟨hc1, hf1⟩ := HCL.out 66 (by omega)
        rw [(enV_fi HENK.out.ok).1] at hc1
        obtain ⟨hF, _⟩ := unhide HPT 66 [.int .i64 tb] { en with fi := tb } (by simp) (put_fi HENK.out.ok tb) ⟨⟨HENK.out.ok.nm, HENK.out.ok.key, HENK.out.ok.hash⟩, HENK.out.nl, HTB.out, HENK.out.ln⟩ (Nat.le_succ_of_le HENM.out)
        have HF : Hid (TP w (w1.setCell ⟨g, k * 68 + 66, none⟩ (.int .i64 tb)) B g n c gb nb cb (M + 1)) := hF
        clear hF HCL HPT
        go_wp2
        exact bodyPost_end (results_none rfl _ _ _) rfl ⟨⟨_, rfl⟩, HF.out⟩
      · have hkt : (decide ((1 : Int) < 0) || decide ((1 : Int) > 3)) = false := by decide
        obtain ⟨hc1, hf1⟩ := HCL.out 67 (by omega)
        rw [(enV_fi HENK.out.ok).2] at hc1
        obtain ⟨hF, _⟩ := unhide HPT 67 [.int .i64 tb] { en with ln := tb } (by simp) (put_ln HENK.out.ok tb) ⟨⟨HENK.out.ok.nm, HENK.out.ok.key, HENK.out.ok.hash⟩, HENK.out.nl, HENK.out.fi, HTB.out⟩ (Nat.le_succ_of_le HENM.out)
        have HF : Hid (TP w (w1.setCell ⟨g, k * 68 + 67, none⟩ (.int .i64 tb)) B g n c gb nb cb (M + 1)) := hF
        clear hF HCL HPT
        go_wp2
        exact bodyPost_end (results_none rfl _ _ _) rfl ⟨⟨_, rfl⟩, HF.out⟩
      · have hkt : (decide ((2 : Int) < 0) || decide ((2 : Int) > 3)) = false := by decide
        obtain ⟨tz, htz⟩ : ∃ tz, IntKind.u8.wrap tb = tz := ⟨_, rfl⟩
        have htz2 : 0 ≤ tz ∧ tz ≤ 255 := by rw [← htz, IntKind.wrap_u8]; omega
        obtain ⟨hc1, hf1⟩ := HCL.out 2 (by omega)
        obtain ⟨u1, hu1⟩ : ∃ u1, (enV en)[2]? = some u1 := ⟨_, List.getElem?_eq_getElem (by rw [enV_len HENK.out.ok]; omega)⟩
        rw [hu1] at hc1
        obtain ⟨e1, he1⟩ : ∃ e1 : Ent, e1 = { en with key := en.key.set 0 tz } := ⟨_, rfl⟩
        have he1k : EnOk e1 := by
          rw [he1]
          refine ⟨⟨HENK.out.ok.nm, ⟨by show (en.key.set 0 tz).length = 32; rw [List.length_set, HENK.out.ok.key.1], fun c hc => ?_⟩, HENK.out.ok.hash⟩, HENK.out.nl, HENK.out.fi, HENK.out.ln⟩
          rcases List.mem_or_eq_of_mem_set hc with hc | hc
          · exact HENK.out.ok.key.2 c hc
          · rw [hc]; exact htz2
        have he1m : e1.nm.length ≤ M + 1 := by rw [he1]; exact Nat.le_succ_of_le HENM.out
        obtain ⟨_, hE2, hg2⟩ := unhide HPT 2 [.int .u8 tz] e1 (by simp) (by rw [he1]; exact put_key HENK.out.ok (i := 0) (by omega) tz) he1k he1m
        obtain ⟨w2, hw2⟩ : ∃ w2, w1.setCell ⟨g, k * 68 + 2, none⟩ (.int .u8 tz) = w2 := ⟨_, rfl⟩
        have hE2' : ELaid w2 B g n c (l.set k e1) := by rw [← hw2]; exact hE2
        have hg2' : w1.grownBy w2 (some g) := by rw [← hw2]; exact hg2
        have hkl : k < l.length := by rw [← HE1.out.len]; exact hkn
        have hgd : (l.set k e1).getD k .nul = e1 := by rw [List.getD_eq_getElem?_getD, List.getElem?_set_self hkl]; rfl
        obtain ⟨hc2, hf2⟩ := hE2'.cellE hkn (j := 34) (by omega)
        obtain ⟨u2, hu2⟩ : ∃ u2, (enV e1)[34]? = some u2 := ⟨_, List.getElem?_eq_getElem (by rw [enV_len he1k.ok]; omega)⟩
        rw [hgd, hu2] at hc2
        have he2k : EnOk { e1 with hash := e1.hash.set 0 tz } := by
          refine ⟨⟨he1k.ok.nm, he1k.ok.key, ⟨by show (e1.hash.set 0 tz).length = 32; rw [List.length_set, he1k.ok.hash.1], fun c hc => ?_⟩⟩, he1k.nl, he1k.fi, he1k.ln⟩
          rcases List.mem_or_eq_of_mem_set hc with hc | hc
          · exact he1k.ok.hash.2 c hc
          · rw [hc]; exact htz2
        obtain ⟨hE3, hg3⟩ := hE2'.put hkn (j := 34) (cs := [.int .u8 tz]) (by simp) (by rw [hgd]; exact put_hash he1k.ok (i := 0) (by omega) tz) he2k
        have hbd := ((Below.refl (w2.setCell ⟨g, k * 68 + 34, none⟩ (.int .u8 tz)).heap.size (w2.setCell ⟨g, k * 68 + 34, none⟩ (.int .u8 tz))).drew).drew
        have HF : Hid (TP w (w2.setCell ⟨g, k * 68 + 34, none⟩ (.int .u8 tz)).drew.drew B g n c gb nb cb (M + 1)) := tp_list HB1.out (hE3.below hbd) HX1.out (grown_then (grown_then hg2' hg3) (grown_belowS g hbd)) HNE.out hB (set_le (set_le HM1.out he1m) he1m)
        have hq2' : w2.drew.cell? ⟨gq, 2, none⟩ = some (.int .i64 tb) := by
          show w2.cell? ⟨gq, 2, none⟩ = _
          rw [← hw2, World.cell?_setCell_other _ _ _ _ (fun e => by have h1 := congrArg Addr.block e; have h2 := HGG.out; simp at h1; omega)]
          exact hq2
        have hc2' : w2.drew.cell? ⟨g, k * 68 + 34, none⟩ = some u2 := hc2
        have hf2' : w2.drew.frozen? ⟨g, k * 68 + 34, none⟩ = false := hf2
        have HW2 := hide hw2
        clear hE2 hg2 hE2' hg2' hgd he2k hE3 hg3 hbd hw2 hu1 hu2 he1 he1k he1m htz2 HCL HPT hc2 hf2 hkl
        go_upto_region 12 with fail
        go_region
        go_upto_region 13 with fail
        rw [HW2.out]
        clear hc1 hf1
        go_region
        go_wp2
        exact bodyPost_end (results_none rfl _ _ _) rfl ⟨⟨_, rfl⟩, HF.out⟩
      · have hkt : (decide ((3 : Int) < 0) || decide ((3 : Int) > 3)) = false := by decide
        obtain ⟨hc1, hf1⟩ := HCL.out 0 (by omega)
        obtain ⟨st, hst⟩ : ∃ st, mkS en.nm = st := ⟨_, rfl⟩
        obtain ⟨st2, hst2⟩ : ∃ st2, mkS (en.nm ++ [46]) = st2 := ⟨_, rfl⟩
        rw [Nat.add_zero] at hc1 hf1
        rw [show (enV en)[0]? = some (.string (mkS en.nm)) from rfl, hst] at hc1
        have hcat : st ++ ⟨#[46]⟩ = st2 := by rw [← hst, ← hst2]; exact mkS_snoc en.nm 46
        have hsz : ¬ 9223372036854775807 < st.size + 1 := by rw [← hst, mkS_size]; have := HENM.out; omega
        have he2l : (en.nm ++ [46]).length ≤ M + 1 := by rw [List.length_append]; have := HENM.out; simp; omega
        have he2k : EnOk { en with nm := en.nm ++ [46] } := by
          refine ⟨⟨fun c hc => ?_, HENK.out.ok.key, HENK.out.ok.hash⟩, ?_, HENK.out.fi, HENK.out.ln⟩
          · rcases List.mem_append.1 hc with hc | hc
            · exact HENK.out.ok.nm c hc
            · rw [List.mem_singleton.1 hc]; omega
          · show (en.nm ++ [46]).length ≤ _
            omega
        obtain ⟨hF, _⟩ := unhide HPT 0 [.string st2] { en with nm := en.nm ++ [46] } (by simp) (by rw [← hst2]; exact put_nm en _) he2k he2l
        rw [Nat.add_zero] at hF
        have HF : Hid (TP w (w1.setCell ⟨g, k * 68, none⟩ (.string st2)) B g n c gb nb cb (M + 1)) := hF
        clear hF HCL HPT he2k he2l hst hst2
        go_wp2
        exact bodyPost_end (results_none rfl _ _ _) rfl ⟨⟨_, rfl⟩, HF.out⟩
end Go.Proofs.YtpklbchbldipnabDoor
