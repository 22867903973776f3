/- Keep: one more byte string was handed out. Lists and byte strings together: one more of each. -/
import Derived.Test.YtpklbchbldipnabDoorNAv
import Derived.Deep.DeepCutAuto
namespace Go.Proofs.YtpklbchbldipnabDoor
open Go.RowKit Go.Maps Classical

def TK0 (t : TypeId) : Prop := t = 25 ∨ t = 58
theorem tk0_u8 : ¬ TK0 5 := by unfold TK0; decide
theorem buildSl_run (W : World) (ua : Option Addr) (un uc : Nat) : (Instr.buildSlice 56 1 #[(0, .slice ua un uc)]).run Tryd.prog W = .ok (.slice (some ⟨W.heap.size, 0, none⟩) 1 1) (W.alloc (.cells #[.slice ua un uc] 25)) := by kernel_rfl
theorem loadSl_run {W : World} {ad : Addr} {v : Value} (h : W.cell? ad = some v) : (Instr.loadAt 56 (.pointer (some ad))).run Tryd.prog W = .ok v W := by
  have hu := Tryd.underlying56
  go_simp
theorem storeSl_run {W : World} {b o : Nat} {u : Value} {aa : Option Addr} {n c : Nat} (h : W.cell? ⟨b, o, none⟩ = some u) (hf : W.frozen? ⟨b, o, none⟩ = false) : (Instr.storeAt 56 (.pointer (some ⟨b, o, none⟩)) (.slice aa n c)).run Tryd.prog W = .ok () (W.setCell ⟨b, o, none⟩ (.slice aa n c)) := by
  have hu := Tryd.underlying56
  go_simp
section
variable {ops : Array Oper} {rest : List Oper} {o : Oper} {a : Act} {Q : Exit → Act → World → Prop} {w : World} {K : Act → World → Prop} {E : Prop}
theorem step_buildSl (hgd : o.guard = none) (x : Operand) (ho : o.op = .buildSlice 56 1 #[(0, x)]) {ua : Option Addr} {un uc : Nat} (hx : a.eval x = .slice ua un uc)
    (hk : K (a.put o.dst (.slice (some ⟨w.heap.size, 0, none⟩) 1 1)) (w.alloc (.cells #[.slice ua un uc] 25))) : if Region.wanted o (yielded ops a.tmps) = true then Oper.wp Tryd.prog o a w K Q else E := by
  rw [if_pos (by simp [Region.wanted, hgd])]
  unfold Oper.wp execOp
  simp only [ho, List.map_toArray, List.map_cons, List.map_nil, hx, Sem.run_bind, buildSl_run w, Result.andThen_ok, Sem.run_pure]
  exact hk
theorem step_loadSl (hgd : o.guard = none) (x : Operand) (ho : o.op = .load 56 x) {ad : Addr} {v : Value} (hx : a.eval x = .pointer (some ad)) (hc : w.cell? ad = some v) (hk : K (a.put o.dst v) w) : if Region.wanted o (yielded ops a.tmps) = true then Oper.wp Tryd.prog o a w K Q else E := by
  rw [if_pos (by simp [Region.wanted, hgd])]
  unfold Oper.wp execOp
  simp only [ho, hx, Sem.run_bind, loadSl_run hc, Result.andThen_ok, Sem.run_pure]
  exact hk
theorem step_storeSl (hgd : o.guard = none) (x y : Operand) (ho : o.op = .store 56 x y) {b of : Nat} {u : Value} {aa : Option Addr} {n c : Nat} (hx : a.eval x = .pointer (some ⟨b, of, none⟩)) (hy : a.eval y = .slice aa n c) (hc : w.cell? ⟨b, of, none⟩ = some u) (hf : w.frozen? ⟨b, of, none⟩ = false) (hk : K (a.put o.dst undef) (w.setCell ⟨b, of, none⟩ (.slice aa n c))) : if Region.wanted o (yielded ops a.tmps) = true then Oper.wp Tryd.prog o a w K Q else E := by
  rw [if_pos (by simp [Region.wanted, hgd])]
  unfold Oper.wp execOp
  simp only [ho, hx, hy, Sem.run_bind, storeSl_run hc hf, Result.andThen_ok, Sem.run_pure]
  exact hk
theorem step_appB8 (hw : Region.wanted o (yielded ops a.tmps) = true) (x y : Operand) (ho : o.op = .call { callee := .builtin .append, args := #[x, y], argTypes := #[25, 25] }) {B : Nat} {v u : Value} {xs ys : List Int} (hx : a.eval x = v) (hown : Own8 w B v xs) (hy : a.eval y = u) (hys : IsB w u ys)
    (hl : xs.length + ys.length ≤ 140737488355328) (hB : B ≤ w.heap.size) (hk : ∀ v' w', Own8 w' B v' (xs ++ ys) → w.grownBy w' v.ownBlock → K (a.put o.dst v') w') : if Region.wanted o (yielded ops a.tmps) = true then Oper.wp Tryd.prog o a w K Q else E := by
  rw [if_pos hw]
  exact wp_appB x y ho hx hown hy hys hl hB hk
theorem wp_appLb (x y : Operand) (ho : o.op = .call { callee := .builtin .append, args := #[x, y], argTypes := #[56, 56] }) {B g : Nat} {v u : Value} {us : List Value} (hx : a.eval x = v) (hrow : Row w B 25 v us) (hy : a.eval y = .slice (some ⟨g, 0, none⟩) 1 1)
    (hc : w.cell? ⟨g, 0, none⟩ = some u) (h1 : u.oneCell' = true) (hl : us.length ≤ 1000000) (hB : B ≤ w.heap.size)
    (hk : ∀ v' w', Row w' B 25 v' (us ++ [u]) → w.grownBy w' v.ownBlock → (v'.ownBlock = v.ownBlock ∨ v'.ownBlock = some w.heap.size) → K (a.put o.dst v') w') : o.wp Tryd.prog a w K Q := by
  obtain ⟨i0, hi, hz0, hz1, hz2⟩ := info_parts infoLb
  obtain ⟨v', w', hr, h2, h3, h4, h5⟩ := run_append_share (P := Tryd.prog) w B 56 o.type 25 i0 (.slice none 0 0) 24 Tryd.underlying56 hi hz0 hz1 hz2 rfl v us hrow ⟨g, 0, none⟩ 1 1 [u] rfl (fun j z hu => by
    cases j with
    | zero =>
      have hu' : u = z := Option.some.inj hu
      subst hu'
      exact hc
    | succ j => simp at hu) (fun z hz => by rw [List.mem_singleton.1 hz]; exact h1) (by unfold maxLen; omega) (by omega) hB
  unfold Oper.wp execOp
  simp only [ho, resolve, invoke, builtin, Sem.run_bind, Sem.run_pure, Result.andThen_ok, List.map_toArray, List.map_cons, List.map_nil, hx, hy, hr]
  exact hk v' w' h2 h3 h4
theorem wpList_appLb (hgd : o.guard = none) (x y : Operand) (ho : o.op = .call { callee := .builtin .append, args := #[x, y], argTypes := #[56, 56] }) {B g : Nat} {v u : Value} {us : List Value} (hx : a.eval x = v) (hrow : Row w B 25 v us) (hy : a.eval y = .slice (some ⟨g, 0, none⟩) 1 1)
    (hc : w.cell? ⟨g, 0, none⟩ = some u) (h1 : u.oneCell' = true) (hl : us.length ≤ 1000000) (hB : B ≤ w.heap.size)
    (hk : ∀ v' w', Row w' B 25 v' (us ++ [u]) → w.grownBy w' v.ownBlock → (v'.ownBlock = v.ownBlock ∨ v'.ownBlock = some w.heap.size) → wpList Tryd.prog ops Q rest (a.put o.dst v') w') : wpList Tryd.prog ops Q (o :: rest) a w :=
  wpList_plain hgd fun _ hK => wp_appLb x y ho hx hrow hy hc h1 hl hB fun v' w' h1 h2 h3 => hK _ _ (hk v' w' h1 h2 h3)
theorem step_appLb (hw : Region.wanted o (yielded ops a.tmps) = true) (x y : Operand) (ho : o.op = .call { callee := .builtin .append, args := #[x, y], argTypes := #[56, 56] }) {B g : Nat} {v u : Value} {us : List Value} (hx : a.eval x = v) (hrow : Row w B 25 v us) (hy : a.eval y = .slice (some ⟨g, 0, none⟩) 1 1)
    (hc : w.cell? ⟨g, 0, none⟩ = some u) (h1 : u.oneCell' = true) (hl : us.length ≤ 1000000) (hB : B ≤ w.heap.size)
    (hk : ∀ v' w', Row w' B 25 v' (us ++ [u]) → w.grownBy w' v.ownBlock → (v'.ownBlock = v.ownBlock ∨ v'.ownBlock = some w.heap.size) → K (a.put o.dst v') w') : if Region.wanted o (yielded ops a.tmps) = true then Oper.wp Tryd.prog o a w K Q else E := by
  rw [if_pos hw]
  exact wp_appLb x y ho hx hrow hy hc h1 hl hB hk
end
/-- A cell of a block is another one. -/
theorem arr_set {w : World} {p k : Nat} {t : TypeId} {cs : List Value} (h : Arr w p t cs) (v : Value) : Arr (w.setCell ⟨p, k, none⟩ v) p t (cs.set k v) ∧ w.grownBy (w.setCell ⟨p, k, none⟩ v) (some p) := by
  have h1 := heap_setCell_same w p k cs.toArray t v h
  rw [List.setIfInBounds_toArray] at h1
  exact ⟨h1, rfl, rfl, rfl, by simp, fun j _ hne => heap_setCell_other w ⟨p, k, none⟩ j v (fun e => hne (by simp [e]))⟩
theorem ch_arr {w w' : World} {p B : Nat} {T : TypeId → Prop} {t : TypeId} {cs : List Value} (h : Arr w p t cs) (hg : w.grownBy w' (some p)) (hb : B ≤ p) (ht : T t) : Ch B T w w' := Ch.of_grown hg hb h ht
theorem row_arr {w w' : World} {p b : Nat} {t t2 : TypeId} {cs xs : List Value} {v : Value} (h : Row w b t2 v xs) (ha : Arr w p t cs) (hg : w.grownBy w' (some p)) (ht : t ≠ t2) : Row w' b t2 v xs := h.kept hg (by
  have := arr_off ha h ht
  exact Or.inr fun e => this e.symm)
/-- What Keep leaves. -/
def KqS (w W w' : World) (p n : Nat) (us ws : List Value) (U : Nat → Value) (X : Nat → List Int) (v : Value) (xs : List Int) : Prop :=
  (∃ vl vw u, Kq w w' p (n + 1) vl vw (us ++ [v]) (ws ++ [u]) (upd U n v) (upd X n xs)) ∧ Ch w.heap.size TK0 W w'
theorem kq_last {w W w' : World} {p n : Nat} {vl vw vl' vw' v u : Value} {us ws : List Value} {U : Nat → Value} {X : Nat → List Int} {xs : List Int} (h : Kq w W p n vl vw us ws U X) (hv : Own8 W w.heap.size v xs) (hfr : ∀ k, k < n → ((U k).ownBlock = none ∨ (U k).ownBlock ≠ v.ownBlock) ∧ (v.ownBlock = none ∨ v.ownBlock ≠ (U k).ownBlock)) (hxl : xs.length ≤ 1000000)
    (ha : Arr w' p 58 [vl', vw']) (hrl : Row w' w.heap.size 25 vl' (us ++ [v])) (hrw : Row w' w.heap.size 25 vw' (ws ++ [u])) (hap : ∀ k, vl'.ownBlock = some k → vw'.ownBlock ≠ some k) (hu : Own8 w' w.heap.size u xs) (hc : Ch w.heap.size TK0 W w') : KqS w W w' p n us ws U X v xs := by
  refine ⟨⟨vl', vw', u, belowCh h.bel hc h.bel.size, ha, h.pb, hrl, hrw, hap, by rw [List.length_append, h.lu]; rfl, by rw [List.length_append, h.lw]; rfl, fun k hk => ?_, fun k hk => ?_, fun j k hj hk hne => ?_, fun k hk => ?_, fun k hk => ?_⟩, hc⟩
  · by_cases e : k = n
    · subst e
      rw [upd_same, List.getElem?_append_right (by rw [h.lu]; exact Nat.le_refl _), h.lu, Nat.sub_self]
      rfl
    · rw [upd_other _ _ e, List.getElem?_append_left (by rw [h.lu]; omega)]
      exact h.each k (by omega)
  · by_cases e : k = n
    · subst e; rw [upd_same, upd_same]; exact own8_chT hv hc tk0_u8
    · rw [upd_other _ _ e, upd_other _ _ e]; exact own8_chT (h.rows k (by omega)) hc tk0_u8
  · by_cases e : j = n
    · subst e
      rw [upd_same, upd_other _ _ (show k ≠ j by omega)]
      exact (hfr k (by omega)).2
    · by_cases e2 : k = n
      · subst e2
        rw [upd_same, upd_other _ _ e]
        exact (hfr j (by omega)).1
      · rw [upd_other _ _ e, upd_other _ _ e2]
        exact h.apart j k (by omega) (by omega) hne
  · by_cases e : k = n
    · subst e
      refine ⟨u, ?_, by rw [upd_same]; exact hu⟩
      rw [List.getElem?_append_right (by rw [h.lw]; exact Nat.le_refl _), h.lw, Nat.sub_self]
      rfl
    · obtain ⟨z, h3, h4⟩ := h.wants k (by omega)
      exact ⟨z, by rw [List.getElem?_append_left (by rw [h.lw]; omega)]; exact h3, by rw [upd_other _ _ e]; exact own8_chT h4 hc tk0_u8⟩
  · by_cases e : k = n
    · subst e; rw [upd_same]; exact hxl
    · rw [upd_other _ _ e]; exact h.len k (by omega)
set_option maxRecDepth 100000 in
set_option maxHeartbeats 4000000 in
theorem keep_calls {w W : World} {p n : Nat} {vl vw v : Value} {us ws : List Value} {U : Nat → Value} {X : Nat → List Int} {xs : List Int} (h : Kq w W p n vl vw us ws U X) (hv : Own8 W w.heap.size v xs) (hfr : ∀ k, k < n → ((U k).ownBlock = none ∨ (U k).ownBlock ≠ v.ownBlock) ∧ (v.ownBlock = none ∨ v.ownBlock ≠ (U k).ownBlock)) (hxl : xs.length ≤ 1000000) (hn : n ≤ 100) :
    Calls Tryd.prog 24 #[.pointer (some ⟨p, 0, none⟩), v] W fun e w' => (∃ r, e = .returned r) ∧ KqS w W w' p n us ws U X v xs := by
  obtain ⟨va, vn, vc, hve⟩ := hv.shape
  obtain ⟨la, lc, hle⟩ := h.rl.shape
  obtain ⟨wa, wc, hwe⟩ := h.rw'.shape
  rw [h.lu] at hle
  rw [h.lw] at hwe
  have hsz := h.bel.size
  have hp0 : W.cell? ⟨p, 0, none⟩ = some vl := by rw [h.arr.cell]; rfl
  subst hve hle hwe
  have HH := hide h
  have HV := hide hv
  have HFR := hide hfr
  have HXL := hide hxl
  have HRL0 := hide (rowB_below h.rl (lit_blw W (.cells #[.slice va vn vc] 25)))
  have HAR0 := hide (h.arr.alloc (.cells #[.slice va vn vc] 25))
  have hL0 := h.lu
  have HLU := hide hL0
  have HC0 := hide (cell_one_new W (.slice va vn vc) 25)
  clear h hv hfr hxl hL0
  go_enter Tryd.func24, Tryd.ntmps24
  go_upto_region 1 with (at_builtin; refine wpList_appLb rfl (.tmp 8) (.tmp 10) rfl rfl HRL0.out rfl (unhide HC0 0 _ rfl) rfl (by rw [HLU.out]; omega) (Nat.le_trans hsz (lit_blw _ _).size) ?_; intro v2 w2 hr2 hg2 hat2; obtain ⟨a2, c2, hu2⟩ := hr2.shape; rw [List.length_append, HLU.out, show [Value.slice va vn vc].length = 1 from rfl] at hu2; subst hu2; have hA2 := arr_grown HAR0.out hg2 (arr_off HAR0.out HRL0.out (by decide)); have hc2 : w2.cell? ⟨p, 0, none⟩ = some (.slice la n lc) := (by rw [hA2.cell]; rfl); have hf2 := hA2.frozen 0)
  obtain ⟨hA3, hg3⟩ := arr_set (k := 0) hA2 (.slice a2 (n + 1) c2)
  have hrw1 := rowB_below HH.out.rw' (lit_blw W (.cells #[.slice va vn vc] 25))
  have hrw2 := hrw1.kept hg2 (by
    cases hb : (Value.slice wa n wc).ownBlock with
    | none => exact Or.inl rfl
    | some x => exact Or.inr (fun e => HH.out.ap x e.symm hb))
  have hch3 : Ch w.heap.size TK0 W (w2.setCell ⟨p, 0, none⟩ (.slice a2 (n + 1) c2)) := (Ch.of_below (lit_blw W _)).trans ((Ch.of_owns HRL0.out (Nat.le_refl _) hg2 (Or.inl rfl)).trans (ch_arr hA2 hg3 HH.out.pb (Or.inr rfl)))
  have HAP : Hid (∀ k, (Value.slice a2 (n + 1) c2).ownBlock = some k → (Value.slice wa n wc).ownBlock ≠ some k) := fun k h1 h2 => by
    rcases hat2 with hat | hat
    · exact HH.out.ap k (hat ▸ h1) h2
    · rw [hat] at h1
      have h3 := Option.some.inj h1
      have h4 := (hrw1.lt k h2).2
      omega
  have HA3 : Hid (Arr (w2.setCell ⟨p, 0, none⟩ (.slice a2 (n + 1) c2)) p 58 [.slice a2 (n + 1) c2, .slice wa n wc]) := hA3
  have HR3 := hide (row_arr hr2 hA2 hg3 (by decide))
  have HRW3 := hide (row_arr hrw2 hA2 hg3 (by decide))
  have HCH3 := hide hch3
  have HV3 := hide (own8_chT HV.out hch3 tk0_u8).isB
  have HSZ3 : Hid (w.heap.size ≤ (w2.setCell ⟨p, 0, none⟩ (.slice a2 (n + 1) c2)).heap.size) := Nat.le_trans hsz hch3.size
  have HXB : Hid (xs.length ≤ 140737488355328) := by show _ ≤ _; have := HXL.out; omega
  have HLW := hide HH.out.lw
  clear hA2 hc2 hf2 hr2 hg2 hat2 hA3 hg3 hrw1 hrw2 hch3 hp0
  generalize w2.setCell ⟨p, 0, none⟩ (.slice a2 (n + 1) c2) = w3 at *
  refine wp_region_held_drew (S := fun _ => True) (by kernel_rfl) (trivial) (fun hHeld => ?_)
  refine wpAnyH_take (i := 0) (v := .pointer (some ⟨p, 0, none⟩)) rfl (by kernel_rfl) (by kernel_rfl) (by kernel_rfl) (fun _ _ _ h => h) (Or.inl ⟨by rfl, fun w hSw => by go_simp⟩) (by assumption) ?_
  simp only [List.getElem_toArray, List.getElem_cons_zero, Act.put, List.setIfInBounds_toArray, List.set_cons_zero, List.set_cons_succ]
  refine wpAnyH_take (i := 1) (v := .pointer (some ⟨p, 0, none⟩)) rfl (by kernel_rfl) (by kernel_rfl) (by kernel_rfl) (fun _ _ _ h => h) (Or.inl ⟨by rfl, fun w hSw => by go_simp⟩) (by assumption) ?_
  simp only [List.getElem_toArray, List.getElem_cons_succ, List.getElem_cons_zero, Act.put, List.setIfInBounds_toArray, List.set_cons_zero, List.set_cons_succ]
  refine wpAnyH_take (i := 2) (v := .pointer (some ⟨p, 0, none⟩)) rfl (by kernel_rfl) (by kernel_rfl) (by kernel_rfl) (fun _ _ _ h => h) (Or.inl ⟨by rfl, fun w hSw => by go_simp⟩) (by assumption) ?_
  simp only [List.getElem_toArray, List.getElem_cons_succ, List.getElem_cons_zero, Act.put, List.setIfInBounds_toArray, List.set_cons_zero, List.set_cons_succ]
  refine wpAnyH_take (i := 3) (v := .pointer (some ⟨p, 1, none⟩)) rfl (by kernel_rfl) (by kernel_rfl) (by kernel_rfl) (fun _ _ _ h => h) (Or.inl ⟨by rfl, fun w hSw => by go_simp⟩) (by assumption) ?_
  simp only [List.getElem_toArray, List.getElem_cons_succ, List.getElem_cons_zero, Act.put, List.setIfInBounds_toArray, List.set_cons_zero, List.set_cons_succ]
  refine wpAnyH_take (i := 5) (v := .slice va vn vc) rfl (by kernel_rfl) (by kernel_rfl) (by kernel_rfl) (fun _ _ _ h => h) (Or.inl ⟨by rfl, fun w hSw => by go_simp⟩) (by assumption) ?_
  simp only [List.getElem_toArray, List.getElem_cons_succ, List.getElem_cons_zero, Act.put, List.setIfInBounds_toArray, List.set_cons_zero, List.set_cons_succ]
  refine wpAnyH_ready (rs := [4, 6]) (by kernel_rfl) (by simp) (AllReadyH.cons rfl (fun K hK => ?_) (AllReadyH.cons rfl (fun K hK => ?_) AllReadyH.nil))
  · refine step_loadSl rfl (.tmp 17) rfl rfl (v := .slice wa n wc) (by show w3.cell? _ = _; rw [HA3.out.cell]; rfl) ?_
    refine hK.out _ _ (trivial) (fun hH4 => ?_)
    clear hK K
    simp only [List.getElem_toArray, List.getElem_cons_succ, List.getElem_cons_zero, Act.put, List.setIfInBounds_toArray, List.set_cons_zero, List.set_cons_succ]
    refine wpAnyH_ready (rs := [6]) (by kernel_rfl) (by simp) (AllReadyH.cons rfl (fun K hK => ?_) AllReadyH.nil)
    refine step_appB8 (by rfl) (.const (.slice none 0 0)) (.tmp 19) rfl (v := .slice none 0 0) rfl (Own8.nil w3.drew w3.drew.heap.size) rfl (HV3.out.below (Below.refl _ _).drew) (by simpa using HXB.out) (Nat.le_refl _) ?_
    intro v6 w6 ho6 hg6
    have hb6 := (Below.refl w3.drew.heap.size w3.drew).grown hg6 (Nat.le_refl _) (fun k hk => by simp [Value.ownBlock] at hk)
    rw [List.nil_append] at ho6
    obtain ⟨a6, n6, c6, hu6⟩ := ho6.shape
    subst hu6
    refine hK.out _ _ (trivial) (fun hH6 => ?_)
    clear hK K
    simp only [List.getElem_toArray, List.getElem_cons_succ, List.getElem_cons_zero, Act.put, List.setIfInBounds_toArray, List.set_cons_zero, List.set_cons_succ]
    refine wpAnyH_ready (rs := [7]) (by kernel_rfl) (by simp) (AllReadyH.cons rfl (fun K hK => ?_) AllReadyH.nil)
    refine step_buildSl rfl (.tmp 20) rfl rfl ?_
    have hb7 : Below w3.heap.size w3 (w6.alloc (.cells #[.slice a6 n6 c6] 25)) := below_then (below_then (Below.refl w3.heap.size w3).drew hb6) (lit_blw _ _)
    have hA7 := HA3.out.below hb7
    have hR7 := rowB_below HR3.out hb7
    have hRW7 := rowB_below HRW3.out hb7
    have ho7 := ho6.below (lit_blw w6 (.cells #[.slice a6 n6 c6] 25))
    have hcn := cell_one_new w6 (.slice a6 n6 c6) 25
    have hs7 : w.heap.size ≤ (w6.alloc (.cells #[.slice a6 n6 c6] 25)).heap.size := Nat.le_trans HSZ3.out hb7.size
    have hs8 : w.heap.size ≤ w3.drew.heap.size := HSZ3.out
    clear hb6 ho6 hg6
    generalize hW7 : w6.alloc (.cells #[.slice a6 n6 c6] 25) = w7 at *
    have hcn7 : w7.cell? ⟨w6.heap.size, 0, none⟩ = some (.slice a6 n6 c6) := hcn 0 _ rfl
    clear hcn hW7
    generalize w6.heap.size = g6 at *
    refine hK.out _ _ (trivial) (fun hH7 => ?_)
    clear hK K
    simp only [List.getElem_toArray, List.getElem_cons_succ, List.getElem_cons_zero, Act.put, List.setIfInBounds_toArray, List.set_cons_zero, List.set_cons_succ]
    refine wpAnyH_ready (rs := [8]) (by kernel_rfl) (by simp) (AllReadyH.cons rfl (fun K hK => ?_) AllReadyH.nil)
    refine step_appLb (by rfl) (.tmp 18) (.tmp 21) rfl rfl hRW7 rfl hcn7 rfl (by rw [HLW.out]; omega) hs7 ?_
    intro v8 w8 hr8 hg8 hat8
    obtain ⟨a8, c8, hu8⟩ := hr8.shape
    rw [List.length_append, HLW.out, show [Value.slice a6 n6 c6].length = 1 from rfl] at hu8
    subst hu8
    have hA8 := arr_grown hA7 hg8 (arr_off hA7 hRW7 (by decide))
    have hR8 := hR7.kept hg8 (by
      cases hb : (Value.slice a2 (n + 1) c2).ownBlock with
      | none => exact Or.inl rfl
      | some x => exact Or.inr (fun e => HAP.out x hb e.symm))
    have hch8 : Ch w.heap.size TK0 w7 w8 := Ch.of_owns hRW7 (Nat.le_refl _) hg8 (Or.inl rfl)
    obtain ⟨hA9, hg9⟩ := arr_set (k := 1) hA8 (.slice a8 (n + 1) c8)
    have hch9 : Ch w.heap.size TK0 w8 (w8.setCell ⟨p, 1, none⟩ (.slice a8 (n + 1) c8)) := ch_arr hA8 hg9 HH.out.pb (Or.inr rfl)
    have hch : Ch w.heap.size TK0 W (w8.setCell ⟨p, 1, none⟩ (.slice a8 (n + 1) c8)) := HCH3.out.trans ((Ch.of_below hb7).trans (hch8.trans hch9))
    have HF : Hid (KqS w W (w8.setCell ⟨p, 1, none⟩ (.slice a8 (n + 1) c8)) p n us ws U X (.slice va vn vc) xs) := kq_last HH.out HV.out HFR.out HXL.out hA9 (row_arr hR8 hA8 hg9 (by decide)) (row_arr hr8 hA8 hg9 (by decide)) (fun k h1 h2 => by
      rcases hat8 with hat | hat
      · rw [hat] at h2; exact HAP.out k h1 h2
      · rw [hat] at h2; have h3 := Option.some.inj h2; have h4 := (hR7.lt k h1).2; omega) (own8_chT (own8_chT (ho7.mono hs8) hch8 tk0_u8) hch9 tk0_u8) hch
    have hc8 : w8.cell? ⟨p, 1, none⟩ = some (.slice wa n wc) := by rw [hA8.cell]; rfl
    have hf8 := hA8.frozen 1
    clear hr8 hg8 hat8 hR8 hch8 hA9 hg9 hch9 hch hA8 hA7 hR7 hRW7 hcn7 hs7 ho7 hb7
    refine hK.out _ _ (trivial) (fun hH8 => ?_)
    clear hK K
    simp only [List.getElem_toArray, List.getElem_cons_succ, List.getElem_cons_zero, Act.put, List.setIfInBounds_toArray, List.set_cons_zero, List.set_cons_succ]
    refine wpAnyH_take (i := 9) (v := .pointer (some ⟨p, 0, none⟩)) rfl (by kernel_rfl) (by kernel_rfl) (by kernel_rfl) (fun _ _ _ h => h) (Or.inl ⟨by rfl, fun w hSw => by go_simp⟩) (by assumption) ?_
    simp only [List.getElem_toArray, List.getElem_cons_succ, List.getElem_cons_zero, Act.put, List.setIfInBounds_toArray, List.set_cons_zero, List.set_cons_succ]
    refine wpAnyH_take (i := 10) (v := .pointer (some ⟨p, 1, none⟩)) rfl (by kernel_rfl) (by kernel_rfl) (by kernel_rfl) (fun _ _ _ h => h) (Or.inl ⟨by rfl, fun w hSw => by go_simp⟩) (by assumption) ?_
    simp only [List.getElem_toArray, List.getElem_cons_succ, List.getElem_cons_zero, Act.put, List.setIfInBounds_toArray, List.set_cons_zero, List.set_cons_succ]
    refine wpAnyH_ready (rs := [11]) (by kernel_rfl) (by simp) (AllReadyH.cons rfl (fun K hK => ?_) AllReadyH.nil)
    refine step_storeSl rfl (.tmp 24) (.tmp 22) rfl rfl rfl hc8 hf8 ?_
    refine hK.out _ _ (trivial) (fun hH9 => ?_)
    clear hK K
    simp only [List.getElem_toArray, List.getElem_cons_succ, List.getElem_cons_zero, Act.put]
    refine wpAnyH_done (by kernel_rfl) ?_ _
    go_wp2
    exact bodyPost_end (results_none rfl _ _ _) rfl ⟨⟨_, rfl⟩, HF.out⟩
  · refine step_appB8 (by rfl) (.const (.slice none 0 0)) (.tmp 19) rfl (v := .slice none 0 0) rfl (Own8.nil w3.drew w3.drew.heap.size) rfl (HV3.out.below (Below.refl _ _).drew) (by simpa using HXB.out) (Nat.le_refl _) ?_
    intro v6 w6 ho6 hg6
    have hb6 := (Below.refl w3.drew.heap.size w3.drew).grown hg6 (Nat.le_refl _) (fun k hk => by simp [Value.ownBlock] at hk)
    rw [List.nil_append] at ho6
    obtain ⟨a6, n6, c6, hu6⟩ := ho6.shape
    subst hu6
    refine hK.out _ _ (trivial) (fun hH6 => ?_)
    clear hK K
    simp only [List.getElem_toArray, List.getElem_cons_succ, List.getElem_cons_zero, Act.put, List.setIfInBounds_toArray, List.set_cons_zero, List.set_cons_succ]
    refine wpAnyH_ready (rs := [4, 7]) (by kernel_rfl) (by simp) (AllReadyH.cons rfl (fun K hK => ?_) (AllReadyH.cons rfl (fun K hK => ?_) AllReadyH.nil))
    · refine step_loadSl rfl (.tmp 17) rfl rfl (v := .slice wa n wc) (by rw [(HA3.out.below (below_then (Below.refl w3.heap.size w3).drew hb6)).cell]; rfl) ?_
      refine hK.out _ _ (trivial) (fun hH4 => ?_)
      clear hK K
      simp only [List.getElem_toArray, List.getElem_cons_succ, List.getElem_cons_zero, Act.put, List.setIfInBounds_toArray, List.set_cons_zero, List.set_cons_succ]
      refine wpAnyH_ready (rs := [7]) (by kernel_rfl) (by simp) (AllReadyH.cons rfl (fun K hK => ?_) AllReadyH.nil)
      refine step_buildSl rfl (.tmp 20) rfl rfl ?_
      have hb7 : Below w3.heap.size w3 (w6.alloc (.cells #[.slice a6 n6 c6] 25)) := below_then (below_then (Below.refl w3.heap.size w3).drew hb6) (lit_blw _ _)
      have hA7 := HA3.out.below hb7
      have hR7 := rowB_below HR3.out hb7
      have hRW7 := rowB_below HRW3.out hb7
      have ho7 := ho6.below (lit_blw w6 (.cells #[.slice a6 n6 c6] 25))
      have hcn := cell_one_new w6 (.slice a6 n6 c6) 25
      have hs7 : w.heap.size ≤ (w6.alloc (.cells #[.slice a6 n6 c6] 25)).heap.size := Nat.le_trans HSZ3.out hb7.size
      have hs8 : w.heap.size ≤ w3.drew.heap.size := HSZ3.out
      clear hb6 ho6 hg6
      generalize hW7 : w6.alloc (.cells #[.slice a6 n6 c6] 25) = w7 at *
      have hcn7 : w7.cell? ⟨w6.heap.size, 0, none⟩ = some (.slice a6 n6 c6) := hcn 0 _ rfl
      clear hcn hW7
      generalize w6.heap.size = g6 at *
      refine hK.out _ _ (trivial) (fun hH7 => ?_)
      clear hK K
      simp only [List.getElem_toArray, List.getElem_cons_succ, List.getElem_cons_zero, Act.put, List.setIfInBounds_toArray, List.set_cons_zero, List.set_cons_succ]
      refine wpAnyH_ready (rs := [8]) (by kernel_rfl) (by simp) (AllReadyH.cons rfl (fun K hK => ?_) AllReadyH.nil)
      refine step_appLb (by rfl) (.tmp 18) (.tmp 21) rfl rfl hRW7 rfl hcn7 rfl (by rw [HLW.out]; omega) hs7 ?_
      intro v8 w8 hr8 hg8 hat8
      obtain ⟨a8, c8, hu8⟩ := hr8.shape
      rw [List.length_append, HLW.out, show [Value.slice a6 n6 c6].length = 1 from rfl] at hu8
      subst hu8
      have hA8 := arr_grown hA7 hg8 (arr_off hA7 hRW7 (by decide))
      have hR8 := hR7.kept hg8 (by
        cases hb : (Value.slice a2 (n + 1) c2).ownBlock with
        | none => exact Or.inl rfl
        | some x => exact Or.inr (fun e => HAP.out x hb e.symm))
      have hch8 : Ch w.heap.size TK0 w7 w8 := Ch.of_owns hRW7 (Nat.le_refl _) hg8 (Or.inl rfl)
      obtain ⟨hA9, hg9⟩ := arr_set (k := 1) hA8 (.slice a8 (n + 1) c8)
      have hch9 : Ch w.heap.size TK0 w8 (w8.setCell ⟨p, 1, none⟩ (.slice a8 (n + 1) c8)) := ch_arr hA8 hg9 HH.out.pb (Or.inr rfl)
      have hch : Ch w.heap.size TK0 W (w8.setCell ⟨p, 1, none⟩ (.slice a8 (n + 1) c8)) := HCH3.out.trans ((Ch.of_below hb7).trans (hch8.trans hch9))
      have HF : Hid (KqS w W (w8.setCell ⟨p, 1, none⟩ (.slice a8 (n + 1) c8)) p n us ws U X (.slice va vn vc) xs) := kq_last HH.out HV.out HFR.out HXL.out hA9 (row_arr hR8 hA8 hg9 (by decide)) (row_arr hr8 hA8 hg9 (by decide)) (fun k h1 h2 => by
        rcases hat8 with hat | hat
        · rw [hat] at h2; exact HAP.out k h1 h2
        · rw [hat] at h2; have h3 := Option.some.inj h2; have h4 := (hR7.lt k h1).2; omega) (own8_chT (own8_chT (ho7.mono hs8) hch8 tk0_u8) hch9 tk0_u8) hch
      have hc8 : w8.cell? ⟨p, 1, none⟩ = some (.slice wa n wc) := by rw [hA8.cell]; rfl
      have hf8 := hA8.frozen 1
      clear hr8 hg8 hat8 hR8 hch8 hA9 hg9 hch9 hch hA8 hA7 hR7 hRW7 hcn7 hs7 ho7 hb7
      refine hK.out _ _ (trivial) (fun hH8 => ?_)
      clear hK K
      simp only [List.getElem_toArray, List.getElem_cons_succ, List.getElem_cons_zero, Act.put, List.setIfInBounds_toArray, List.set_cons_zero, List.set_cons_succ]
      refine wpAnyH_take (i := 9) (v := .pointer (some ⟨p, 0, none⟩)) rfl (by kernel_rfl) (by kernel_rfl) (by kernel_rfl) (fun _ _ _ h => h) (Or.inl ⟨by rfl, fun w hSw => by go_simp⟩) (by assumption) ?_
      simp only [List.getElem_toArray, List.getElem_cons_succ, List.getElem_cons_zero, Act.put, List.setIfInBounds_toArray, List.set_cons_zero, List.set_cons_succ]
      refine wpAnyH_take (i := 10) (v := .pointer (some ⟨p, 1, none⟩)) rfl (by kernel_rfl) (by kernel_rfl) (by kernel_rfl) (fun _ _ _ h => h) (Or.inl ⟨by rfl, fun w hSw => by go_simp⟩) (by assumption) ?_
      simp only [List.getElem_toArray, List.getElem_cons_succ, List.getElem_cons_zero, Act.put, List.setIfInBounds_toArray, List.set_cons_zero, List.set_cons_succ]
      refine wpAnyH_ready (rs := [11]) (by kernel_rfl) (by simp) (AllReadyH.cons rfl (fun K hK => ?_) AllReadyH.nil)
      refine step_storeSl rfl (.tmp 24) (.tmp 22) rfl rfl rfl hc8 hf8 ?_
      refine hK.out _ _ (trivial) (fun hH9 => ?_)
      clear hK K
      simp only [List.getElem_toArray, List.getElem_cons_succ, List.getElem_cons_zero, Act.put]
      refine wpAnyH_done (by kernel_rfl) ?_ _
      go_wp2
      exact bodyPost_end (results_none rfl _ _ _) rfl ⟨⟨_, rfl⟩, HF.out⟩
    · refine step_buildSl rfl (.tmp 20) rfl rfl ?_
      have hb7 : Below w3.heap.size w3 (w6.alloc (.cells #[.slice a6 n6 c6] 25)) := below_then (below_then (Below.refl w3.heap.size w3).drew hb6) (lit_blw _ _)
      have hA7 := HA3.out.below hb7
      have hR7 := rowB_below HR3.out hb7
      have hRW7 := rowB_below HRW3.out hb7
      have ho7 := ho6.below (lit_blw w6 (.cells #[.slice a6 n6 c6] 25))
      have hcn := cell_one_new w6 (.slice a6 n6 c6) 25
      have hs7 : w.heap.size ≤ (w6.alloc (.cells #[.slice a6 n6 c6] 25)).heap.size := Nat.le_trans HSZ3.out hb7.size
      have hs8 : w.heap.size ≤ w3.drew.heap.size := HSZ3.out
      clear hb6 ho6 hg6
      generalize hW7 : w6.alloc (.cells #[.slice a6 n6 c6] 25) = w7 at *
      have hcn7 : w7.cell? ⟨w6.heap.size, 0, none⟩ = some (.slice a6 n6 c6) := hcn 0 _ rfl
      clear hcn hW7
      generalize w6.heap.size = g6 at *
      refine hK.out _ _ (trivial) (fun hH7 => ?_)
      clear hK K
      simp only [List.getElem_toArray, List.getElem_cons_succ, List.getElem_cons_zero, Act.put, List.setIfInBounds_toArray, List.set_cons_zero, List.set_cons_succ]
      refine wpAnyH_ready (rs := [4]) (by kernel_rfl) (by simp) (AllReadyH.cons rfl (fun K hK => ?_) AllReadyH.nil)
      refine step_loadSl rfl (.tmp 17) rfl rfl (v := .slice wa n wc) (by rw [hA7.cell]; rfl) ?_
      refine hK.out _ _ (trivial) (fun hH4 => ?_)
      clear hK K
      simp only [List.getElem_toArray, List.getElem_cons_succ, List.getElem_cons_zero, Act.put, List.setIfInBounds_toArray, List.set_cons_zero, List.set_cons_succ]
      refine wpAnyH_ready (rs := [8]) (by kernel_rfl) (by simp) (AllReadyH.cons rfl (fun K hK => ?_) AllReadyH.nil)
      refine step_appLb (by rfl) (.tmp 18) (.tmp 21) rfl rfl hRW7 rfl hcn7 rfl (by rw [HLW.out]; omega) hs7 ?_
      intro v8 w8 hr8 hg8 hat8
      obtain ⟨a8, c8, hu8⟩ := hr8.shape
      rw [List.length_append, HLW.out, show [Value.slice a6 n6 c6].length = 1 from rfl] at hu8
      subst hu8
      have hA8 := arr_grown hA7 hg8 (arr_off hA7 hRW7 (by decide))
      have hR8 := hR7.kept hg8 (by
        cases hb : (Value.slice a2 (n + 1) c2).ownBlock with
        | none => exact Or.inl rfl
        | some x => exact Or.inr (fun e => HAP.out x hb e.symm))
      have hch8 : Ch w.heap.size TK0 w7 w8 := Ch.of_owns hRW7 (Nat.le_refl _) hg8 (Or.inl rfl)
      obtain ⟨hA9, hg9⟩ := arr_set (k := 1) hA8 (.slice a8 (n + 1) c8)
      have hch9 : Ch w.heap.size TK0 w8 (w8.setCell ⟨p, 1, none⟩ (.slice a8 (n + 1) c8)) := ch_arr hA8 hg9 HH.out.pb (Or.inr rfl)
      have hch : Ch w.heap.size TK0 W (w8.setCell ⟨p, 1, none⟩ (.slice a8 (n + 1) c8)) := HCH3.out.trans ((Ch.of_below hb7).trans (hch8.trans hch9))
      have HF : Hid (KqS w W (w8.setCell ⟨p, 1, none⟩ (.slice a8 (n + 1) c8)) p n us ws U X (.slice va vn vc) xs) := kq_last HH.out HV.out HFR.out HXL.out hA9 (row_arr hR8 hA8 hg9 (by decide)) (row_arr hr8 hA8 hg9 (by decide)) (fun k h1 h2 => by
        rcases hat8 with hat | hat
        · rw [hat] at h2; exact HAP.out k h1 h2
        · rw [hat] at h2; have h3 := Option.some.inj h2; have h4 := (hR7.lt k h1).2; omega) (own8_chT (own8_chT (ho7.mono hs8) hch8 tk0_u8) hch9 tk0_u8) hch
      have hc8 : w8.cell? ⟨p, 1, none⟩ = some (.slice wa n wc) := by rw [hA8.cell]; rfl
      have hf8 := hA8.frozen 1
      clear hr8 hg8 hat8 hR8 hch8 hA9 hg9 hch9 hch hA8 hA7 hR7 hRW7 hcn7 hs7 ho7 hb7
      refine hK.out _ _ (trivial) (fun hH8 => ?_)
      clear hK K
      simp only [List.getElem_toArray, List.getElem_cons_succ, List.getElem_cons_zero, Act.put, List.setIfInBounds_toArray, List.set_cons_zero, List.set_cons_succ]
      refine wpAnyH_take (i := 9) (v := .pointer (some ⟨p, 0, none⟩)) rfl (by kernel_rfl) (by kernel_rfl) (by kernel_rfl) (fun _ _ _ h => h) (Or.inl ⟨by rfl, fun w hSw => by go_simp⟩) (by assumption) ?_
      simp only [List.getElem_toArray, List.getElem_cons_succ, List.getElem_cons_zero, Act.put, List.setIfInBounds_toArray, List.set_cons_zero, List.set_cons_succ]
      refine wpAnyH_take (i := 10) (v := .pointer (some ⟨p, 1, none⟩)) rfl (by kernel_rfl) (by kernel_rfl) (by kernel_rfl) (fun _ _ _ h => h) (Or.inl ⟨by rfl, fun w hSw => by go_simp⟩) (by assumption) ?_
      simp only [List.getElem_toArray, List.getElem_cons_succ, List.getElem_cons_zero, Act.put, List.setIfInBounds_toArray, List.set_cons_zero, List.set_cons_succ]
      refine wpAnyH_ready (rs := [11]) (by kernel_rfl) (by simp) (AllReadyH.cons rfl (fun K hK => ?_) AllReadyH.nil)
      refine step_storeSl rfl (.tmp 24) (.tmp 22) rfl rfl rfl hc8 hf8 ?_
      refine hK.out _ _ (trivial) (fun hH9 => ?_)
      clear hK K
      simp only [List.getElem_toArray, List.getElem_cons_succ, List.getElem_cons_zero, Act.put]
      refine wpAnyH_done (by kernel_rfl) ?_ _
      go_wp2
      exact bodyPost_end (results_none rfl _ _ _) rfl ⟨⟨_, rfl⟩, HF.out⟩
end Go.Proofs.YtpklbchbldipnabDoor

namespace Go.Proofs.YtpklbchbldipnabDoor
open Go.RowKit Go.Maps Classical

theorem encR_small {l : List Ent} (hok : ∀ e ∈ l, EnOk e) : (encR l).length ≤ 1000000 := by
  unfold encR
  split
  · next hc =>
    obtain ⟨h0, hF⟩ := chkL_zero hc
    have h1 := flat_le nbL_le l none (fun e he => (hok e he).ok) hF
    have h2 := uBytes_le (l.length : Int)
    unfold encL
    rw [List.length_append, List.length_cons]
    omega
  · simp
theorem dec_small {l : List Ent} (hok : ∀ e ∈ l, EnOk e) : (decL nbL (encR l)).1.length ≤ 10000 := by
  by_cases hc : chkL nbL l = 0
  · have : encR l = encL l := by unfold encR; rw [if_pos hc]
    rw [this, dec_enc nbL_le (fun e he => (hok e he).ok) hc]
    have := (chkL_zero hc).1
    show l.length ≤ _
    omega
  · have : encR l = [] := by unfold encR; rw [if_neg hc]
    rw [this]
    have h2 : (decL nbL []).2 ≠ 0 := by
      unfold decL
      rw [if_neg (by simp), if_pos (by simp)]
      decide
    rw [decL_nil h2]
    simp
def TE (t : TypeId) : Prop := t = 22
theorem te_u8 : ¬ TE 5 := by unfold TE; decide
theorem te_s8 : ¬ TE 25 := by unfold TE; decide
theorem te_k : ¬ TE 58 := by unfold TE; decide
theorem tk0_e : ¬ TK0 38 := by unfold TK0; decide
theorem tk0_s : ¬ TK0 22 := by unfold TK0; decide
theorem tt_e : ¬ TT 38 := by unfold TT; decide
theorem tt_s : ¬ TT 22 := by unfold TT; decide
/-- One more list. -/
theorem LpE.addL2 {w W w3 : World} {n : Nat} {vl vl' vw l : Value} {us ws : List Value} {U : Nat → Value} {X : Nat → List Ent} {xs : List Ent} (h : LpE w W n n vl vw us ws U X) (hr2 : OwnE W w.heap.size l xs) (hfr : ∀ k, k < n → ((U k).ownBlock = none ∨ (U k).ownBlock ≠ l.ownBlock) ∧ (l.ownBlock = none ∨ l.ownBlock ≠ (U k).ownBlock)) (hxs : xs.length ≤ 10000)
    (hr3 : Row w3 w.heap.size 22 vl' (us ++ [l])) (hg3 : W.grownBy w3 vl.ownBlock) (hat : vl'.ownBlock = vl.ownBlock ∨ vl'.ownBlock = some W.heap.size) : LpE w w3 (n + 1) n vl' vw (us ++ [l]) ws (upd U n l) (upd X n xs) ∧ Ch w.heap.size TE W w3 := by
  have hk : ∀ {B : Nat} {v : Value} {ys : List Ent}, OwnE W B v ys → OwnE w3 B v ys := fun hr => hr.kept hg3 (hr.apart h.rl (by decide))
  refine ⟨⟨h.bel.grown hg3 h.bel.size (fun k hk => (h.rl.lt k hk).1), hr3, h.rw'.kept hg3 ?_, fun k h1 h3 => ?_, by rw [List.length_append, h.lu]; rfl, h.lw, by omega, fun k hk => ?_, fun k hk' => ?_, fun j k hj hk' hne => ?_, fun k hk' => ?_, fun k hk' => ?_⟩, Ch.of_owns h.rl (Nat.le_refl _) hg3 rfl⟩
  · cases hv : vw.ownBlock with
    | none => exact Or.inl rfl
    | some x => exact Or.inr (fun e => h.ap x e.symm hv)
  · rcases hat with hat | hat
    · exact h.ap k (hat ▸ h1) h3
    · rw [hat] at h1
      have h4 := Option.some.inj h1
      have := (h.rw'.lt k h3).2
      omega
  · by_cases e : k = n
    · subst e
      rw [upd_same, List.getElem?_append_right (by rw [h.lu]; exact Nat.le_refl _), h.lu, Nat.sub_self]
      rfl
    · rw [upd_other _ _ e, List.getElem?_append_left (by rw [h.lu]; omega)]
      exact h.each k (by omega)
  · by_cases e : k = n
    · subst e; rw [upd_same, upd_same]; exact hk hr2
    · rw [upd_other _ _ e, upd_other _ _ e]; exact hk (h.rows k (by omega))
  · by_cases e : j = n
    · subst e
      rw [upd_same, upd_other _ _ (show k ≠ j by omega)]
      exact (hfr k (by omega)).2
    · by_cases e2 : k = n
      · subst e2
        rw [upd_same, upd_other _ _ e]
        exact (hfr j (by omega)).1
      · rw [upd_other _ _ e, upd_other _ _ e2]
        exact h.apart j k (by omega) (by omega) hne
  · obtain ⟨u, h3, h4⟩ := h.wants k hk'
    refine ⟨u, h3, ?_⟩
    rw [upd_other _ _ (show k ≠ n by omega)]
    exact hk h4
  · by_cases e : k = n
    · subst e; rw [upd_same]; exact hxs
    · rw [upd_other _ _ e]; exact h.len k (by omega)
theorem fresh_own {u l : Value} {S : Nat} (h1 : ∀ b, u.ownBlock = some b → b < S) (h2 : ∀ b, l.ownBlock = some b → S ≤ b) : (u.ownBlock = none ∨ u.ownBlock ≠ l.ownBlock) ∧ (l.ownBlock = none ∨ l.ownBlock ≠ u.ownBlock) := by
  constructor
  · cases hu : u.ownBlock with
    | none => exact Or.inl rfl
    | some b => exact Or.inr (fun e => by have h3 := h1 b hu; have h4 := h2 b e.symm; omega)
  · cases hl : l.ownBlock with
    | none => exact Or.inl rfl
    | some b => exact Or.inr (fun e => by have h3 := h1 b e.symm; have h4 := h2 b hl; omega)
/-- All that was handed out so far. -/
def Big (w W : World) (p n : Nat) (vl vw : Value) : Prop := (∃ us ws U X, LpE w W n n vl vw us ws U X) ∧ ∃ ul uw us ws U X, Kq w W p n ul uw us ws U X
theorem ch_below2 {w W : World} {B : Nat} {T : TypeId → Prop} (h : Ch B T w W) (hB : B ≤ w.heap.size) : Below B w W := h.below hB
end Go.Proofs.YtpklbchbldipnabDoor
