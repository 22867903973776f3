/- laid and intact, of references; what JournalWrites answers. -/
import Derived.Test.YthhjlopgpmaokabDoorJrCu
namespace Go.Proofs.YthhjlopgpmaokabDoor
open Go.RowKit Go.Maps

def mkJ (x : Int) : JF := ⟨List.replicate 32 0, x, 0⟩
theorem mkJ_ok {x : Int} (h : i64I x) : (mkJ x).Ok := ⟨by simp [mkJ], By8.zero 32, h, (show i64I 0 from ⟨by decide, by decide⟩)⟩
theorem mk1_ok : (mkJ (-201)).Ok := mkJ_ok ⟨by decide, by decide⟩
theorem mk2_ok : (mkJ (-202)).Ok := mkJ_ok ⟨by decide, by decide⟩
theorem bMk (x : Int) (W : World) : (Instr.build 73 #[(1, .int .i64 x)]).run Tryd.prog W = .ok (.agg (jfV (mkJ x)).toArray) W := by kernel_rfl
theorem bsl2 (x y : Int) (W : World) : (Instr.buildSlice 34 2 #[(0, .agg (jfV (mkJ x)).toArray), (1, .agg (jfV (mkJ y)).toArray)]).run Tryd.prog W = .ok (.slice (some ⟨W.heap.size, 0, none⟩) 2 2) (W.alloc (.cells (jfV (mkJ x) ++ jfV (mkJ y)).toArray 73)) := by kernel_rfl
section
variable {ops : Array Oper} {rest : List Oper} {o : Oper} {a : Act} {Q : Exit → Act → World → Prop} {w : World}
theorem wpList_bld1J (hw : Region.wanted o (yielded ops a.tmps) = true) (t : TypeId) (i : Nat) (x : Operand) (ho : o.op = .build t #[(i, x)]) {vx v : Value} (hx : a.eval x = vx) (hrun : ∀ W, (Instr.build t #[(i, vx)]).run Tryd.prog W = .ok v W)
    (hk : wpList Tryd.prog ops Q rest (a.put o.dst v) w) : wpList Tryd.prog ops Q (o :: rest) a w := by
  refine wpList_on hw fun K hK => ?_
  unfold Oper.wp execOp
  simp only [ho, List.map_toArray, List.map_cons, List.map_nil, hx, Sem.run_bind, hrun w, Result.andThen_ok, Sem.run_pure]
  exact hK _ _ hk
theorem wpList_bslice2 (hw : Region.wanted o (yielded ops a.tmps) = true) (t : TypeId) (x y : Operand) (ho : o.op = .buildSlice t 2 #[(0, x), (1, y)]) {v u r : Value} {w' : World} (hx : a.eval x = v) (hy : a.eval y = u) (hr : (Instr.buildSlice t 2 #[(0, v), (1, u)]).run Tryd.prog w = .ok r w') (hk : wpList Tryd.prog ops Q rest (a.put o.dst r) w') : wpList Tryd.prog ops Q (o :: rest) a w := by
  refine wpList_on hw fun K hK => ?_
  unfold Oper.wp execOp
  simp only [ho, List.map_toArray, List.map_cons, List.map_nil, hx, hy, Sem.run_bind, hr, Result.andThen_ok, Sem.run_pure]
  exact hK _ _ hk
end
theorem isJ_two {w : World} {g : Nat} {r s : JF} (hr : r.Ok) (hs : s.Ok) (hA : Arr w g 73 (jfV r ++ jfV s)) : IsJ w (.slice (some ⟨g, 0, none⟩) 2 2) [r, s] := by
  refine ⟨fun x hx => ?_, some ⟨g, 0, none⟩, 2, rfl, Nat.le_refl _, by decide, (fun e => by cases e), fun _ => ⟨g, 0, rfl, fun j hj k v hv => ?_⟩⟩
  · simp only [List.mem_cons, List.not_mem_nil, or_false] at hx
    rcases hx with rfl | rfl
    · exact hr
    · exact hs
  · have hj2 : j < 2 := hj
    rw [hA.cell]
    rcases (show j = 0 ∨ j = 1 by omega) with rfl | rfl
    · have hv' : (jfV r)[k]? = some v := hv
      have hk := (List.getElem?_eq_some_iff.1 hv').1
      rw [show 0 + 0 * 34 + k = k by omega, List.getElem?_append_left hk]
      exact hv'
    · have hv' : (jfV s)[k]? = some v := hv
      rw [show 0 + 1 * 34 + k = 34 + k by omega, List.getElem?_append_right (by rw [jfV_len hr]; omega), jfV_len hr, show 34 + k - 34 = k by omega]
      exact hv'
/-- A copy with two marks behind it, in memory of its own. -/
structure LaidJ (w : World) (B g n c : Nat) (l : List JF) : Prop where
  len : n = l.length
  own : OwnJ w B (.slice (some ⟨g, 0, none⟩) (n + 2) c) (l ++ [mkJ (-201), mkJ (-202)])
theorem LaidJ.below {w w' : World} {B g n c : Nat} {l : List JF} (h : LaidJ w B g n c l) (hb : Below w.heap.size w w') : LaidJ w' B g n c l := ⟨h.len, h.own.below hb⟩
theorem LaidJ.isJ {w : World} {B g n c : Nat} {l : List JF} (h : LaidJ w B g n c l) : IsJ w (.slice (some ⟨g, 0, none⟩) n c) l := by
  have := h.own.isJ.cut (k := n) (by omega)
  rw [h.len, List.take_left] at this
  rw [h.len]
  exact this
theorem LaidJ.room {w : World} {B g n c : Nat} {l : List JF} (h : LaidJ w B g n c l) : n + 2 ≤ c ∧ c ≤ 9223372036854775807 := h.own.isJ.lenEq.2
theorem LaidJ.mark {w : World} {B g n c : Nat} {l : List JF} (h : LaidJ w B g n c l) (j : Nat) (hj : j < 2) : w.rangeAt g ((n + j) * 34) (jfV ([mkJ (-201), mkJ (-202)].getD j .nul)) := by
  obtain ⟨_, a, c', hv, _, _, _, hc⟩ := h.own.isJ
  injection hv with e1 e2 e3
  obtain ⟨b, o, ha, hr⟩ := hc (by simp)
  rw [← e1] at ha
  injection ha with ha
  injection ha with h1 h2
  subst h1 h2
  have := hr (n + j) (by rw [List.length_append, ← h.len]; show n + j < n + 2; omega)
  rw [Nat.zero_add, List.getD_eq_getElem?_getD, List.getElem?_append_right (by rw [h.len]; omega), ← h.len, show n + j - n = j by omega, ← List.getD_eq_getElem?_getD] at this
  exact this
set_option maxRecDepth 100000 in
set_option maxHeartbeats 4000000 in
theorem laid17_calls {w : World} {a : Option Addr} {n cap : Nat} {l : List JF} (h : IsJ w (.slice a n cap) l) (hn : n ≤ 12) :
    Calls Tryd.prog 28 #[.slice a n cap] w fun e w' => ∃ g c, e = .returned (.slice (some ⟨g, 0, none⟩) n c) ∧ LaidJ w' w.heap.size g n c l ∧ Below w.heap.size w w' := by
  have hlen := h.lenEq.1
  have HX := hide h
  have HN := hide (OwnJ.nil w w.heap.size)
  have hl1 : ([] : List JF).length + l.length ≤ 100000000000 := by simp; omega
  have hb1 := bMk (-201)
  have hb2 := bMk (-202)
  have HLN := hide hlen
  have hl2 : l.length + [mkJ (-201), mkJ (-202)].length ≤ 100000000000 := by simp; omega
  clear h hlen
  go_enter Tryd.func28, Tryd.ntmps28
  go_wp2_with (first
    | (at_builtin; refine wpList_appJ rfl (.tmp 4) (.tmp 5) rfl rfl HN.out rfl HX.out hl1 (Nat.le_refl _) ?_; intro v1 w1 ho1 hg1 hvb
       rw [List.nil_append] at ho1
       have hbe1 : Below w.heap.size w w1 := jbelow_app (Below.refl _ _) hg1 (Nat.le_refl _) hvb
       obtain ⟨a1, c1, hv1⟩ := ho1.shape
       rw [← HLN.out] at hv1
       subst hv1
       have HO1 := hide ho1
       have HBE := hide hbe1
       have hsl := bsl2 (-201) (-202) w1
       have hba := jalloc_below w1 (.cells (jfV (mkJ (-201)) ++ jfV (mkJ (-202))).toArray 73)
       have HBA := hide hba
       have HO2 := hide (ho1.below hba)
       have HI2 := hide (isJ_two mk1_ok mk2_ok (Arr.new w1 (jfV (mkJ (-201)) ++ jfV (mkJ (-202))) 73))
       clear ho1 hg1 hvb hbe1 hba)
    | (refine wpList_bld1J (by rfl) 73 1 (.const (.int .i64 (-201))) rfl (v := .agg (jfV (mkJ (-201))).toArray) rfl hb1 ?_)
    | (refine wpList_bld1J (by rfl) 73 1 (.const (.int .i64 (-202))) rfl (v := .agg (jfV (mkJ (-202))).toArray) rfl hb2 ?_)
    | (refine wpList_bslice2 (by rfl) 34 (.tmp 8) (.tmp 9) rfl (v := .agg (jfV (mkJ (-201))).toArray) (u := .agg (jfV (mkJ (-202))).toArray) rfl rfl hsl ?_)
    | (at_builtin; refine wpList_appJ rfl (.tmp 7) (.tmp 10) rfl rfl HO2.out rfl HI2.out hl2 (Nat.le_trans HBE.out.size HBA.out.size) ?_; intro v3 w3 ho3 hg3 hvb3
       have hbe3 : Below w.heap.size w w3 := jbelow_app (below_then HBE.out HBA.out) hg3 (below_then HBE.out HBA.out).size hvb3
       have hl3 : (l ++ [mkJ (-201), mkJ (-202)]).length = n + 2 := by rw [List.length_append, ← HLN.out]; rfl
       obtain ⟨g3, c3, hv3, hle3, hm3, _⟩ := owns_shape ho3.2 (by rw [hl3]; omega)
       rw [hl3] at hv3 hle3
       subst hv3
       have HLD : Hid (LaidJ w3 w.heap.size g3 n c3 l) := hide ⟨HLN.out, ho3⟩
       have HBF := hide hbe3
       have hnc : (n : Int) ≤ (c3 : Int) := by omega
       have hn0 : (0 : Int) ≤ (n : Int) := by omega
       clear ho3 hg3 hvb3 hbe3 hl3)
    | fail)
  go_ret
  exact ⟨_, _, rfl, HLD.out, HBF.out⟩
set_option maxRecDepth 100000 in
set_option maxHeartbeats 4000000 in
theorem intact17_calls {w : World} {B g n c : Nat} {l : List JF} {b2 : Option Addr} {cb : Nat} (h : LaidJ w B g n c l) (h2 : IsJ w (.slice b2 n cb) l) :
    Calls Tryd.prog 34 #[.slice (some ⟨g, 0, none⟩) n c, .slice b2 n cb] w fun e w' => e = .returned (.bool true) ∧ Below w.heap.size w w' := by
  have hm1 := h.mark 0 (by decide)
  have hm2 := h.mark 1 (by decide)
  have hrm := h.room
  have hb1 := bMk (-201)
  have hb2 := bMk (-202)
  have hi1 := infoJof mk1_ok
  have hi2 := infoJof mk2_ok
  have hn1 := fun W => jref_neqR mk1_ok.len W
  have hn2 := fun W => jref_neqR mk2_ok.len W
  have hrg := jref_guard
  have hcr : Tryd.prog.cellsOf 73 = 34 := by kernel_rfl
  have h1 := h.isJ
  have HM := hide h.len
  have HOK := hide h1.ok
  have HR1 : Hid (∀ W, Below w.heap.size w W → ∀ j, j < n → W.rangeAt g (j * 34) (jfV (l.getD j .nul))) := hide (fun W hW j hj => by
    obtain ⟨_, a, c', hv, _, _, _, hc⟩ := h1
    injection hv with e1 e2 e3
    obtain ⟨b, o, ha, hr⟩ := hc (by omega)
    rw [← e1] at ha
    injection ha with ha
    injection ha with q1 q2
    subst q1 q2
    have := jrange_kept (hr j (by omega)) hW
    rw [Nat.zero_add] at this
    exact this)
  have HR2 : Hid (∀ W, Below w.heap.size w W → ∀ j, j < n → ∃ b o, b2 = some ⟨b, o, none⟩ ∧ W.rangeAt b (o + j * 34) (jfV (l.getD j .nul))) := hide (fun W hW j hj => by
    obtain ⟨_, a, c', hv, _, _, _, hc⟩ := h2
    injection hv with e1 e2 e3
    obtain ⟨b, o, ha, hr⟩ := hc (by omega)
    exact ⟨b, o, e1.trans ha, jrange_kept (hr j (by omega)) hW⟩)
  have hrc := h2.lenEq.2
  have hA1 : (n : Int) + 2 ≤ (c : Int) := by omega
  have hA2 : (n : Int) ≤ (n : Int) + 2 := by omega
  clear h h1 h2
  simp only [List.getD_eq_getElem?_getD, List.getElem?_cons_succ, List.getElem?_cons_zero, Option.getD_some, Nat.add_zero] at hm1 hm2
  rw [show (n + 1) * 34 = n * 34 + 34 by omega] at hm2
  go_enter Tryd.func34, Tryd.ntmps34
  go_wp2_with (first
    | (refine wpList_bld1J (by rfl) 73 1 (.const (.int .i64 (-201))) rfl (v := .agg (jfV (mkJ (-201))).toArray) rfl hb1 ?_)
    | (refine wpList_bld1J (by rfl) 73 1 (.const (.int .i64 (-202))) rfl (v := .agg (jfV (mkJ (-202))).toArray) rfl hb2 ?_)
    | (refine wpList_loadJ (by rfl) 73 (.tmp 22) rfl g (n * 34) rfl _ _ hm1 Tryd.underlying73 rfl hi1 ?_)
    | (refine wpList_loadJ (by rfl) 73 (.tmp 29) rfl g (n * 34 + 34) rfl _ _ hm2 Tryd.underlying73 rfl hi2 ?_)
    | fail)
  clear hm1 hm2 hi1 hi2 hn1 hn2 hb1 hb2
  go_loopw [6] (fun i W => ∃ k : Nat, k ≤ n ∧ i = .int .i64 k ∧ Hid (Below w.heap.size w W)) (fun i _ => n - (intOf i).toNat)
  case atStart => exact ⟨0, Nat.zero_le _, rfl, hide (Below.refl _ _)⟩
  case round =>
    obtain ⟨k, hk, rfl, HW⟩ := hrel
    have HBD : Hid (Below w.heap.size w wr.drew) := hide HW.out.drew
    by_cases hlt : k < n
    · have hr1 := unhide HR1 wr HW.out k hlt
      obtain ⟨bb, oo, rfl, hr2⟩ := unhide HR2 wr HW.out k hlt
      have hrok : (l.getD k .nul).Ok := jf_get (P := JF.Ok) HOK.out (by rw [← HM.out]; exact hlt)
      generalize l.getD k .nul = rk at *
      have hinf := infoJof hrok
      have hrn := fun W => jref_neqR hrok.len W
      generalize jfV rk = rc at *
      clear hrok
      go_wp2_with fail
      refine wp_region_held_drew (S := fun W => W.rangeAt g (k * 34) rc ∧ W.rangeAt bb (oo + k * 34) rc) (by kernel_rfl) (⟨hr1, hr2⟩) (fun hHeld => ?_)
      refine wpAnyH_take (i := 0) (v := .slice (some ⟨g, 0, none⟩) n c) rfl (by kernel_rfl) (by kernel_rfl) (by kernel_rfl) (fun _ _ _ h => h) (Or.inl ⟨by rfl, fun w hSw => by obtain ⟨hS1, hS2⟩ := hSw; go_simp⟩) (by assumption) ?_
      simp only [List.getElem_toArray, List.getElem_cons_zero, Act.put, List.setIfInBounds_toArray, List.set_cons_zero, List.set_cons_succ]
      refine wpAnyH_take (i := 1) (v := .int .i64 (k : Int)) rfl (by kernel_rfl) (by kernel_rfl) (by kernel_rfl) (fun _ _ _ h => h) (Or.inl ⟨by rfl, fun w hSw => by obtain ⟨hS1, hS2⟩ := hSw; go_simp⟩) (by assumption) ?_
      simp only [List.getElem_toArray, List.getElem_cons_succ, List.getElem_cons_zero, Act.put, List.setIfInBounds_toArray, List.set_cons_zero, List.set_cons_succ]
      refine wpAnyH_take (i := 2) (v := .pointer (some ⟨g, k * 34, none⟩)) rfl (by kernel_rfl) (by kernel_rfl) (by kernel_rfl) (fun _ _ _ h => h) (Or.inl ⟨by rfl, fun w hSw => by obtain ⟨hS1, hS2⟩ := hSw; go_simp⟩) (by assumption) ?_
      simp only [List.getElem_toArray, List.getElem_cons_succ, List.getElem_cons_zero, Act.put, List.setIfInBounds_toArray, List.set_cons_zero, List.set_cons_succ]
      refine wpAnyH_take (i := 3) (v := .agg (rc).toArray) rfl (by kernel_rfl) (by kernel_rfl) (by kernel_rfl) (fun _ _ _ h => h) (yieldsIf_load_mid (by rfl) _ _ rfl _ _ rfl _ _ (fun w hSw => hSw.1) Tryd.underlying73 rfl hinf) (by assumption) ?_
      simp only [List.getElem_toArray, List.getElem_cons_succ, List.getElem_cons_zero, Act.put, List.setIfInBounds_toArray, List.set_cons_zero, List.set_cons_succ]
      refine wpAnyH_take (i := 4) (v := .slice (some ⟨bb, oo, none⟩) n cb) rfl (by kernel_rfl) (by kernel_rfl) (by kernel_rfl) (fun _ _ _ h => h) (Or.inl ⟨by rfl, fun w hSw => by obtain ⟨hS1, hS2⟩ := hSw; go_simp⟩) (by assumption) ?_
      simp only [List.getElem_toArray, List.getElem_cons_succ, List.getElem_cons_zero, Act.put, List.setIfInBounds_toArray, List.set_cons_zero, List.set_cons_succ]
      refine wpAnyH_take (i := 5) (v := .int .i64 (k : Int)) rfl (by kernel_rfl) (by kernel_rfl) (by kernel_rfl) (fun _ _ _ h => h) (Or.inl ⟨by rfl, fun w hSw => by obtain ⟨hS1, hS2⟩ := hSw; go_simp⟩) (by assumption) ?_
      simp only [List.getElem_toArray, List.getElem_cons_succ, List.getElem_cons_zero, Act.put, List.setIfInBounds_toArray, List.set_cons_zero, List.set_cons_succ]
      refine wpAnyH_take (i := 6) (v := .pointer (some ⟨bb, oo + k * 34, none⟩)) rfl (by kernel_rfl) (by kernel_rfl) (by kernel_rfl) (fun _ _ _ h => h) (Or.inl ⟨by rfl, fun w hSw => by obtain ⟨hS1, hS2⟩ := hSw; go_simp⟩) (by assumption) ?_
      simp only [List.getElem_toArray, List.getElem_cons_succ, List.getElem_cons_zero, Act.put, List.setIfInBounds_toArray, List.set_cons_zero, List.set_cons_succ]
      refine wpAnyH_take (i := 7) (v := .agg (rc).toArray) rfl (by kernel_rfl) (by kernel_rfl) (by kernel_rfl) (fun _ _ _ h => h) (yieldsIf_load_mid (by rfl) _ _ rfl _ _ rfl _ _ (fun w hSw => hSw.2) Tryd.underlying73 rfl hinf) (by assumption) ?_
      simp only [List.getElem_toArray, List.getElem_cons_succ, List.getElem_cons_zero, Act.put, List.setIfInBounds_toArray, List.set_cons_zero, List.set_cons_succ]
      refine wpAnyH_take (i := 8) (v := .bool false) rfl (by kernel_rfl) (by kernel_rfl) (by kernel_rfl) (fun _ _ _ h => h) (Or.inl ⟨by rfl, fun w hSw => by obtain ⟨hS1, hS2⟩ := hSw; go_simp⟩) (by assumption) ?_
      simp only [List.getElem_toArray, List.getElem_cons_succ, List.getElem_cons_zero, Act.put, List.setIfInBounds_toArray, List.set_cons_zero, List.set_cons_succ]
      refine wpAnyH_done (by kernel_rfl) ?_ _
      go_wp2
      go_roundw
      case rel => exact ⟨k + 1, by omega, by go_num, HBD⟩
      case measure => simp [intOf]; omega
    · go_wp2
      go_ret
      exact ⟨rfl, HW.out⟩
end Go.Proofs.YthhjlopgpmaokabDoor
