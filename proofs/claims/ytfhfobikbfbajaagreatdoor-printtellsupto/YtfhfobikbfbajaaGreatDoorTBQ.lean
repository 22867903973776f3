/- Copies of tasks, with marks behind each list. -/
import Derived.Test.YtfhfobikbfbajaaGreatDoorTBP
namespace Go.Proofs.YtfhfobikbfbajaaGreatDoor
open Go.RowKit Go.Maps

theorem ousC_app : ∀ (a b : List (ByteArray × Tm)) (V : Nat → Value), ousC (a ++ b) V = ousC a V ++ ousC b (fun j => V (j + a.length))
  | [], b, V => by simp [ousC]
  | x :: a, b, V => by
    rw [List.cons_append, ousC, ousC, ousC_app a b, List.append_assoc]
    have e : (fun j => V (j + a.length + 1)) = fun j => V (j + (x :: a).length) := by funext j; rw [List.length_cons, Nat.add_assoc]
    rw [← e]
theorem ousC_congr : ∀ {a : List (ByteArray × Tm)} {V V' : Nat → Value}, (∀ j, j < a.length → V j = V' j) → ousC a V = ousC a V'
  | [], _, _, _ => rfl
  | x :: a, V, V', h => by
    rw [ousC, ousC, h 0 (by simp), ousC_congr (a := a) (V := fun j => V (j + 1)) (V' := fun j => V' (j + 1)) (fun j hj => h (j + 1) (by simpa using hj))]
/-- Copies of outputs in a row of the call's own. -/
structure OwnKo (W : World) (B d : Nat) (v : Value) (os : List (ByteArray × Tm)) (V : Nat → Value) : Prop where
  row : W.ownsRow B 54 6 v os.length (ousC os V)
  each : ∀ j, j < os.length → IsKt W anyB d (os.getD j ou0).2.args (V j)
theorem OwnKo.nil (W : World) (B d : Nat) : OwnKo W B d (.slice none 0 0) [] (fun _ => undef) := ⟨World.ownsRow_nil _ _ _ _, fun j hj => by simp at hj⟩
theorem OwnKo.below {W W' : World} {B d : Nat} {v : Value} {os : List (ByteArray × Tm)} {V : Nat → Value} (h : OwnKo W B d v os V) (hb : Below W.heap.size W W') : OwnKo W' B d v os V := ⟨owns_below h.row hb, fun j hj => (h.each j hj).below hb⟩
theorem OwnKo.no {W : World} {B d : Nat} {v : Value} {os : List (ByteArray × Tm)} {V : Nat → Value} (h : OwnKo W B d v os V) {b : Nat} (hb : v.ownBlock = some b) : B ≤ b ∧ b < W.heap.size ∧ ¬ TB W b := by
  rcases h.row.2 with ⟨rfl, _⟩ | ⟨g', cap, cur, rfl, hBg, hgg, _⟩
  · cases hb
  · simp only [Value.ownBlock, Option.some.injEq] at hb
    subst hb
    refine ⟨hBg, (Array.getElem?_eq_some_iff.1 hgg).1, fun ⟨cs, m, h2⟩ => ?_⟩
    rw [hgg] at h2
    simp only [Option.some.injEq, Obj.cells.injEq] at h2
    exact absurd h2.2.1 (by decide)
theorem OwnKo.snoc {W W' : World} {B d : Nat} {v v' u : Value} {os : List (ByteArray × Tm)} {o : ByteArray × Tm} {V : Nat → Value} (h : OwnKo W B d v os V) (hk : IsKt W anyB d o.2.args u)
    (hr : W'.ownsRow B 54 6 v' (os.length + 1) (ousC os V ++ ouC o.1 o.2 u)) (hg : W.grownBy W' v.ownBlock) : OwnKo W' B d v' (os ++ [o]) (fun j => if j = os.length then u else V j) := by
  have hno : ∀ b, anyB b → TB W b → v.ownBlock ≠ some b := fun b _ hT e => (h.no e).2.2 hT
  refine ⟨by rw [ousC_snoc, List.length_append]; exact hr, fun j hj => ?_⟩
  rw [List.length_append] at hj
  by_cases e : j = os.length
  · subst e
    rw [List.getD_eq_getElem?_getD, List.getElem?_append_right (Nat.le_refl _), Nat.sub_self]
    show IsKt W' _ d o.2.args (if os.length = os.length then u else V os.length)
    rw [if_pos rfl]
    exact hk.grown hg hno
  · have hjl : j < os.length := by simp at hj; omega
    rw [List.getD_eq_getElem?_getD, List.getElem?_append_left hjl, ← List.getD_eq_getElem?_getD]
    simp only [if_neg e]
    exact (h.each j hjl).grown hg hno
def mkO3 : List Value := ouC ⟨#[47, 47, 51]⟩ zT0 (.slice none 0 0)
def mkO4 : List Value := ouC ⟨#[47, 47, 52]⟩ zT0 (.slice none 0 0)
/-- The row with its marks, but for them. -/
theorem OwnKo.marks {W W' : World} {B d : Nat} {v v' : Value} {os : List (ByteArray × Tm)} {V : Nat → Value} (h : OwnKo W B d v os V)
    (hr : W'.ownsRow B 54 6 v' (os.length + 2) (ousC os V ++ (mkO3 ++ mkO4))) (hg : W.grownBy W' v.ownBlock) :
    ∃ g c, v' = .slice (some ⟨g, 0, none⟩) (os.length + 2) c ∧ os.length + 2 ≤ c ∧ c ≤ 9223372036854775807 ∧ B ≤ g ∧ IsKo W' B d os (.slice (some ⟨g, 0, none⟩) os.length c) := by
  have hno : ∀ b, anyB b → TB W b → v.ownBlock ≠ some b := fun b _ hT e => (h.no e).2.2 hT
  obtain ⟨g, c, rfl, h1, h2, h3, _⟩ := owns_shape hr (by omega)
  refine ⟨g, c, rfl, h1, h2, h3, fun j => if j < os.length then V j else .slice none 0 0, ⟨g, c, rfl, ?_⟩, fun j hj => ?_⟩
  · have e : ousC (os ++ mkO) (fun j => if j < os.length then V j else .slice none 0 0) = ousC os V ++ (mkO3 ++ mkO4) := by
      rw [ousC_app, ousC_congr (a := os) (V' := V) (fun j hj => if_pos hj)]
      congr 1
      have e1 : (fun j => if j + os.length < os.length then V (j + os.length) else (.slice none 0 0 : Value)) = fun _ => .slice none 0 0 := by funext j; rw [if_neg (by omega)]
      show ousC mkO (fun j => if j + os.length < os.length then V (j + os.length) else (.slice none 0 0 : Value)) = _
      rw [e1]
      rfl
    rw [e]
    exact hr
  · show IsKt W' anyB d _ (if j < os.length then V j else .slice none 0 0)
    rw [if_pos hj]
    exact (h.each j hj).grown hg hno
theorem ous_len (os : List (ByteArray × Tm)) : os.length ≤ ousW os := by
  induction os with
  | nil => exact Nat.zero_le _
  | cons a os ih => unfold ousW at ih ⊢; rw [List.map_cons, List.sum_cons, List.length_cons]; omega
theorem ous_at {os : List (ByteArray × Tm)} {j : Nat} (hj : j < os.length) : tmW (os.getD j ou0).2 + (os.getD j ou0).1.size ≤ ousW os := by
  have h1 := ousW_take hj
  have h2 := ousW_le os (j + 1)
  omega
theorem ok_snoc {xs : List (ByteArray × Tm)} {j : Nat} (h : j < xs.length) : xs.take (j + 1) = xs.take j ++ [xs.getD j ou0] := by
  rw [List.take_succ_eq_append_getElem h, List.getD_eq_getElem?_getD, List.getElem?_eq_getElem h]
  rfl
theorem elemOs : Tryz.prog.underlying 23 = some (.slice (Tryz.prog.elem 23)) := by kernel_rfl
theorem sizeOs (W : World) : (sizeOf (Tryz.prog.elem 23)).run Tryz.prog W = .ok 6 W := by kernel_rfl
theorem slice_hO (b o n c m : Nat) (hm : m ≤ c) (W : World) (hm2 : m ≤ 9223372036854775807) : (Instr.sliceAt 23 (.slice (some ⟨b, o, none⟩) n c) none (some (.int .i64 (m : Int))) none).run Tryz.prog W = .ok (.slice (some ⟨b, o, none⟩) m c) W := by
  rw [run_sliceAt_slice W _ _ _ _ _ elemOs, run_slice_h W _ (some ⟨b, o, none⟩) n c elemOs .i64 m (by omega) (by omega), sizeOs]
  simp [Result.andThen, sliced]
  intro _
  rfl
theorem elemSs : Tryz.prog.underlying 22 = some (.slice (Tryz.prog.elem 22)) := by kernel_rfl
theorem sizeSs (W : World) : (sizeOf (Tryz.prog.elem 22)).run Tryz.prog W = .ok 1 W := by kernel_rfl
theorem slice_hSt (b o n c m : Nat) (hm : m ≤ c) (W : World) (hm2 : m ≤ 9223372036854775807) : (Instr.sliceAt 22 (.slice (some ⟨b, o, none⟩) n c) none (some (.int .i64 (m : Int))) none).run Tryz.prog W = .ok (.slice (some ⟨b, o, none⟩) m c) W := by
  rw [run_sliceAt_slice W _ _ _ _ _ elemSs, run_slice_h W _ (some ⟨b, o, none⟩) n c elemSs .i64 m (by omega) (by omega), sizeSs]
  simp [Result.andThen, sliced]
  intro _
  rfl
theorem results_tsk {fn : Func} {q : Tmp} {g : Nat} {tmps : Array Value} {w : World} {cs : List Value} (h : fn.results = #[.cell q 25]) (ha : tmps.getD q undef = .pointer (some ⟨g, 0, none⟩)) (hA : Arr w g 25 cs) (hl : cs.length = 4) :
    (results fn tmps).run Tryz.prog w = .ok (.agg cs.toArray) w := by
  have h1 : (loadVar 25 ⟨g, 0, none⟩).run Tryz.prog w = .ok (.agg cs.toArray) w := run_loadVar_mid (P := Tryz.prog) w g 0 _ cs _ hA.rangeJ Tryz.underlying25 rfl (by rw [hl]; exact infoTss ByteArray.empty 0 (.slice none 0 0) (.slice none 0 0))
  have ha' : tmps[q]?.getD undef = .pointer (some ⟨g, 0, none⟩) := by simpa using ha
  simp [results, h, asAddr, ha', h1]
theorem isS_cells {w W : World} {a : Option Addr} {n c : Nat} {l : List ByteArray} (h : IsS w (.slice a n c) l) (hb : Below w.heap.size w W) : ∀ j u, (sV l)[j]? = some u → ∃ b o, a = some ⟨b, o, none⟩ ∧ W.cell? ⟨b, o + j, none⟩ = some u := by
  intro j u hu
  have hj : j < l.length := by have := (List.getElem?_eq_some_iff.1 hu).1; rwa [sV_len] at this
  obtain ⟨a', c', e, _, _, _, hc⟩ := h.below hb
  cases e
  obtain ⟨b, o, ha, hcc⟩ := hc (by omega)
  refine ⟨b, o, ha, ?_⟩
  rw [hcc j hj, ← hu]
  unfold sV
  rw [List.getElem?_map, List.getD_eq_getElem?_getD, List.getElem?_eq_getElem hj]
  rfl
theorem sV_one1 {l : List ByteArray} : ∀ u ∈ sV l, u.oneCell' = true := by
  intro u hu
  unfold sV at hu
  obtain ⟨x, _, rfl⟩ := List.mem_map.1 hu
  rfl
theorem arr_grown {W W' : World} {g g' : Nat} {t : TypeId} {cs : List Value} (h : Arr W g t cs) (hg : W.grownBy W' (some g')) (hn : g ≠ g') : Arr W' g t cs := h.keep (hg.block g h.lt (fun e => hn (by injection e)))
theorem owns_ts {W W' : World} {B n g' s : Nat} {t : TypeId} {v : Value} {xs cs : List Value} (h : W.ownsRow B t s v n xs) (hA : Arr W g' 25 cs) (ht : t ≠ 25) (hg : W.grownBy W' (some g')) : W'.ownsRow B t s v n xs := by
  refine h.kept hg ?_
  rcases h.2 with ⟨rfl, _⟩ | ⟨g, cap, cur, rfl, _, hgg, _⟩
  · exact Or.inl rfl
  · refine Or.inr fun e => ?_
    injection e with e
    subst e
    unfold Arr at hA
    rw [hgg] at hA
    injection hA with hA
    injection hA with _ hA _
    exact ht hA
theorem isKo_grown {W W' : World} {B d g' : Nat} {os : List (ByteArray × Tm)} {v : Value} {cs : List Value} (h : IsKo W B d os v) (hA : Arr W g' 25 cs) (hg : W.grownBy W' (some g')) : IsKo W' B d os v := by
  obtain ⟨V, ⟨g, c, rfl, h1⟩, h2⟩ := h
  refine ⟨V, ⟨g, c, rfl, owns_ts h1 hA (by decide) hg⟩, fun j hj => (h2 j hj).grown hg (fun b _ hT e => ?_)⟩
  injection e with e
  subst e
  obtain ⟨cs', m, hT⟩ := hT
  unfold Arr at hA
  rw [hA] at hT
  injection hT with hT
  injection hT with _ hT _
  exact absurd hT (by decide)
theorem isOu_at {W : World} {d : Nat} {v : Value} {os : List (ByteArray × Tm)} (h : IsOu W d v os) {j : Nat} (hj : j < os.length) : ∃ b o c u, v = .slice (some ⟨b, o, none⟩) os.length c ∧ W.cell? ⟨b, o + j * 6, none⟩ = some (.string (os.getD j ou0).1) ∧ W.rangeAt b (o + j * 6 + 1) (tmC (os.getD j ou0).2 u) ∧ IsTr W anyB d (os.getD j ou0).2.args u := by
  obtain ⟨a, c, rfl, _, _, _, hc⟩ := h
  obtain ⟨b, o, rfl, he⟩ := hc (by omega)
  obtain ⟨u, hr, ht⟩ := he j hj
  refine ⟨b, o, c, u, rfl, hr 0 _ rfl, fun k x hx => ?_, ht⟩
  rw [show o + j * 6 + 1 + k = o + j * 6 + (k + 1) by omega]
  exact hr (k + 1) x hx
section
variable {ops : Array Oper} {rest : List Oper} {o : Oper} {a : Act} {Q : Exit → Act → World → Prop} {w : World} {K : Act → World → Prop} {E : Prop}
theorem st_sl2 (W : World) : (Instr.buildSlice 22 2 #[(0, .string ⟨#[47, 47, 49]⟩), (1, .string ⟨#[47, 47, 50]⟩)]).run Tryz.prog W = .ok (.slice (some ⟨W.heap.size, 0, none⟩) 2 2) (W.alloc (.cells (sV mkSt).toArray 9)) := by kernel_rfl
theorem wpList_stS2 (hgd : o.guard = none) (x y : Operand) (ho : o.op = .buildSlice 22 2 #[(0, x), (1, y)]) (hx : a.eval x = .string ⟨#[47, 47, 49]⟩) (hy : a.eval y = .string ⟨#[47, 47, 50]⟩)
    (hk : wpList Tryz.prog ops Q rest (a.put o.dst (.slice (some ⟨w.heap.size, 0, none⟩) 2 2)) (w.alloc (.cells (sV mkSt).toArray 9))) : wpList Tryz.prog ops Q (o :: rest) a w := by
  refine wpList_plain hgd fun K hK => ?_
  unfold Oper.wp execOp
  simp only [ho, List.map_toArray, List.map_cons, List.map_nil, hx, hy, Sem.run_bind, st_sl2, Result.andThen_ok, Sem.run_pure]
  exact hK _ _ hk
theorem ou_bld3 (W : World) : (Instr.build 54 #[(0, .string ⟨#[47, 47, 51]⟩)]).run Tryz.prog W = .ok (.agg mkO3.toArray) W := by kernel_rfl
theorem ou_bld4 (W : World) : (Instr.build 54 #[(0, .string ⟨#[47, 47, 52]⟩)]).run Tryz.prog W = .ok (.agg mkO4.toArray) W := by kernel_rfl
theorem ou_sl2 (W : World) : (Instr.buildSlice 23 2 #[(0, .agg mkO3.toArray), (1, .agg mkO4.toArray)]).run Tryz.prog W = .ok (.slice (some ⟨W.heap.size, 0, none⟩) 2 2) (W.alloc (.cells (mkO3 ++ mkO4).toArray 54)) := by kernel_rfl
theorem wpList_ouS2 (hgd : o.guard = none) (x y : Operand) (ho : o.op = .buildSlice 23 2 #[(0, x), (1, y)]) (hx : a.eval x = .agg mkO3.toArray) (hy : a.eval y = .agg mkO4.toArray)
    (hk : wpList Tryz.prog ops Q rest (a.put o.dst (.slice (some ⟨w.heap.size, 0, none⟩) 2 2)) (w.alloc (.cells (mkO3 ++ mkO4).toArray 54))) : wpList Tryz.prog ops Q (o :: rest) a w := by
  refine wpList_plain hgd fun K hK => ?_
  unfold Oper.wp execOp
  simp only [ho, List.map_toArray, List.map_cons, List.map_nil, hx, hy, Sem.run_bind, ou_sl2, Result.andThen_ok, Sem.run_pure]
  exact hK _ _ hk
theorem ou_bld (p : ByteArray) (t : Tm) (u : Value) (W : World) : (Instr.build 54 #[(0, .string p), (1, .agg (tmC t u).toArray)]).run Tryz.prog W = .ok (.agg (ouC p t u).toArray) W := by kernel_rfl
theorem ou_sl1 (p : ByteArray) (t : Tm) (u : Value) (W : World) : (Instr.buildSlice 23 1 #[(0, .agg (ouC p t u).toArray)]).run Tryz.prog W = .ok (.slice (some ⟨W.heap.size, 0, none⟩) 1 1) (W.alloc (.cells (ouC p t u).toArray 54)) := by kernel_rfl
theorem step_bldO (hw : Region.wanted o (yielded ops a.tmps) = true) (x y : Operand) (ho : o.op = .build 54 #[(0, x), (1, y)]) {p : ByteArray} {t : Tm} {u : Value} (hx : a.eval x = .string p) (hy : a.eval y = .agg (tmC t u).toArray)
    (hk : K (a.put o.dst (.agg (ouC p t u).toArray)) w) : if Region.wanted o (yielded ops a.tmps) = true then Oper.wp Tryz.prog o a w K Q else E := by
  rw [if_pos hw]
  unfold Oper.wp execOp
  simp only [ho, List.map_toArray, List.map_cons, List.map_nil, hx, hy, Sem.run_bind, ou_bld, Result.andThen_ok, Sem.run_pure]
  exact hk
theorem step_sliceO (hw : Region.wanted o (yielded ops a.tmps) = true) (x : Operand) (ho : o.op = .buildSlice 23 1 #[(0, x)]) {p : ByteArray} {t : Tm} {u : Value} (hx : a.eval x = .agg (ouC p t u).toArray)
    (hk : K (a.put o.dst (.slice (some ⟨w.heap.size, 0, none⟩) 1 1)) (w.alloc (.cells (ouC p t u).toArray 54))) : if Region.wanted o (yielded ops a.tmps) = true then Oper.wp Tryz.prog o a w K Q else E := by
  rw [if_pos hw]
  unfold Oper.wp execOp
  simp only [ho, List.map_toArray, List.map_cons, List.map_nil, hx, Sem.run_bind, ou_sl1, Result.andThen_ok, Sem.run_pure]
  exact hk
end
set_option maxRecDepth 100000 in
set_option maxHeartbeats 4000000 in
/-- A task in memory of its own, with marks behind each list. -/
theorem ctask_calls {w : World} {d : Nat} {nm : ByteArray} {bd : Int} {ins : List ByteArray} {outs : List (ByteArray × Tm)} {vi vo : Value} (hi : IsS w vi ins) (ho : IsOu w d vo outs) (hn : ins.length ≤ 100000000) (hW : ousW outs ≤ 100000000) :
    Calls Tryz.prog 17 #[.agg (tsC nm bd vi vo).toArray] w fun e w' => ∃ v', e = .returned v' ∧ Hid (IsKa w' w.heap.size (d + 1) v' ⟨nm, bd, ins, outs⟩ ∧ Below w.heap.size w w') := by
  have HI := hide hi
  have HO := hide ho
  have HN := hide hn
  have HW := hide hW
  obtain ⟨ai, ci, rfl, hic, him, hiz, hicc⟩ := hi
  have HIZ := hide hiz
  have HIC0 := hide hic
  have HICC := hide hicc
  obtain ⟨ao, co, rfl, hoc, hom⟩ := ho.shape
  have hmq : (outs.length : Int) ≤ 9223372036854775807 := by omega
  have hni : (ins.length : Int) ≤ 9223372036854775807 := by omega
  have hwi : wrap64 (ins.length : Int) = (ins.length : Int) := by have := IntKind.wrap_i64 (ins.length : Int); unfold wrap64; omega
  have hws : IntKind.i64.wrap (((ins.length + 2 : Nat) : Int) - 2) = (ins.length : Int) := by rw [IntKind.wrap_i64]; omega
  have hwt : IntKind.i64.wrap (((outs.length + 2 : Nat) : Int) - 2) = (outs.length : Int) := by have h1 := ous_len outs; rw [IntKind.wrap_i64]; omega
  clear ho hn hW hic hiz hicc hoc him hom
  go_enter Tryz.func17, Tryz.ntmps17
  go_wp2_with (first
    | (refine wpList_boxJ rfl 25 (.tmp 0) rfl (cs := tsC nm bd (.slice ai ins.length ci) (.slice ao outs.length co)) rfl ?_; intro w2 hA2 hb2 hs2; have HA2 := hide hA2; have HB2 := hide hb2; clear hA2 hb2 hs2)
    | (refine wpList_allocJ rfl 25 rfl infoTsz ?_; have HA3 := hide (Arr.new w2 zTs 25); have HB23 := hide (jalloc_below w2 (.cells zTs.toArray 25)); obtain ⟨w3, hw3⟩ : ∃ x, x = w2.alloc (.cells zTs.toArray 25) := ⟨_, rfl⟩; rw [← hw3] at HA3 HB23 ⊢; clear hw3; have c2 := (tsC_arr (HA2.out.below HB23.out)).2.2.1; have HB3 := hide (below_then HB2.out HB23.out))
    | (at_builtin; refine wpList_appNew (B := w3.heap.size) (t := 9) (s := 1) Tryz.underlying22 infoStz (by rfl) (by decide) (by decide) rfl (.const (.slice none 0 0)) (.tmp 7) rfl (ds := sV ins) (ad := ai) (n := ins.length) (c := ci) rfl rfl HIZ.out HIC0.out (by rw [sV_len, Nat.mul_one]) (fun j u hu => isS_cells HI.out HB3.out j u hu) sV_one1 (fun hp => by obtain ⟨b, o, e, _⟩ := HICC.out hp; exact ⟨b, o, e⟩) (by have := HN.out; omega) (Nat.le_refl _) ?_; intro v6 w6 q1 q2; have HQ6 := hide q1; have HB6 := hide q2; clear q1 q2)
    | (refine wpList_stS2 rfl (.const (.string ⟨#[47, 47, 49]⟩)) (.const (.string ⟨#[47, 47, 50]⟩)) rfl rfl rfl ?_)
    | (at_builtin; refine wpList_appRow (B := w3.heap.size) (t := 9) (s := 1) Tryz.underlying22 infoStz (by rfl) (by decide) (by decide) rfl (.tmp 9) (.tmp 10) rfl (v := v6) (k := ins.length) (cs := sV ins) rfl (owns_below HQ6.out (jalloc_below w6 (.cells (sV mkSt).toArray 9))) rfl (m := 2) rfl (ds := sV mkSt) rfl (fun j u hu => by rw [Addr.add_lit]; exact (Arr.new w6 (sV mkSt) 9).rangeJ j u hu) sV_one1 (by have := HN.out; omega) (by have := HB6.out.size; simp; omega) ?_; intro v8 w8 q1 q2 _; have HB8 := hide ((HB6.out.trans ((jalloc_below w6 (.cells (sV mkSt).toArray 9)).mono HB6.out.size)).grown q2 (by have := HB6.out.size; simp; omega) (fun k hk => (World.ownsRow.lt HQ6.out k hk).1)); obtain ⟨g8, c8, hv8, hc8, hm8, hg8, _⟩ := owns_shape q1 (by omega); subst hv8; have HQ8 := hide q1; have HG8 := hide (show w3.heap.size ≤ g8 ∧ ins.length + 2 ≤ c8 ∧ c8 ≤ 9223372036854775807 from ⟨hg8, hc8, hm8⟩); have hsl := fun W2 => slice_hSt g8 0 (ins.length + 2) c8 ins.length (by omega) W2 (by omega); have HA8 := hide ((HA2.out.below HB23.out).below HB8.out); clear q1 q2 c2 hc8 hm8 hg8)
    | (refine wpList_setP rfl (.tmp 17) (.tmp 16) 22 rfl (v := .slice (some ⟨g8, 0, none⟩) ins.length c8) rfl rfl HA8.out (by simp [tsC]) (by kernel_rfl) rfl ?_; intro w9 hA9 hg9; have HA9 : Hid (Arr w9 w.heap.size 25 (tsC nm bd (.slice (some ⟨g8, 0, none⟩) ins.length c8) (.slice ao outs.length co))) := hide hA9; have HQ9 := hide (owns_ts HQ8.out HA8.out (by decide) hg9); have HA39 := hide (arr_grown (HA3.out.below HB8.out) hg9 (by have := HA2.out.lt; omega)); have HB9 := hide ((below_then HB3.out HB8.out).grown hg9 (below_then HB3.out HB8.out).size (fun k hk => by cases hk; exact Nat.le_refl _)); have HA9N := hide HA2.out.lt; have HB3N := hide HB3.out.size; clear HQ8 HA8 HB8 HA3 HA2 HB2 HB23 HQ6 HB6 HI HIZ HIC0 HICC; clear hA9 hg9 hsl)
    | fail)
  go_loopw [4, 5] (fun lv iv wr => ∃ (j : Nat) (V : Nat → Value), iv = .int .i64 (j : Int) ∧ j ≤ outs.length ∧ Hid (OwnKo wr w9.heap.size (d + 1) lv (outs.take j) V ∧ Below w9.heap.size w9 wr)) (fun _ iv _ => outs.length - (intOf iv).toNat)
  case atStart => exact ⟨0, fun _ => undef, rfl, Nat.zero_le _, OwnKo.nil _ _ _, Below.refl _ _⟩
  case round =>
    obtain ⟨j, V, rfl, hjq, HJ⟩ := hrel
    have c3 := (tsC_arr (HA9.out.below HJ.out.2)).2.2.2
    by_cases hlt : j < outs.length
    · have hlti : (j : Int) < (outs.length : Int) := by omega
      obtain ⟨b, o, _, u2, hv, hp, hr, hi⟩ := isOu_at HO.out hlt
      cases hv
      have HB4 := hide (below_then HB9.out HJ.out.2)
      have HIC := hide (fun W2 (h : Below wr.heap.size wr W2) => cterm_calls d W2 (outs.getD j ou0).2 u2 (hi.below (below_then HB4.out h)) (by have := ous_at hlt; have := HW.out; omega))
      have HTK := hide (ok_snoc hlt)
      obtain ⟨ou, hou⟩ : ∃ t2, t2 = outs.getD j ou0 := ⟨_, rfl⟩
      rw [← hou] at hp hr HIC HTK
      obtain ⟨p, T2⟩ := ou
      have HWL : Hid (outs.length ≤ 100000000) := hide (Nat.le_trans (ous_len outs) HW.out)
      have HSS : Hid (∀ W2, Below w9.heap.size w9 W2 → (fun W2 => W2.cell? ⟨w.heap.size, 3, none⟩ = some (.slice (some ⟨b, o, none⟩) outs.length co) ∧ W2.cell? ⟨b, o + j * 6, none⟩ = some (.string p) ∧ W2.rangeAt b (o + j * 6 + 1) (tmC T2 u2)) W2) := hide (fun W2 h => ⟨(tsC_arr (HA9.out.below h)).2.2.2, ((below_then HB9.out h).cell (p := ⟨b, o + j * 6, none⟩) (World.block_lt_of_cell? w _ hp)).trans hp, rangeAt_below hr (below_then HB9.out h)⟩)
      have hwj : IntKind.i64.wrap ((j : Int) + 1) = ((j + 1 : Nat) : Int) := by rw [IntKind.wrap_i64]; omega
      clear hr hi hou hp
      go_wp2_with fail
      refine wp_region_held_drew (S := fun W2 => W2.cell? ⟨w.heap.size, 3, none⟩ = some (.slice (some ⟨b, o, none⟩) outs.length co) ∧ W2.cell? ⟨b, o + j * 6, none⟩ = some (.string p) ∧ W2.rangeAt b (o + j * 6 + 1) (tmC T2 u2)) (by kernel_rfl) (unhide HSS _ HJ.out.2.drew) (fun hHeld => ?_)
      refine wpAnyH_take (i := 0) (v := u4) rfl (by kernel_rfl) (by kernel_rfl) (by kernel_rfl) (fun _ _ _ h => h) (Or.inl ⟨by rfl, fun w hSw => by obtain ⟨g1, g2, _⟩ := hSw; go_simp⟩) (by assumption) ?_
      simp only [List.getElem_toArray, List.getElem_cons_zero, Act.put, List.setIfInBounds_toArray, List.set_cons_zero, List.set_cons_succ]
      refine wpAnyH_take (i := 1) (v := .pointer (some ⟨w.heap.size, 3, none⟩)) rfl (by kernel_rfl) (by kernel_rfl) (by kernel_rfl) (fun _ _ _ h => h) (Or.inl ⟨by rfl, fun w hSw => by obtain ⟨g1, g2, _⟩ := hSw; go_simp⟩) (by assumption) ?_
      simp only [List.getElem_toArray, List.getElem_cons_succ, List.getElem_cons_zero, Act.put, List.setIfInBounds_toArray, List.set_cons_zero, List.set_cons_succ]
      refine wpAnyH_take (i := 2) (v := .slice (some ⟨b, o, none⟩) outs.length co) rfl (by kernel_rfl) (by kernel_rfl) (by kernel_rfl) (fun _ _ _ h => h) (Or.inl ⟨by rfl, fun w hSw => by obtain ⟨g1, g2, _⟩ := hSw; go_simp⟩) (by assumption) ?_
      simp only [List.getElem_toArray, List.getElem_cons_succ, List.getElem_cons_zero, Act.put, List.setIfInBounds_toArray, List.set_cons_zero, List.set_cons_succ]
      refine wpAnyH_take (i := 3) (v := .int .i64 (j : Int)) rfl (by kernel_rfl) (by kernel_rfl) (by kernel_rfl) (fun _ _ _ h => h) (Or.inl ⟨by rfl, fun w hSw => by obtain ⟨g1, g2, _⟩ := hSw; go_simp⟩) (by assumption) ?_
      simp only [List.getElem_toArray, List.getElem_cons_succ, List.getElem_cons_zero, Act.put, List.setIfInBounds_toArray, List.set_cons_zero, List.set_cons_succ]
      refine wpAnyH_take (i := 4) (v := .pointer (some ⟨b, o + j * 6, none⟩)) rfl (by kernel_rfl) (by kernel_rfl) (by kernel_rfl) (fun _ _ _ h => h) (Or.inl ⟨by rfl, fun w hSw => by obtain ⟨g1, g2, _⟩ := hSw; go_simp⟩) (by assumption) ?_
      simp only [List.getElem_toArray, List.getElem_cons_succ, List.getElem_cons_zero, Act.put, List.setIfInBounds_toArray, List.set_cons_zero, List.set_cons_succ]
      refine wpAnyH_take (i := 5) (v := .pointer (some ⟨b, o + j * 6, none⟩)) rfl (by kernel_rfl) (by kernel_rfl) (by kernel_rfl) (fun _ _ _ h => h) (Or.inl ⟨by rfl, fun w hSw => by obtain ⟨g1, g2, _⟩ := hSw; go_simp⟩) (by assumption) ?_
      simp only [List.getElem_toArray, List.getElem_cons_succ, List.getElem_cons_zero, Act.put, List.setIfInBounds_toArray, List.set_cons_zero, List.set_cons_succ]
      refine wpAnyH_take (i := 6) (v := .string p) rfl (by kernel_rfl) (by kernel_rfl) (by kernel_rfl) (fun _ _ _ h => h) (Or.inl ⟨by rfl, fun w hSw => by obtain ⟨g1, g2, _⟩ := hSw; go_simp⟩) (by assumption) ?_
      simp only [List.getElem_toArray, List.getElem_cons_succ, List.getElem_cons_zero, Act.put, List.setIfInBounds_toArray, List.set_cons_zero, List.set_cons_succ]
      refine wpAnyH_take (i := 7) (v := .pointer (some ⟨w.heap.size, 3, none⟩)) rfl (by kernel_rfl) (by kernel_rfl) (by kernel_rfl) (fun _ _ _ h => h) (Or.inl ⟨by rfl, fun w hSw => by obtain ⟨g1, g2, _⟩ := hSw; go_simp⟩) (by assumption) ?_
      simp only [List.getElem_toArray, List.getElem_cons_succ, List.getElem_cons_zero, Act.put, List.setIfInBounds_toArray, List.set_cons_zero, List.set_cons_succ]
      refine wpAnyH_take (i := 8) (v := .slice (some ⟨b, o, none⟩) outs.length co) rfl (by kernel_rfl) (by kernel_rfl) (by kernel_rfl) (fun _ _ _ h => h) (Or.inl ⟨by rfl, fun w hSw => by obtain ⟨g1, g2, _⟩ := hSw; go_simp⟩) (by assumption) ?_
      simp only [List.getElem_toArray, List.getElem_cons_succ, List.getElem_cons_zero, Act.put, List.setIfInBounds_toArray, List.set_cons_zero, List.set_cons_succ]
      refine wpAnyH_take (i := 9) (v := .int .i64 (j : Int)) rfl (by kernel_rfl) (by kernel_rfl) (by kernel_rfl) (fun _ _ _ h => h) (Or.inl ⟨by rfl, fun w hSw => by obtain ⟨g1, g2, _⟩ := hSw; go_simp⟩) (by assumption) ?_
      simp only [List.getElem_toArray, List.getElem_cons_succ, List.getElem_cons_zero, Act.put, List.setIfInBounds_toArray, List.set_cons_zero, List.set_cons_succ]
      refine wpAnyH_take (i := 10) (v := .pointer (some ⟨b, o + j * 6, none⟩)) rfl (by kernel_rfl) (by kernel_rfl) (by kernel_rfl) (fun _ _ _ h => h) (Or.inl ⟨by rfl, fun w hSw => by obtain ⟨g1, g2, _⟩ := hSw; go_simp⟩) (by assumption) ?_
      simp only [List.getElem_toArray, List.getElem_cons_succ, List.getElem_cons_zero, Act.put, List.setIfInBounds_toArray, List.set_cons_zero, List.set_cons_succ]
      refine wpAnyH_take (i := 11) (v := .pointer (some ⟨b, o + j * 6 + 1, none⟩)) rfl (by kernel_rfl) (by kernel_rfl) (by kernel_rfl) (fun _ _ _ h => h) (Or.inl ⟨by rfl, fun w hSw => by obtain ⟨g1, g2, _⟩ := hSw; go_simp⟩) (by assumption) ?_
      simp only [List.getElem_toArray, List.getElem_cons_succ, List.getElem_cons_zero, Act.put, List.setIfInBounds_toArray, List.set_cons_zero, List.set_cons_succ]
      refine wpAnyH_take (i := 12) (v := .agg (tmC T2 u2).toArray) rfl (by kernel_rfl) (by kernel_rfl) (by kernel_rfl) (fun _ _ _ h => h) (yieldsIf_load_mid (by rfl) _ _ rfl _ _ rfl _ _ (fun w hSw => hSw.2.2) Tryz.underlying52 rfl (infoTms _ _)) (by assumption) ?_
      simp only [List.getElem_toArray, List.getElem_cons_succ, List.getElem_cons_zero, Act.put, List.setIfInBounds_toArray, List.set_cons_zero, List.set_cons_succ]
      refine wpAnyH_ready (rs := [13]) (by kernel_rfl) (by simp) (AllReadyH.cons rfl (fun K hK => ?_) AllReadyH.nil)
      refine step_call1J (by rfl) 36 (fun v W => by kernel_rfl) (.tmp 37) _ rfl rfl (unhide HIC _ (Below.refl _ _).drew) ?_
      rintro e w7 ⟨v7, rfl, HX⟩
      refine ⟨_, rfl, ?_⟩
      have HD7 := hide (below_then HJ.out.2.drew HX.out.2)
      refine hK.out _ _ (unhide HSS _ HD7.out) (fun hH1 => ?_)
      clear hK K
      simp only [List.getElem_toArray, List.getElem_cons_succ, List.getElem_cons_zero, Act.put, List.setIfInBounds_toArray, List.set_cons_zero, List.set_cons_succ]
      refine wpAnyH_ready (rs := [14]) (by kernel_rfl) (by simp) (AllReadyH.cons rfl (fun K hK => ?_) AllReadyH.nil)
      refine step_bldO (by rfl) (.tmp 31) (.tmp 38) rfl (p := p) (t := T2) (u := v7) rfl rfl ?_
      refine hK.out _ _ (unhide HSS _ HD7.out) (fun hH2 => ?_)
      clear hK K
      simp only [List.getElem_toArray, List.getElem_cons_succ, List.getElem_cons_zero, Act.put, List.setIfInBounds_toArray, List.set_cons_zero, List.set_cons_succ]
      refine wpAnyH_ready (rs := [15]) (by kernel_rfl) (by simp) (AllReadyH.cons rfl (fun K hK => ?_) AllReadyH.nil)
      refine step_sliceO (by rfl) (.tmp 39) rfl (p := p) (t := T2) (u := v7) rfl ?_
      have HD8 := hide (below_then HD7.out (jalloc_below w7 (.cells (ouC p T2 v7).toArray 54))); have HR8 := hide (below_then (below_then (Below.refl wr.heap.size wr).drew HX.out.2) (jalloc_below w7 (.cells (ouC p T2 v7).toArray 54)))
      refine hK.out _ _ (unhide HSS _ HD8.out) (fun hH3 => ?_)
      clear hK K
      simp only [List.getElem_toArray, List.getElem_cons_succ, List.getElem_cons_zero, Act.put, List.setIfInBounds_toArray, List.set_cons_zero, List.set_cons_succ]
      refine wpAnyH_ready (rs := [16]) (by kernel_rfl) (by simp) (AllReadyH.cons rfl (fun K hK => ?_) AllReadyH.nil)
      refine step_appRow (B := w9.heap.size) (t := 54) (s := 6) Tryz.underlying23 infoOuz (by rfl) (by decide) (by decide) (by rfl) (.tmp 25) (.tmp 40) rfl (v := u4) (k := (outs.take j).length) (cs := ousC (outs.take j) V) rfl (HJ.out.1.below HR8.out).row rfl (m := 1) rfl (ds := ouC p T2 v7) rfl (fun j u hu => by rw [Addr.add_lit]; exact ((Arr.new w7 (ouC p T2 v7) 54)).rangeJ j u hu) (ouC_one T2 HX.out.1.one) (by have := HWL.out; rw [List.length_take]; omega) HD8.out.size ?_
      intro v9 wx q1 q2 q3
      have HOx := hide (OwnKo.snoc (o := (p, T2)) (HJ.out.1.below HR8.out) ((HX.out.1.mono (fun _ _ _ => trivial)).below (jalloc_below w7 (.cells (ouC p T2 v7).toArray 54))) q1 q2)
      have HDx := hide (HD8.out.grown q2 HD8.out.size (fun b hb => (HJ.out.1.no hb).1))
      clear q1 q2 q3
      refine hK.out _ _ (unhide HSS _ HDx.out) (fun hH4 => ?_)
      clear hK K
      simp only [List.getElem_toArray, List.getElem_cons_succ, List.getElem_cons_zero, Act.put, List.setIfInBounds_toArray, List.set_cons_zero, List.set_cons_succ]
      refine wpAnyH_take (i := 17) (v := v9) rfl (by kernel_rfl) (by kernel_rfl) (by kernel_rfl) (fun _ _ _ h => h) (Or.inl ⟨by rfl, fun w hSw => by obtain ⟨g1, g2, _⟩ := hSw; go_simp⟩) (by assumption) ?_
      simp only [List.getElem_toArray, List.getElem_cons_succ, List.getElem_cons_zero, Act.put, List.setIfInBounds_toArray, List.set_cons_zero, List.set_cons_succ]
      refine wpAnyH_done (by kernel_rfl) ?_ _
      clear hHeld hH1 hH2 hH3 hH4 HSS HIC HD7 HD8 HR8 HX
      go_wp2
      go_roundw
      case rel => exact ⟨j + 1, _, by go_num, by omega, by rw [HTK.out]; exact HOx.out, HDx.out⟩
      case measure => simp [intOf]; omega
    · have hlti : ¬ (j : Int) < (outs.length : Int) := by omega
      obtain rfl : j = outs.length := by omega
      have HO' : Hid (OwnKo wr w9.heap.size (d + 1) u4 outs V) := hide (by have := HJ.out.1; rwa [List.take_length] at this)
      have HWL : Hid (outs.length ≤ 100000000) := hide (Nat.le_trans (ous_len outs) HW.out)
      have HO7 := hide (HO'.out.below (jalloc_below wr (.cells (mkO3 ++ mkO4).toArray 54)))
      have HB7 := hide (below_then HJ.out.2 (jalloc_below wr (.cells (mkO3 ++ mkO4).toArray 54)))
      have HA7 := hide (Arr.new wr (mkO3 ++ mkO4) 54)
      go_wp2_with (first
        | (refine wpList_bld1 rfl 54 0 (.const (.string ⟨#[47, 47, 51]⟩)) rfl (vx := .string ⟨#[47, 47, 51]⟩) (v := .agg mkO3.toArray) rfl ou_bld3 ?_)
        | (refine wpList_bld1 rfl 54 0 (.const (.string ⟨#[47, 47, 52]⟩)) rfl (vx := .string ⟨#[47, 47, 52]⟩) (v := .agg mkO4.toArray) rfl ou_bld4 ?_)
        | (refine wpList_ouS2 rfl (.tmp 43) (.tmp 44) rfl rfl rfl ?_)
        | (at_builtin; refine wpList_appRow (B := w9.heap.size) (t := 54) (s := 6) Tryz.underlying23 infoOuz (by rfl) (by decide) (by decide) rfl (.tmp 42) (.tmp 45) rfl (v := u4) (k := outs.length) (cs := ousC outs V) rfl HO7.out.row rfl (m := 2) rfl (ds := mkO3 ++ mkO4) rfl (fun j u hu => by rw [Addr.add_lit]; exact HA7.out.rangeJ j u hu) (fun u hu => by rcases List.mem_append.1 hu with h | h <;> exact ouC_one zT0 rfl u h) (by have := HWL.out; omega) HB7.out.size ?_; intro vy wy q1 q2 q3; obtain ⟨gy, cy, rfl, hcy, hcm, hgy, hKy⟩ := HO7.out.marks q1 q2; have HKy := hide hKy; have HBy := hide (HB7.out.grown q2 HB7.out.size (fun b hb => (HO'.out.no hb).1)); have hsy := fun W2 => slice_hO gy 0 (outs.length + 2) cy outs.length (by omega) W2 (by omega); have HAy := hide (HA9.out.below HBy.out); have c3' := (tsC_arr HAy.out).2.2.2; clear q1 q2 q3 hKy hgy)
        | (refine wpList_setP rfl (.tmp 52) (.tmp 51) 23 rfl (v := .slice (some ⟨gy, 0, none⟩) outs.length cy) rfl rfl HAy.out (by simp [tsC]) (by kernel_rfl) rfl ?_; intro wx hAx hgx; have HAx : Hid (Arr wx w.heap.size 25 (tsC nm bd (.slice (some ⟨g8, 0, none⟩) ins.length c8) (.slice (some ⟨gy, 0, none⟩) outs.length cy))) := hide hAx; have HKx := hide (isKo_grown HKy.out HAy.out hgx); have HQx := hide (owns_ts (owns_below HQ9.out HBy.out) HAy.out (by decide) hgx); have HRx := hide (arr_grown (HA39.out.below HBy.out) hgx (by have := HA9N.out; omega)); have HBx := hide ((below_then HB9.out HBy.out).grown hgx (below_then HB9.out HBy.out).size (fun k hk => by cases hk; exact Nat.le_refl _)); clear hAx hgx c3' hsy)
        | (refine wpList_loadJ rfl 25 (.tmp 1) rfl w.heap.size 0 rfl (tsC nm bd (.slice (some ⟨g8, 0, none⟩) ins.length c8) (.slice (some ⟨gy, 0, none⟩) outs.length cy)) _ HAx.out.rangeJ Tryz.underlying25 rfl (infoTss _ _ _ _) ?_)
        | (refine wpList_storeJ rfl (.tmp 2) (.tmp 53) 25 rfl rfl rfl HRx.out (infoTss _ _ _ _) rfl (tsC_one rfl rfl) ?_; intro wz hAz hgz; have HAz := hide hAz; have HKz := hide (isKo_grown HKx.out HRx.out hgz); have HQz := hide (owns_ts HQx.out HRx.out (by decide) hgz); have HBz := hide (HBx.out.grown hgz HBx.out.size (fun k hk => by cases hk; have := HA9N.out; omega)); clear hAz hgz)
        | fail)
      refine bodyPost_ret (results_tsk (q := 2) rfl rfl HAz.out rfl) rfl ?_
      exact ⟨_, rfl, hide ⟨⟨_, _, rfl, ⟨g8, c8, rfl, by have := HQz.out; rw [← sV_app] at this; exact owns_mono this (by have := HB3N.out; omega)⟩, HKz.out.mono (by have := HB9.out.size; omega)⟩, HBz.out⟩⟩
end Go.Proofs.YtfhfobikbfbajaaGreatDoor
