/- A task with lists and terms that are not too great, in memory of its own. -/
import Derived.Test.YtfhfobikbfbajaaGreatDoorTBU
namespace Go.Proofs.YtfhfobikbfbajaaGreatDoor
open Go.RowKit Go.Maps

section
variable {ops : Array Oper} {rest : List Oper} {o : Oper} {a : Act} {Q : Exit → Act → World → Prop} {w : World}
theorem wpList_putP (hgd : o.guard = none) (x y : Operand) (t : TypeId) (ho : o.op = .store t x y) {g k : Nat} {t0 : TypeId} {cs ds : List Value} (hx : a.eval x = .pointer (some ⟨g, k, none⟩)) (hy : a.eval y = .agg ds.toArray) (h : Arr w g t0 cs) (hi : (Tryz.prog.info? t).map (·.size) = some ds.length) (hl : k + ds.length ≤ cs.length) (h1 : ∀ u ∈ ds, u.oneCell' = true)
    (hk : ∀ w', Arr w' g t0 (jputs cs k ds) → w.grownBy w' (some g) → wpList Tryz.prog ops Q rest (a.put o.dst undef) w') : wpList Tryz.prog ops Q (o :: rest) a w := by
  obtain ⟨a1, b1⟩ := jarr_puts ds cs k w h
  exact wpList_store_mid hgd t x y ho g k ds.toArray hx hy (jarr_there h (by simpa using hl)) (by simpa using hi) (all_oneCell_toArray h1) (hk _ (by simpa using a1) (by simpa using b1))
theorem wpList_blsO (hgd : o.guard = none) (x : Operand) (ho : o.op = .buildSlice 23 1 #[(0, x)]) {p : ByteArray} {t : Tm} {u : Value} (hx : a.eval x = .agg (ouC p t u).toArray)
    (hk : wpList Tryz.prog ops Q rest (a.put o.dst (.slice (some ⟨w.heap.size, 0, none⟩) 1 1)) (w.alloc (.cells (ouC p t u).toArray 54))) : wpList Tryz.prog ops Q (o :: rest) a w := by
  refine wpList_plain hgd fun K hK => ?_
  unfold Oper.wp execOp
  simp only [ho, List.map_toArray, List.map_cons, List.map_nil, hx, Sem.run_bind, ou_sl1, Result.andThen_ok, Sem.run_pure]
  exact hK _ _ hk
end
theorem tm_bld0 (W : World) : (Instr.build 52 #[]).run Tryz.prog W = .ok (.agg (tmC zT0 (.slice none 0 0)).toArray) W := by kernel_rfl
section
variable {ops : Array Oper} {rest : List Oper} {o : Oper} {a : Act} {Q : Exit → Act → World → Prop} {w : World}
theorem wpList_tm0 (hgd : o.guard = none) (ho : o.op = .build 52 #[]) (hk : wpList Tryz.prog ops Q rest (a.put o.dst (.agg (tmC zT0 (.slice none 0 0)).toArray)) w) : wpList Tryz.prog ops Q (o :: rest) a w := by
  refine wpList_plain hgd fun K hK => ?_
  unfold Oper.wp execOp
  simp only [ho, List.map_toArray, List.map_nil, Sem.run_bind, tm_bld0, Result.andThen_ok, Sem.run_pure]
  exact hK _ _ hk
end
theorem ou_load {W : World} {d : Nat} {v : Value} {os : List (ByteArray × Tm)} (h : IsOu W d v os) {j : Nat} (hj : j < os.length) : ∃ b o c u, v = .slice (some ⟨b, o, none⟩) os.length c ∧ W.rangeAt b (o + j * 6) (ouC (os.getD j ou0).1 (os.getD j ou0).2 u) ∧ IsTr W anyB d (os.getD j ou0).2.args u := by
  obtain ⟨a, c, rfl, _, _, _, hc⟩ := h
  obtain ⟨b, o, rfl, he⟩ := hc (by omega)
  obtain ⟨u, hr, ht⟩ := he j hj
  exact ⟨b, o, c, u, rfl, hr, ht⟩
/-- Outputs in a row of the call's own, whose terms lie where they lay. -/
structure OwnOc (w W : World) (B d : Nat) (v : Value) (os : List (ByteArray × Tm)) (V : Nat → Value) : Prop where
  row : W.ownsRow B 54 6 v os.length (ousC os V)
  each : ∀ j, j < os.length → IsTr w anyB d (os.getD j ou0).2.args (V j)
theorem OwnOc.nil (w W : World) (B d : Nat) : OwnOc w W B d (.slice none 0 0) [] (fun _ => undef) := ⟨World.ownsRow_nil _ _ _ _, fun j hj => by simp at hj⟩
theorem OwnOc.below {w W W' : World} {B d : Nat} {v : Value} {os : List (ByteArray × Tm)} {V : Nat → Value} (h : OwnOc w W B d v os V) (hb : Below W.heap.size W W') : OwnOc w W' B d v os V := ⟨owns_below h.row hb, h.each⟩
theorem OwnOc.no {w W : World} {B d : Nat} {v : Value} {os : List (ByteArray × Tm)} {V : Nat → Value} (h : OwnOc w W B d v os V) {b : Nat} (hb : v.ownBlock = some b) : B ≤ b ∧ b < W.heap.size := World.ownsRow.lt h.row b hb
theorem OwnOc.snoc {w W W' : World} {B d : Nat} {v v' u : Value} {os : List (ByteArray × Tm)} {o : ByteArray × Tm} {V : Nat → Value} (h : OwnOc w W B d v os V) (hk : IsTr w anyB d o.2.args u)
    (hr : W'.ownsRow B 54 6 v' (os.length + 1) (ousC os V ++ ouC o.1 o.2 u)) : OwnOc w W' B d v' (os ++ [o]) (fun j => if j = os.length then u else V j) := by
  refine ⟨by rw [ousC_snoc, List.length_append]; exact hr, fun j hj => ?_⟩
  rw [List.length_append] at hj
  by_cases e : j = os.length
  · subst e
    rw [List.getD_eq_getElem?_getD, List.getElem?_append_right (Nat.le_refl _), Nat.sub_self]
    show IsTr w _ d o.2.args (if os.length = os.length then u else V os.length)
    rw [if_pos rfl]
    exact hk
  · have hjl : j < os.length := by simp at hj; omega
    rw [List.getD_eq_getElem?_getD, List.getElem?_append_left hjl, ← List.getD_eq_getElem?_getD]
    simp only [if_neg e]
    exact h.each j hjl
theorem OwnOc.shape {w W : World} {B d : Nat} {v : Value} {os : List (ByteArray × Tm)} {V : Nat → Value} (h : OwnOc w W B d v os V) : ∃ a c, v = .slice a os.length c := by
  rcases h.row.2 with ⟨rfl, h0⟩ | ⟨g, cap, cur, rfl, _⟩
  · exact ⟨none, 0, by rw [h0]⟩
  · exact ⟨_, cap, rfl⟩
theorem OwnOc.isOu {w W : World} {B d : Nat} {v : Value} {os : List (ByteArray × Tm)} {V : Nat → Value} (h : OwnOc w W B d v os V) (hb : Below w.heap.size w W) : IsOu W d v os := by
  rcases Nat.eq_zero_or_pos os.length with h0 | hp
  · rcases h.row.2 with ⟨e, h1⟩ | ⟨g, cap, cur, e, hB, hg, h1, h2, h3, h4⟩
    · exact ⟨none, 0, by rw [e, h0], by omega, by decide, fun _ => rfl, fun h => absurd h (by omega)⟩
    · exact ⟨some ⟨g, 0, none⟩, cap, e, h1, by simpa [maxLen] using h2, fun e => (by cases e), fun h => absurd h (by omega)⟩
  · obtain ⟨g, c, e, h1, h2, h3, hcell⟩ := owns_shape h.row hp
    refine ⟨some ⟨g, 0, none⟩, c, e, h1, h2, fun e => (by cases e), fun _ => ⟨g, 0, rfl, fun j hj => ⟨V j, fun k x hx => ?_, (h.each j hj).below hb⟩⟩⟩
    have hk : k < 6 := (List.getElem?_eq_some_iff.1 hx).1
    rw [show 0 + j * 6 + k = j * 6 + k by omega, hcell _ (by omega), ousC_at hj hk, hx]
theorem ousW_app (a b : List (ByteArray × Tm)) : ousW (a ++ b) = ousW a + ousW b := by unfold ousW; rw [List.map_append, List.sum_append]
def smO (os : List (ByteArray × Tm)) : Prop := ∀ o ∈ os, o.1.size ≤ 2000000 ∧ smT o.2
theorem zT0_sm : smT zT0 := by
  rw [smT_eq]
  exact ⟨by decide, fun a ha => by cases ha⟩
theorem zT0_w (t : Tm) : tmW zT0 ≤ tmW t := by
  have h : tmW zT0 = 64 := by rw [tmW_eq]; rfl
  rw [h, tmW_eq]
  omega
def CutP (w : World) (d : Nat) (t : Tsk) (v : Value) (w' : World) : Prop := ∃ t', IsKa w' w.heap.size (d + 1) v t' ∧ smK t' ∧ tskW t' ≤ tskW t ∧ Below w.heap.size w w'
theorem insW_cut (l : List ByteArray) : insW (l.take 70) ≤ insW l := insW_le l 70
theorem rkS_ts {W W' : World} {B n g' : Nat} {v : Value} {cs ts : List Value} (h : Rk W B 9 1 v n cs) (hA : Arr W g' 25 ts) (hg : W.grownBy W' (some g')) : Rk W' B 9 1 v n cs := by
  obtain ⟨g, c, rfl, h⟩ := h
  exact ⟨g, c, rfl, owns_ts h hA (by decide) hg⟩
set_option maxRecDepth 100000 in
set_option maxHeartbeats 4000000 in
theorem cutTask_calls {w : World} {D : Nat} {t : Tsk} {vi vo : Value} (hi : IsS w vi t.ins) (ho : IsOu w D vo t.outs) (hs : smK t) (hl : tskW t ≤ 50000000) :
    Calls Tryz.prog 9 #[.agg (tsC t.name t.budget vi vo).toArray] w fun e w' => ∃ v, e = .returned v ∧ CutP w D t v w' := by
  have HI := hide hi
  have HO := hide ho
  have HS := hide hs
  have HL := hide hl
  have HN := hide (show t.ins.length ≤ 50000000 by have := ins_len t.ins; unfold tskW at hl; omega)
  obtain ⟨ai, ci, rfl, hic, him, _, hicc⟩ := hi
  obtain ⟨ao, co, rfl, hoc, hom⟩ := ho.shape
  obtain ⟨nm, bd, ins, outs⟩ := t
  have hoc : outs.length ≤ co := hoc
  have hic : ins.length ≤ ci := hic
  have hmo : (outs.length : Int) ≤ 9223372036854775807 := by omega
  have hmi : (ins.length : Int) ≤ 9223372036854775807 := by omega
  have HICC := hide hicc
  clear ho hs hl hicc hoc hom
  show Calls Tryz.prog 9 #[.agg (tsC nm bd (.slice ai ins.length ci) (.slice ao outs.length co)).toArray] w _
  by_cases hcut : 70 < ins.length
  · have hq : (70 : Int) < (ins.length : Int) := by omega
    obtain ⟨b0, o0, rfl, hcell0⟩ := HICC.out (by show 0 < ins.length; omega)
    have hsl : ∀ W2, (Instr.sliceAt 22 (.slice (some ⟨b0, o0, none⟩) ins.length ci) none (some (.int .i64 70)) none).run Tryz.prog W2 = .ok (.slice (some ⟨b0, o0, none⟩) 70 ci) W2 := fun W2 => slice_hSt b0 o0 ins.length ci 70 (by omega) W2 (by omega)
    have hci70 : (70 : Int) ≤ (ci : Int) := by omega
    have hcn0 : ¬ ci = 0 := by omega
    have hl70 : (ins.take 70).length = 70 := by rw [List.length_take]; omega
    have HIS : Hid (IsS w (.slice (some ⟨b0, o0, none⟩) 70 ci) (ins.take 70)) := hide ⟨_, ci, by rw [hl70], by omega, him, (fun e => by cases e), fun _ => ⟨b0, o0, rfl, fun j hj => by
      rw [hl70] at hj
      rw [hcell0 j (by show j < ins.length; omega), List.getD_eq_getElem?_getD, List.getD_eq_getElem?_getD, List.getElem?_take_of_lt (by omega)]⟩⟩
    clear hcell0 him hic hl70
    go_enter Tryz.func9, Tryz.ntmps9
    go_wp2_with (first
      | ((fail_if_success (clear HA2)); refine wpList_boxJ rfl 25 _ rfl rfl ?_; intro w2 hA2 hb2 hs2; have HA2 := hide hA2; have HB2 := hide hb2; clear hA2 hb2 hs2)
      | ((fail_if_success (clear HA3)); refine wpList_allocJ rfl 25 rfl infoTsz ?_; have HA3 := hide (Arr.new w2 zTs 25); have HB23 := hide (jalloc_below w2 (.cells zTs.toArray 25)); obtain ⟨w3, hw3⟩ : ∃ x, x = w2.alloc (.cells zTs.toArray 25) := ⟨_, rfl⟩; rw [← hw3] at HA3 HB23 ⊢; clear hw3; have hc2 := (tsC_arr (HA2.out.below HB23.out)).2.2.1; have HB3 := hide (below_then HB2.out HB23.out))
      | ((fail_if_success (clear HA4)); refine wpList_setP rfl (.tmp 15) (.tmp 14) 22 rfl (v := .slice (some ⟨b0, o0, none⟩) 70 ci) rfl rfl (HA2.out.below HB23.out) (by simp [tsC]) (by kernel_rfl) rfl ?_; intro w4 hA4 hg4; have HA4 : Hid (Arr w4 w.heap.size 25 (tsC nm bd (.slice (some ⟨b0, o0, none⟩) 70 ci) (.slice ao outs.length co))) := hide hA4; have HR4 := hide (arr_grown HA3.out hg4 (by have := HA2.out.lt; omega)); have HB4 := hide (HB3.out.grown hg4 HB3.out.size (fun k hk => by cases hk; exact Nat.le_refl _)); have HN4 := hide HA2.out.lt; clear hA4 hg4 hc2)
      | fail)
    clear hci70 hcn0
    clear HA2 HB2 HA3 HB23 HB3 hsl HI HICC
    go_loopw [3, 4, 5] (fun fv lv iv wr => ∃ (q : Int) (j : Nat) (os : List (ByteArray × Tm)) (V : Nat → Value), fv = .int .i64 q ∧ iv = .int .i64 (j : Int) ∧ j ≤ outs.length ∧ j ≤ 10 ∧ Hid (OwnOc w wr w4.heap.size D lv os V ∧ os.length = j ∧ ousW os ≤ ousW (outs.take j) ∧ smO os ∧ Below w4.heap.size w4 wr)) (fun _ _ iv _ => 10 - (intOf iv).toNat)
    case atStart => exact ⟨2000, 0, [], fun _ => undef, rfl, rfl, Nat.zero_le _, Nat.zero_le _, OwnOc.nil _ _ _ _, rfl, Nat.le_refl _, fun o ho => (by cases ho), Below.refl _ _⟩
    case round =>
      obtain ⟨q, j, os, V, rfl, rfl, hjq, hj10, HJ⟩ := hrel
      have HJB := hide HJ.out.2.2.2.2
      have HJO := hide HJ.out.1
      have hc3 := (tsC_arr (HA4.out.below HJB.out)).2.2.2
      by_cases hlt : j < outs.length ∧ j < 10
      · have hlti : (j : Int) < (outs.length : Int) := by omega
        have hltj : (j : Int) < 10 := by omega
        obtain ⟨b, o, _, u, hv, hr, ht⟩ := ou_load HO.out hlt.1
        cases hv
        have HBR := hide (below_then HB4.out HJB.out)
        have hrr := rangeAt_below hr HBR.out
        have HSM := hide (HS.out.2.2 (outs.getD j ou0) (by rw [List.getD_eq_getElem?_getD, List.getElem?_eq_getElem hlt.1]; exact List.getElem_mem hlt.1))
        have HTK := hide (ok_snoc hlt.1)
        have HND := hide (fun (W2 : World) (mo : Int) (h : Below w.heap.size w W2) => nodes_calls D W2 (outs.getD j ou0).2 u mo (ht.below h))
        have HTT := hide ht
        obtain ⟨ou, hou⟩ : ∃ x, x = outs.getD j ou0 := ⟨_, rfl⟩
        rw [← hou] at hrr HSM HTK HND HTT
        obtain ⟨p, T1⟩ := ou
        have hone := HTT.out.one
        have hwj : IntKind.i64.wrap ((j : Int) + 1) = ((j + 1 : Nat) : Int) := by rw [IntKind.wrap_i64]; omega
        clear hr ht hou
        go_wp2_with (first
          | ((fail_if_success (clear M0)); refine wpList_loadJ rfl 54 (.tmp 30) rfl b (o + j * 6) rfl (ouC p T1 u) _ hrr Tryz.underlying54 rfl (infoOus _ _ _) ?_; have M0 := hide True.intro)
          | ((fail_if_success (clear HA5)); refine wpList_allocJ rfl 54 rfl infoOuz ?_; have HA5 := hide (Arr.new wr zOu 54); have HB5 := hide (jalloc_below wr (.cells zOu.toArray 54)); obtain ⟨w5, hw5⟩ : ∃ x, x = wr.alloc (.cells zOu.toArray 54) := ⟨_, rfl⟩; rw [← hw5] at HA5 HB5 ⊢; clear hw5)
          | ((fail_if_success (clear HA6)); (have q := HA5.out; clear q); refine wpList_storeJ rfl (.tmp 6) (.tmp 31) 54 rfl rfl rfl HA5.out (infoOus _ _ _) rfl (ouC_one T1 hone) ?_; intro w6 hA6 hg6; have HA6 := hide hA6; have HB6 := hide (HB5.out.grown hg6 HB5.out.size (fun k hk => by cases hk; exact Nat.le_refl _)); clear hA6 hg6; have hrt := (ouC_arr HA6.out).2)
          | ((fail_if_success (clear M1)); (have q := HA6.out; clear q); refine wpList_loadJ rfl 52 (.tmp 32) rfl wr.heap.size 1 rfl (tmC T1 u) _ hrt Tryz.underlying52 rfl (infoTms _ _) ?_; have M1 := hide True.intro)
          | fail)
        refine (HND.out w6 _ (below_then HBR.out HB6.out)).mono ?_
        rintro e w7 ⟨⟨n7, rfl⟩, hb7⟩
        have HA7 := hide (HA6.out.below hb7)
        have HB7 := hide (below_then HB6.out hb7)
        clear hb7 HA6 HB6 HA5 HB5 hrr hrt HND M0 M1
        by_cases hnq : q < n7
        · have HNX : Hid True := hide True.intro
          go_wp2_with (first
            | ((fail_if_success (clear M2)); refine wpList_tm0 rfl rfl ?_; have M2 := hide True.intro)
            | ((fail_if_success (clear HA8)); (have q := M2.out; clear q); refine wpList_putP rfl (.tmp 39) (.tmp 38) 52 rfl (k := 1) rfl rfl HA7.out (infoTms _ _) (by simp [ouC, tmC]) (tmC_one zT0 rfl) ?_; intro w8 hA8 hg8; have HA8 : Hid (Arr w8 wr.heap.size 54 (ouC p zT0 (.slice none 0 0))) := hide hA8; have HB8 := hide (HB7.out.grown hg8 HB7.out.size (fun k hk => by cases hk; exact Nat.le_refl _)); clear hA8 hg8)
            | ((fail_if_success (clear M3)); (have q := HA8.out; clear q); refine wpList_loadJ rfl 54 (.tmp 6) rfl wr.heap.size 0 rfl (ouC p zT0 (.slice none 0 0)) _ HA8.out.rangeJ Tryz.underlying54 rfl (infoOus _ _ _) ?_; have M3 := hide True.intro)
            | ((fail_if_success (clear M4)); (have q := M3.out; clear q); refine wpList_blsO rfl (.tmp 44) rfl (p := p) (t := zT0) (u := .slice none 0 0) rfl ?_; have M4 := hide True.intro; have HB9 := hide (below_then HB8.out (jalloc_below w8 (.cells (ouC p zT0 (.slice none 0 0)).toArray 54))); have HA9 := hide (Arr.new w8 (ouC p zT0 (.slice none 0 0)) 54); obtain ⟨w9, hw9⟩ : ∃ x, x = w8.alloc (.cells (ouC p zT0 (.slice none 0 0)).toArray 54) := ⟨_, rfl⟩; rw [← hw9] at HB9 HA9 ⊢; clear hw9)
            | ((have q := M4.out; clear q); at_builtin; refine wpList_appRow (B := w4.heap.size) (t := 54) (s := 6) Tryz.underlying23 infoOuz (by rfl) (by decide) (by decide) rfl (.tmp 43) (.tmp 45) rfl (v := u4) (k := os.length) (cs := ousC os V) rfl (HJO.out.below HB9.out).row rfl (m := 1) rfl (ds := ouC p zT0 (.slice none 0 0)) rfl (fun j u hu => by rw [Addr.add_lit]; exact HA9.out.rangeJ j u hu) (ouC_one zT0 rfl) (by have := HJ.out.2.1; omega) (by have := HJB.out.size; have := HB9.out.size; omega) ?_; intro vx wx q1 q2 q3; have HOX := hide (OwnOc.snoc (o := (p, zT0)) (HJO.out.below HB9.out) (IsTr.nil _ _ _) q1); have HBX := hide ((below_then HJB.out HB9.out).grown q2 (below_then HJB.out HB9.out).size (fun b hb => (HJO.out.no hb).1)); clear q1 q2 q3)
            | fail)
          refine ⟨⟨_, j + 1, os ++ [(p, zT0)], _, rfl, by go_num, by omega, by omega, HOX.out, by rw [List.length_append, HJ.out.2.1]; rfl, by rw [HTK.out, ousW_app, ousW_app]; exact Nat.add_le_add HJ.out.2.2.1 (by unfold ousW; simp only [List.map_cons, List.map_nil, List.sum_cons, List.sum_nil]; have := zT0_w T1; omega), fun o ho => (by
            rcases List.mem_append.1 ho with h | h
            · exact HJ.out.2.2.2.1 o h
            · rw [List.mem_singleton.1 h]; exact ⟨HSM.out.1, zT0_sm⟩), HBX.out⟩, by simp [intOf]; omega⟩
        · have hnq2 : n7 ≤ q := by omega
          go_wp2_with (first
            | ((fail_if_success (clear M3)); refine wpList_loadJ rfl 54 (.tmp 6) rfl wr.heap.size 0 rfl (ouC p T1 u) _ HA7.out.rangeJ Tryz.underlying54 rfl (infoOus _ _ _) ?_; have M3 := hide True.intro)
            | ((fail_if_success (clear M4)); (have q := M3.out; clear q); refine wpList_blsO rfl (.tmp 44) rfl (p := p) (t := T1) (u := u) rfl ?_; have M4 := hide True.intro; have HB9 := hide (below_then HB7.out (jalloc_below w7 (.cells (ouC p T1 u).toArray 54))); have HA9 := hide (Arr.new w7 (ouC p T1 u) 54); obtain ⟨w9, hw9⟩ : ∃ x, x = w7.alloc (.cells (ouC p T1 u).toArray 54) := ⟨_, rfl⟩; rw [← hw9] at HB9 HA9 ⊢; clear hw9)
            | ((have q := M4.out; clear q); at_builtin; refine wpList_appRow (B := w4.heap.size) (t := 54) (s := 6) Tryz.underlying23 infoOuz (by rfl) (by decide) (by decide) rfl (.tmp 43) (.tmp 45) rfl (v := u4) (k := os.length) (cs := ousC os V) rfl (HJO.out.below HB9.out).row rfl (m := 1) rfl (ds := ouC p T1 u) rfl (fun j u hu => by rw [Addr.add_lit]; exact HA9.out.rangeJ j u hu) (ouC_one T1 hone) (by have := HJ.out.2.1; omega) (by have := HJB.out.size; have := HB9.out.size; omega) ?_; intro vx wx q1 q2 q3; have HOX := hide (OwnOc.snoc (o := (p, T1)) (HJO.out.below HB9.out) HTT.out q1); have HBX := hide ((below_then HJB.out HB9.out).grown q2 (below_then HJB.out HB9.out).size (fun b hb => (HJO.out.no hb).1)); clear q1 q2 q3)
            | fail)
          refine ⟨⟨_, j + 1, os ++ [(p, T1)], _, rfl, by go_num, by omega, by omega, HOX.out, by rw [List.length_append, HJ.out.2.1]; rfl, by rw [HTK.out, ousW_app, ousW_app]; exact Nat.add_le_add HJ.out.2.2.1 (Nat.le_refl _), fun o ho => (by
            rcases List.mem_append.1 ho with h | h
            · exact HJ.out.2.2.2.1 o h
            · rw [List.mem_singleton.1 h]; exact ⟨HSM.out.1, HSM.out.2⟩), HBX.out⟩, by simp [intOf]; omega⟩
      · obtain ⟨aL, cL, hvL⟩ := HJO.out.shape
        subst hvL
        have HAW := hide (HA4.out.below HJB.out)
        have HRW := hide (HR4.out.below HJB.out)
        have HBR := hide (below_then HB4.out HJB.out)
        have HOW := hide (show ousW os ≤ ousW outs from Nat.le_trans HJ.out.2.2.1 (ousW_le outs j))
        have HLW : Hid (ousW outs ≤ 50000000) := hide (by have h : 64 + nm.size + insW ins + ousW outs ≤ 50000000 := HL.out; omega)
        by_cases hA : j < outs.length
        · have hlti : (j : Int) < (outs.length : Int) := by omega
          have hltj : ¬ (j : Int) < 10 := by omega
          obtain ⟨I7, hI7⟩ : ∃ x, x = ins.take 70 := ⟨_, rfl⟩
          have HIS7 : Hid (IsS w (.slice (some ⟨b0, o0, none⟩) 70 ci) I7) := hide (by rw [hI7]; exact HIS.out)
          have HI7 := hide hI7
          clear hlt hA hI7
          go_wp2_with (first
            | ((fail_if_success (clear HA5)); refine wpList_setP rfl (.tmp 48) (.tmp 47) 23 rfl (v := .slice aL os.length cL) rfl rfl HAW.out (by simp [tsC]) (by kernel_rfl) rfl ?_; intro w5 hA5 hg5; have HA5 : Hid (Arr w5 w.heap.size 25 (tsC nm bd (.slice (some ⟨b0, o0, none⟩) 70 ci) (.slice aL os.length cL))) := hide hA5; have HR5 := hide (arr_grown HRW.out hg5 (by have := HN4.out; omega)); have HO5 := hide (OwnOc.mk (w := w) (owns_ts HJO.out.row HAW.out (by decide) hg5) HJO.out.each); have HB5 := hide (HBR.out.grown hg5 HBR.out.size (fun k hk => by cases hk; exact Nat.le_refl _)); clear hA5 hg5)
            | ((fail_if_success (clear M5)); (have q := HA5.out; clear q); refine wpList_loadJ rfl 25 (.tmp 1) rfl w.heap.size 0 rfl (tsC nm bd (.slice (some ⟨b0, o0, none⟩) 70 ci) (.slice aL os.length cL)) _ HA5.out.rangeJ Tryz.underlying25 rfl (infoTss _ _ _ _) ?_; have M5 := hide True.intro)
            | fail)
          refine (ctask_calls (HIS7.out.below HB5.out) (HO5.out.isOu HB5.out) (by rw [HI7.out, List.length_take]; omega) (by have := HOW.out; have := HLW.out; omega)).mono ?_
          rintro e w6 ⟨v6, rfl, HX⟩
          obtain ⟨vi6, vo6, rfl, hks, hko⟩ := HX.out.1
          have HKS := hide hks
          have HKO := hide hko
          have HR6 := hide (HR5.out.below HX.out.2)
          have HB6 := hide (below_then HB5.out HX.out.2)
          obtain ⟨g6, c6, rfl, _⟩ := hks
          obtain ⟨V6, ⟨h6, d6, rfl, _⟩, _⟩ := hko
          go_wp2_with (first
            | ((fail_if_success (clear HA7)); refine wpList_storeJ rfl (.tmp 2) (.tmp 50) 25 rfl rfl rfl HR6.out (infoTss _ _ _ _) rfl (tsC_one rfl rfl) ?_; intro w7 hA7 hg7; have HA7 := hide hA7; have HQ7 := hide (isKo_grown HKO.out HR6.out hg7); have HS7 := hide (rkS_ts HKS.out HR6.out hg7); have HB7 := hide (HB6.out.grown hg7 HB6.out.size (fun k hk => by cases hk; have := HN4.out; omega)); clear hA7 hg7)
            | fail)
          refine bodyPost_ret (results_tsk (q := 2) rfl rfl HA7.out rfl) rfl ?_
          exact ⟨_, rfl, ⟨nm, bd, I7, os⟩, ⟨_, _, rfl, HS7.out.mono HB5.out.size, HQ7.out.mono HB5.out.size⟩, ⟨HS.out.1, fun s hs => HS.out.2.1 s (List.mem_of_mem_take (by rw [← HI7.out]; exact hs)), HJ.out.2.2.2.1⟩, (by have h1 := insW_cut ins; have h2 := HOW.out; show 64 + nm.size + insW I7 + ousW os ≤ 64 + nm.size + insW ins + ousW outs; rw [HI7.out]; omega), HB7.out⟩
        · have hlti : ¬ (j : Int) < (outs.length : Int) := by omega
          obtain ⟨I7, hI7⟩ : ∃ x, x = ins.take 70 := ⟨_, rfl⟩
          have HIS7 : Hid (IsS w (.slice (some ⟨b0, o0, none⟩) 70 ci) I7) := hide (by rw [hI7]; exact HIS.out)
          have HI7 := hide hI7
          clear hlt hA hI7
          go_wp2_with (first
            | ((fail_if_success (clear HA5)); refine wpList_setP rfl (.tmp 48) (.tmp 47) 23 rfl (v := .slice aL os.length cL) rfl rfl HAW.out (by simp [tsC]) (by kernel_rfl) rfl ?_; intro w5 hA5 hg5; have HA5 : Hid (Arr w5 w.heap.size 25 (tsC nm bd (.slice (some ⟨b0, o0, none⟩) 70 ci) (.slice aL os.length cL))) := hide hA5; have HR5 := hide (arr_grown HRW.out hg5 (by have := HN4.out; omega)); have HO5 := hide (OwnOc.mk (w := w) (owns_ts HJO.out.row HAW.out (by decide) hg5) HJO.out.each); have HB5 := hide (HBR.out.grown hg5 HBR.out.size (fun k hk => by cases hk; exact Nat.le_refl _)); clear hA5 hg5)
            | ((fail_if_success (clear M5)); (have q := HA5.out; clear q); refine wpList_loadJ rfl 25 (.tmp 1) rfl w.heap.size 0 rfl (tsC nm bd (.slice (some ⟨b0, o0, none⟩) 70 ci) (.slice aL os.length cL)) _ HA5.out.rangeJ Tryz.underlying25 rfl (infoTss _ _ _ _) ?_; have M5 := hide True.intro)
            | fail)
          refine (ctask_calls (HIS7.out.below HB5.out) (HO5.out.isOu HB5.out) (by rw [HI7.out, List.length_take]; omega) (by have := HOW.out; have := HLW.out; omega)).mono ?_
          rintro e w6 ⟨v6, rfl, HX⟩
          obtain ⟨vi6, vo6, rfl, hks, hko⟩ := HX.out.1
          have HKS := hide hks
          have HKO := hide hko
          have HR6 := hide (HR5.out.below HX.out.2)
          have HB6 := hide (below_then HB5.out HX.out.2)
          obtain ⟨g6, c6, rfl, _⟩ := hks
          obtain ⟨V6, ⟨h6, d6, rfl, _⟩, _⟩ := hko
          go_wp2_with (first
            | ((fail_if_success (clear HA7)); refine wpList_storeJ rfl (.tmp 2) (.tmp 50) 25 rfl rfl rfl HR6.out (infoTss _ _ _ _) rfl (tsC_one rfl rfl) ?_; intro w7 hA7 hg7; have HA7 := hide hA7; have HQ7 := hide (isKo_grown HKO.out HR6.out hg7); have HS7 := hide (rkS_ts HKS.out HR6.out hg7); have HB7 := hide (HB6.out.grown hg7 HB6.out.size (fun k hk => by cases hk; have := HN4.out; omega)); clear hA7 hg7)
            | fail)
          refine bodyPost_ret (results_tsk (q := 2) rfl rfl HA7.out rfl) rfl ?_
          exact ⟨_, rfl, ⟨nm, bd, I7, os⟩, ⟨_, _, rfl, HS7.out.mono HB5.out.size, HQ7.out.mono HB5.out.size⟩, ⟨HS.out.1, fun s hs => HS.out.2.1 s (List.mem_of_mem_take (by rw [← HI7.out]; exact hs)), HJ.out.2.2.2.1⟩, (by have h1 := insW_cut ins; have h2 := HOW.out; show 64 + nm.size + insW I7 + ousW os ≤ 64 + nm.size + insW ins + ousW outs; rw [HI7.out]; omega), HB7.out⟩
  · have hq : ¬ (70 : Int) < (ins.length : Int) := by omega
    have hqd : decide ((70 : Int) < (ins.length : Int)) = false := decide_eq_false hq
    have HIS : Hid (IsS w (.slice ai ins.length ci) (ins.take 70)) := hide (by rw [List.take_of_length_le (by omega)]; exact HI.out)
    clear him hic
    go_enter Tryz.func9, Tryz.ntmps9
    go_wp2_with (first
      | ((fail_if_success (clear HA2)); refine wpList_boxJ rfl 25 _ rfl rfl ?_; intro w2 hA2 hb2 hs2; have HA2 := hide hA2; have HB2 := hide hb2; clear hA2 hb2 hs2)
      | ((fail_if_success (clear HA3)); refine wpList_allocJ rfl 25 rfl infoTsz ?_; have HA3 := hide (Arr.new w2 zTs 25); have HB23 := hide (jalloc_below w2 (.cells zTs.toArray 25)); obtain ⟨w3, hw3⟩ : ∃ x, x = w2.alloc (.cells zTs.toArray 25) := ⟨_, rfl⟩; rw [← hw3] at HA3 HB23 ⊢; clear hw3; have hc2 := (tsC_arr (HA2.out.below HB23.out)).2.2.1; have HB3 := hide (below_then HB2.out HB23.out))
      | fail)
    have HA4 := hide (HA2.out.below HB23.out)
    have HR4 := HA3
    have HB4 := HB3
    have HN4 := hide HA2.out.lt
    obtain ⟨w4, hw4⟩ : ∃ x, x = w3 := ⟨_, rfl⟩
    rw [← hw4] at HA4 HR4 HB4 ⊢
    clear hw4 HA2 HB2 HA3 HB23 HB3 HI HICC hc2
    go_loopw [3, 4, 5] (fun fv lv iv wr => ∃ (q : Int) (j : Nat) (os : List (ByteArray × Tm)) (V : Nat → Value), fv = .int .i64 q ∧ iv = .int .i64 (j : Int) ∧ j ≤ outs.length ∧ j ≤ 10 ∧ Hid (OwnOc w wr w4.heap.size D lv os V ∧ os.length = j ∧ ousW os ≤ ousW (outs.take j) ∧ smO os ∧ Below w4.heap.size w4 wr)) (fun _ _ iv _ => 10 - (intOf iv).toNat)
    case atStart => exact ⟨2000, 0, [], fun _ => undef, rfl, rfl, Nat.zero_le _, Nat.zero_le _, OwnOc.nil _ _ _ _, rfl, Nat.le_refl _, fun o ho => (by cases ho), Below.refl _ _⟩
    case round =>
      obtain ⟨q, j, os, V, rfl, rfl, hjq, hj10, HJ⟩ := hrel
      have HJB := hide HJ.out.2.2.2.2
      have HJO := hide HJ.out.1
      have hc3 := (tsC_arr (HA4.out.below HJB.out)).2.2.2
      by_cases hlt : j < outs.length ∧ j < 10
      · have hlti : (j : Int) < (outs.length : Int) := by omega
        have hltj : (j : Int) < 10 := by omega
        obtain ⟨b, o, _, u, hv, hr, ht⟩ := ou_load HO.out hlt.1
        cases hv
        have HBR := hide (below_then HB4.out HJB.out)
        have hrr := rangeAt_below hr HBR.out
        have HSM := hide (HS.out.2.2 (outs.getD j ou0) (by rw [List.getD_eq_getElem?_getD, List.getElem?_eq_getElem hlt.1]; exact List.getElem_mem hlt.1))
        have HTK := hide (ok_snoc hlt.1)
        have HND := hide (fun (W2 : World) (mo : Int) (h : Below w.heap.size w W2) => nodes_calls D W2 (outs.getD j ou0).2 u mo (ht.below h))
        have HTT := hide ht
        obtain ⟨ou, hou⟩ : ∃ x, x = outs.getD j ou0 := ⟨_, rfl⟩
        rw [← hou] at hrr HSM HTK HND HTT
        obtain ⟨p, T1⟩ := ou
        have hone := HTT.out.one
        have hwj : IntKind.i64.wrap ((j : Int) + 1) = ((j + 1 : Nat) : Int) := by rw [IntKind.wrap_i64]; omega
        clear hr ht hou
        go_wp2_with (first
          | ((fail_if_success (clear M0)); refine wpList_loadJ rfl 54 (.tmp 30) rfl b (o + j * 6) rfl (ouC p T1 u) _ hrr Tryz.underlying54 rfl (infoOus _ _ _) ?_; have M0 := hide True.intro)
          | ((fail_if_success (clear HA5)); refine wpList_allocJ rfl 54 rfl infoOuz ?_; have HA5 := hide (Arr.new wr zOu 54); have HB5 := hide (jalloc_below wr (.cells zOu.toArray 54)); obtain ⟨w5, hw5⟩ : ∃ x, x = wr.alloc (.cells zOu.toArray 54) := ⟨_, rfl⟩; rw [← hw5] at HA5 HB5 ⊢; clear hw5)
          | ((fail_if_success (clear HA6)); (have q := HA5.out; clear q); refine wpList_storeJ rfl (.tmp 6) (.tmp 31) 54 rfl rfl rfl HA5.out (infoOus _ _ _) rfl (ouC_one T1 hone) ?_; intro w6 hA6 hg6; have HA6 := hide hA6; have HB6 := hide (HB5.out.grown hg6 HB5.out.size (fun k hk => by cases hk; exact Nat.le_refl _)); clear hA6 hg6; have hrt := (ouC_arr HA6.out).2)
          | ((fail_if_success (clear M1)); (have q := HA6.out; clear q); refine wpList_loadJ rfl 52 (.tmp 32) rfl wr.heap.size 1 rfl (tmC T1 u) _ hrt Tryz.underlying52 rfl (infoTms _ _) ?_; have M1 := hide True.intro)
          | fail)
        refine (HND.out w6 _ (below_then HBR.out HB6.out)).mono ?_
        rintro e w7 ⟨⟨n7, rfl⟩, hb7⟩
        have HA7 := hide (HA6.out.below hb7)
        have HB7 := hide (below_then HB6.out hb7)
        clear hb7 HA6 HB6 HA5 HB5 hrr hrt HND M0 M1
        by_cases hnq : q < n7
        · have HNX : Hid True := hide True.intro
          go_wp2_with (first
            | ((fail_if_success (clear M2)); refine wpList_tm0 rfl rfl ?_; have M2 := hide True.intro)
            | ((fail_if_success (clear HA8)); (have q := M2.out; clear q); refine wpList_putP rfl (.tmp 39) (.tmp 38) 52 rfl (k := 1) rfl rfl HA7.out (infoTms _ _) (by simp [ouC, tmC]) (tmC_one zT0 rfl) ?_; intro w8 hA8 hg8; have HA8 : Hid (Arr w8 wr.heap.size 54 (ouC p zT0 (.slice none 0 0))) := hide hA8; have HB8 := hide (HB7.out.grown hg8 HB7.out.size (fun k hk => by cases hk; exact Nat.le_refl _)); clear hA8 hg8)
            | ((fail_if_success (clear M3)); (have q := HA8.out; clear q); refine wpList_loadJ rfl 54 (.tmp 6) rfl wr.heap.size 0 rfl (ouC p zT0 (.slice none 0 0)) _ HA8.out.rangeJ Tryz.underlying54 rfl (infoOus _ _ _) ?_; have M3 := hide True.intro)
            | ((fail_if_success (clear M4)); (have q := M3.out; clear q); refine wpList_blsO rfl (.tmp 44) rfl (p := p) (t := zT0) (u := .slice none 0 0) rfl ?_; have M4 := hide True.intro; have HB9 := hide (below_then HB8.out (jalloc_below w8 (.cells (ouC p zT0 (.slice none 0 0)).toArray 54))); have HA9 := hide (Arr.new w8 (ouC p zT0 (.slice none 0 0)) 54); obtain ⟨w9, hw9⟩ : ∃ x, x = w8.alloc (.cells (ouC p zT0 (.slice none 0 0)).toArray 54) := ⟨_, rfl⟩; rw [← hw9] at HB9 HA9 ⊢; clear hw9)
            | ((have q := M4.out; clear q); at_builtin; refine wpList_appRow (B := w4.heap.size) (t := 54) (s := 6) Tryz.underlying23 infoOuz (by rfl) (by decide) (by decide) rfl (.tmp 43) (.tmp 45) rfl (v := u4) (k := os.length) (cs := ousC os V) rfl (HJO.out.below HB9.out).row rfl (m := 1) rfl (ds := ouC p zT0 (.slice none 0 0)) rfl (fun j u hu => by rw [Addr.add_lit]; exact HA9.out.rangeJ j u hu) (ouC_one zT0 rfl) (by have := HJ.out.2.1; omega) (by have := HJB.out.size; have := HB9.out.size; omega) ?_; intro vx wx q1 q2 q3; have HOX := hide (OwnOc.snoc (o := (p, zT0)) (HJO.out.below HB9.out) (IsTr.nil _ _ _) q1); have HBX := hide ((below_then HJB.out HB9.out).grown q2 (below_then HJB.out HB9.out).size (fun b hb => (HJO.out.no hb).1)); clear q1 q2 q3)
            | fail)
          refine ⟨⟨_, j + 1, os ++ [(p, zT0)], _, rfl, by go_num, by omega, by omega, HOX.out, by rw [List.length_append, HJ.out.2.1]; rfl, by rw [HTK.out, ousW_app, ousW_app]; exact Nat.add_le_add HJ.out.2.2.1 (by unfold ousW; simp only [List.map_cons, List.map_nil, List.sum_cons, List.sum_nil]; have := zT0_w T1; omega), fun o ho => (by
            rcases List.mem_append.1 ho with h | h
            · exact HJ.out.2.2.2.1 o h
            · rw [List.mem_singleton.1 h]; exact ⟨HSM.out.1, zT0_sm⟩), HBX.out⟩, by simp [intOf]; omega⟩
        · have hnq2 : n7 ≤ q := by omega
          go_wp2_with (first
            | ((fail_if_success (clear M3)); refine wpList_loadJ rfl 54 (.tmp 6) rfl wr.heap.size 0 rfl (ouC p T1 u) _ HA7.out.rangeJ Tryz.underlying54 rfl (infoOus _ _ _) ?_; have M3 := hide True.intro)
            | ((fail_if_success (clear M4)); (have q := M3.out; clear q); refine wpList_blsO rfl (.tmp 44) rfl (p := p) (t := T1) (u := u) rfl ?_; have M4 := hide True.intro; have HB9 := hide (below_then HB7.out (jalloc_below w7 (.cells (ouC p T1 u).toArray 54))); have HA9 := hide (Arr.new w7 (ouC p T1 u) 54); obtain ⟨w9, hw9⟩ : ∃ x, x = w7.alloc (.cells (ouC p T1 u).toArray 54) := ⟨_, rfl⟩; rw [← hw9] at HB9 HA9 ⊢; clear hw9)
            | ((have q := M4.out; clear q); at_builtin; refine wpList_appRow (B := w4.heap.size) (t := 54) (s := 6) Tryz.underlying23 infoOuz (by rfl) (by decide) (by decide) rfl (.tmp 43) (.tmp 45) rfl (v := u4) (k := os.length) (cs := ousC os V) rfl (HJO.out.below HB9.out).row rfl (m := 1) rfl (ds := ouC p T1 u) rfl (fun j u hu => by rw [Addr.add_lit]; exact HA9.out.rangeJ j u hu) (ouC_one T1 hone) (by have := HJ.out.2.1; omega) (by have := HJB.out.size; have := HB9.out.size; omega) ?_; intro vx wx q1 q2 q3; have HOX := hide (OwnOc.snoc (o := (p, T1)) (HJO.out.below HB9.out) HTT.out q1); have HBX := hide ((below_then HJB.out HB9.out).grown q2 (below_then HJB.out HB9.out).size (fun b hb => (HJO.out.no hb).1)); clear q1 q2 q3)
            | fail)
          refine ⟨⟨_, j + 1, os ++ [(p, T1)], _, rfl, by go_num, by omega, by omega, HOX.out, by rw [List.length_append, HJ.out.2.1]; rfl, by rw [HTK.out, ousW_app, ousW_app]; exact Nat.add_le_add HJ.out.2.2.1 (Nat.le_refl _), fun o ho => (by
            rcases List.mem_append.1 ho with h | h
            · exact HJ.out.2.2.2.1 o h
            · rw [List.mem_singleton.1 h]; exact ⟨HSM.out.1, HSM.out.2⟩), HBX.out⟩, by simp [intOf]; omega⟩
      · obtain ⟨aL, cL, hvL⟩ := HJO.out.shape
        subst hvL
        have HAW := hide (HA4.out.below HJB.out)
        have HRW := hide (HR4.out.below HJB.out)
        have HBR := hide (below_then HB4.out HJB.out)
        have HOW := hide (show ousW os ≤ ousW outs from Nat.le_trans HJ.out.2.2.1 (ousW_le outs j))
        have HLW : Hid (ousW outs ≤ 50000000) := hide (by have h : 64 + nm.size + insW ins + ousW outs ≤ 50000000 := HL.out; omega)
        by_cases hA : j < outs.length
        · have hlti : (j : Int) < (outs.length : Int) := by omega
          have hltj : ¬ (j : Int) < 10 := by omega
          obtain ⟨I7, hI7⟩ : ∃ x, x = ins.take 70 := ⟨_, rfl⟩
          have HIS7 : Hid (IsS w (.slice ai ins.length ci) I7) := hide (by rw [hI7]; exact HIS.out)
          have HI7 := hide hI7
          clear hlt hA hI7
          go_wp2_with (first
            | ((fail_if_success (clear HA5)); refine wpList_setP rfl (.tmp 48) (.tmp 47) 23 rfl (v := .slice aL os.length cL) rfl rfl HAW.out (by simp [tsC]) (by kernel_rfl) rfl ?_; intro w5 hA5 hg5; have HA5 : Hid (Arr w5 w.heap.size 25 (tsC nm bd (.slice ai ins.length ci) (.slice aL os.length cL))) := hide hA5; have HR5 := hide (arr_grown HRW.out hg5 (by have := HN4.out; omega)); have HO5 := hide (OwnOc.mk (w := w) (owns_ts HJO.out.row HAW.out (by decide) hg5) HJO.out.each); have HB5 := hide (HBR.out.grown hg5 HBR.out.size (fun k hk => by cases hk; exact Nat.le_refl _)); clear hA5 hg5)
            | ((fail_if_success (clear M5)); (have q := HA5.out; clear q); refine wpList_loadJ rfl 25 (.tmp 1) rfl w.heap.size 0 rfl (tsC nm bd (.slice ai ins.length ci) (.slice aL os.length cL)) _ HA5.out.rangeJ Tryz.underlying25 rfl (infoTss _ _ _ _) ?_; have M5 := hide True.intro)
            | fail)
          refine (ctask_calls (HIS7.out.below HB5.out) (HO5.out.isOu HB5.out) (by rw [HI7.out, List.length_take]; omega) (by have := HOW.out; have := HLW.out; omega)).mono ?_
          rintro e w6 ⟨v6, rfl, HX⟩
          obtain ⟨vi6, vo6, rfl, hks, hko⟩ := HX.out.1
          have HKS := hide hks
          have HKO := hide hko
          have HR6 := hide (HR5.out.below HX.out.2)
          have HB6 := hide (below_then HB5.out HX.out.2)
          obtain ⟨g6, c6, rfl, _⟩ := hks
          obtain ⟨V6, ⟨h6, d6, rfl, _⟩, _⟩ := hko
          go_wp2_with (first
            | ((fail_if_success (clear HA7)); refine wpList_storeJ rfl (.tmp 2) (.tmp 50) 25 rfl rfl rfl HR6.out (infoTss _ _ _ _) rfl (tsC_one rfl rfl) ?_; intro w7 hA7 hg7; have HA7 := hide hA7; have HQ7 := hide (isKo_grown HKO.out HR6.out hg7); have HS7 := hide (rkS_ts HKS.out HR6.out hg7); have HB7 := hide (HB6.out.grown hg7 HB6.out.size (fun k hk => by cases hk; have := HN4.out; omega)); clear hA7 hg7)
            | fail)
          refine bodyPost_ret (results_tsk (q := 2) rfl rfl HA7.out rfl) rfl ?_
          exact ⟨_, rfl, ⟨nm, bd, I7, os⟩, ⟨_, _, rfl, HS7.out.mono HB5.out.size, HQ7.out.mono HB5.out.size⟩, ⟨HS.out.1, fun s hs => HS.out.2.1 s (List.mem_of_mem_take (by rw [← HI7.out]; exact hs)), HJ.out.2.2.2.1⟩, (by have h1 := insW_cut ins; have h2 := HOW.out; show 64 + nm.size + insW I7 + ousW os ≤ 64 + nm.size + insW ins + ousW outs; rw [HI7.out]; omega), HB7.out⟩
        · have hlti : ¬ (j : Int) < (outs.length : Int) := by omega
          obtain ⟨I7, hI7⟩ : ∃ x, x = ins.take 70 := ⟨_, rfl⟩
          have HIS7 : Hid (IsS w (.slice ai ins.length ci) I7) := hide (by rw [hI7]; exact HIS.out)
          have HI7 := hide hI7
          clear hlt hA hI7
          go_wp2_with (first
            | ((fail_if_success (clear HA5)); refine wpList_setP rfl (.tmp 48) (.tmp 47) 23 rfl (v := .slice aL os.length cL) rfl rfl HAW.out (by simp [tsC]) (by kernel_rfl) rfl ?_; intro w5 hA5 hg5; have HA5 : Hid (Arr w5 w.heap.size 25 (tsC nm bd (.slice ai ins.length ci) (.slice aL os.length cL))) := hide hA5; have HR5 := hide (arr_grown HRW.out hg5 (by have := HN4.out; omega)); have HO5 := hide (OwnOc.mk (w := w) (owns_ts HJO.out.row HAW.out (by decide) hg5) HJO.out.each); have HB5 := hide (HBR.out.grown hg5 HBR.out.size (fun k hk => by cases hk; exact Nat.le_refl _)); clear hA5 hg5)
            | ((fail_if_success (clear M5)); (have q := HA5.out; clear q); refine wpList_loadJ rfl 25 (.tmp 1) rfl w.heap.size 0 rfl (tsC nm bd (.slice ai ins.length ci) (.slice aL os.length cL)) _ HA5.out.rangeJ Tryz.underlying25 rfl (infoTss _ _ _ _) ?_; have M5 := hide True.intro)
            | fail)
          refine (ctask_calls (HIS7.out.below HB5.out) (HO5.out.isOu HB5.out) (by rw [HI7.out, List.length_take]; omega) (by have := HOW.out; have := HLW.out; omega)).mono ?_
          rintro e w6 ⟨v6, rfl, HX⟩
          obtain ⟨vi6, vo6, rfl, hks, hko⟩ := HX.out.1
          have HKS := hide hks
          have HKO := hide hko
          have HR6 := hide (HR5.out.below HX.out.2)
          have HB6 := hide (below_then HB5.out HX.out.2)
          obtain ⟨g6, c6, rfl, _⟩ := hks
          obtain ⟨V6, ⟨h6, d6, rfl, _⟩, _⟩ := hko
          go_wp2_with (first
            | ((fail_if_success (clear HA7)); refine wpList_storeJ rfl (.tmp 2) (.tmp 50) 25 rfl rfl rfl HR6.out (infoTss _ _ _ _) rfl (tsC_one rfl rfl) ?_; intro w7 hA7 hg7; have HA7 := hide hA7; have HQ7 := hide (isKo_grown HKO.out HR6.out hg7); have HS7 := hide (rkS_ts HKS.out HR6.out hg7); have HB7 := hide (HB6.out.grown hg7 HB6.out.size (fun k hk => by cases hk; have := HN4.out; omega)); clear hA7 hg7)
            | fail)
          refine bodyPost_ret (results_tsk (q := 2) rfl rfl HA7.out rfl) rfl ?_
          exact ⟨_, rfl, ⟨nm, bd, I7, os⟩, ⟨_, _, rfl, HS7.out.mono HB5.out.size, HQ7.out.mono HB5.out.size⟩, ⟨HS.out.1, fun s hs => HS.out.2.1 s (List.mem_of_mem_take (by rw [← HI7.out]; exact hs)), HJ.out.2.2.2.1⟩, (by have h1 := insW_cut ins; have h2 := HOW.out; show 64 + nm.size + insW I7 + ousW os ≤ 64 + nm.size + insW ins + ousW outs; rw [HI7.out]; omega), HB7.out⟩
end Go.Proofs.YtfhfobikbfbajaaGreatDoor
