/- The writer's line. The writer's task. -/
import Derived.Test.YtfhfobikbfbajaaGreatDoorTBE
import Derived.Test.YtfhfobikbfbajaaGreatDoorTBF
import Derived.Test.YtfhfobikbfbajaaGreatDoorTAG
import Derived.Test.YtfhfobikbfbajaaGreatDoorTBC
namespace Go.Proofs.YtfhfobikbfbajaaGreatDoor
open Go.RowKit Go.Maps Go.Shelf

/-- Words with a blank between two. -/
def jw (l : List ByteArray) : List UInt8 := Lib.join (l.map (·.data.toList)) [32]
theorem jw_cons (x : ByteArray) (l : List ByteArray) : jw (x :: l) = byL x ++ l.flatMap (fun s => 32 :: byL s) := by
  unfold jw
  rw [List.map_cons, Lib.join_cons]
  simp [Lib.joinTail, List.flatMap, byL, Function.comp_def]
theorem joinw_calls (bk o c : Nat) (l : List ByteArray) (w : World) (hcells : ∀ (j : Nat) x, l[j]? = some x → w.cell? ⟨bk, o + j, none⟩ = some (.string x)) (hbk : bk < w.heap.size) (hN : l.length ≤ 1000000) (hcap : l.length ≤ c) (hlen : (jw l).length ≤ 10000000000) : Calls Tryz.prog 97 #[.slice (some ⟨bk, o, none⟩) l.length c, .string ⟨#[32]⟩] w fun e w' => e = .returned (.string ⟨(jw l).toArray⟩) ∧ Below w.heap.size w w' :=
  Any.strings_Join laysJ extraJ bk o c l ⟨#[32]⟩ w hcells hbk (by omega) hcap (by
    show (jw l).length ≤ _
    omega)
section
variable {w W : World} {b : Nat} {l : List UInt8}
set_option maxRecDepth 100000 in
set_option maxHeartbeats 4000000 in
theorem wline_calls {ws : List ByteArray} {v : Value} (h : Wt w W W b l) (hS : IsS W v ws) (h0 : ws ≠ []) (hN : ws.length ≤ 1000000) (hl : l.length + (jw ws).length + 1 ≤ 10000000000) :
    Calls Tryz.prog 56 #[.pointer (some ⟨b, 0, none⟩), v] W fun e W' => e = .returned (.tuple #[]) ∧ Hid (Wt w W W' b (l ++ (jw ws ++ [10]))) := by
  obtain ⟨a, c, rfl, hlc, hmc, _, hcc⟩ := hS
  obtain ⟨bk, o, rfl, hcl⟩ := hcc (List.length_pos_iff.2 h0)
  have HW := hide h
  have hbk : bk < W.heap.size := World.block_lt_of_cell? W _ (hcl 0 (List.length_pos_iff.2 h0))
  have HJ : Hid (∀ W2, Below W.heap.size W W2 → Calls Tryz.prog 97 #[.slice (some ⟨bk, o, none⟩) ws.length c, .string ⟨#[32]⟩] W2 fun e w' => e = .returned (.string ⟨(jw ws).toArray⟩) ∧ Below W.heap.size W w') := hide (fun W2 hb => (joinw_calls bk o c ws W2 (fun j x hj => by
    have hjl : j < ws.length := (List.getElem?_eq_some_iff.1 hj).1
    have hc := hcl j hjl
    rw [List.getD_eq_getElem?_getD, hj] at hc
    exact (hb.cell (p := ⟨bk, o + j, none⟩) (World.block_lt_of_cell? W _ hc)).trans hc) (Nat.lt_of_lt_of_le hbk hb.size) hN hlc (by omega)).mono fun e w' ⟨e1, e2⟩ => ⟨e1, below_then hb e2⟩)
  obtain ⟨J, hJ⟩ : ∃ J, J = jw ws := ⟨_, rfl⟩
  rw [← hJ] at HJ hl ⊢
  have hby : byL ⟨J.toArray⟩ = J := by simp [byL]
  have HST : Hid (∀ W2, Below W.heap.size W W2 → Calls Tryz.prog 58 #[.pointer (some ⟨b, 0, none⟩), .string ⟨J.toArray⟩] W2 fun e W' => e = .returned (.tuple #[.int .i64 (ByteArray.mk J.toArray).size, .nilIface]) ∧ Hid (Wt w W W' b (l ++ J))) := hide (fun W2 hb => by
    have := wstr_calls (HW.out.below hb) ⟨J.toArray⟩ (by rw [← byL_len, hby]; omega)
    rw [hby] at this
    exact this)
  have HLE : Hid (l.length + J.length + 1 ≤ 10000000000) := hide hl
  clear h hcc hcl h0 hN hl hbk hlc hmc hby hJ
  go_enter Tryz.func56, Tryz.ntmps56
  go_wp2_with fail
  focus (go_region_held3 (fun _ => True) (exact trivial)
    (first
      | (go_at_call 97; refine (unhide HJ _ (by first | assumption | exact Below.refl _ _ | exact (Below.refl _ _).drew)).mono ?_; rintro e w6 ⟨rfl, hb6⟩)
      | (go_at_call 58; refine (unhide HST _ (by first | assumption | exact (Below.refl _ _).drew)).mono ?_; rintro e w7 ⟨rfl, HX⟩)))
  have HB := hide (wbyt_calls HX.out 10 (z := 10) rfl (by have := HLE.out; simp only [List.length_append]; omega))
  go_wp2_with fail
  refine (unhide HB).mono ?_
  rintro e w8 ⟨rfl, HY⟩
  go_wp2
  refine bodyPost_end (results_none rfl _ _ _) rfl ?_
  exact ⟨rfl, hide (by have := HY.out; rw [List.append_assoc] at this; exact this)⟩
end
end Go.Proofs.YtfhfobikbfbajaaGreatDoor

namespace Go.Proofs.YtfhfobikbfbajaaGreatDoor
open Go.RowKit Go.Maps

theorem roW1 (w : World) (B : Nat) (t : TypeId) (u : Value) (hB : B ≤ w.heap.size) : Row (w.alloc (.cells #[u] t)) B t (.slice (some ⟨w.heap.size, 0, none⟩) 1 1) [u] :=
  ⟨rfl, Or.inr ⟨w.heap.size, 1, #[u], rfl, hB, heap_alloc_last w _, Nat.le_refl _, by decide, rfl, rfl⟩⟩
section
variable {ops : Array Oper} {rest : List Oper} {o : Oper} {a : Act} {Q : Exit → Act → World → Prop} {w : World} {K : Act → World → Prop} {E : Prop}
theorem step_call2W (hw : Region.wanted o (yielded ops a.tmps) = true) (f : Nat) (hf : ∀ (v u : Value) (W : World), (callFunc f #[v, u]).run Tryz.prog W = .ok (.enter f #[v, u]) W) (x y : Operand) (ts : Array TypeId) (ho : o.op = .call { callee := .value (.func f), args := #[x, y], argTypes := ts }) {v u : Value} (hx : a.eval x = v) (hy : a.eval y = u)
    {Post : Ending → World → Prop} (hc : Calls Tryz.prog f #[v, u] w Post) (hk : ∀ e w2, Post e w2 → ∃ r, e = .returned r ∧ K (a.put o.dst r) w2) :
    if Region.wanted o (yielded ops a.tmps) = true then Oper.wp Tryz.prog o a w K Q else E := by
  rw [if_pos hw]
  have hrun : (execOp a.eval o).run Tryz.prog w = .ok (.enter f #[v, u]) w := by
    have h1 := hf v u w
    unfold execOp
    have hfv : a.eval (.func f) = .func (.func f) #[] #[] := rfl
    simp [ho, hx, hy, hfv, resolve, invoke, Deferred.ofValue, h1]
  unfold Oper.wp
  rw [hrun]
  refine hc.mono ?_
  intro e w2 hp
  obtain ⟨r, rfl, hK⟩ := hk e w2 hp
  exact hK
end
theorem byL_add (x y : ByteArray) : byL (x ++ y) = byL x ++ byL y := by simp [byL]
theorem hdB_jw (t : Tsk) : hdB t = jw [wTask, t.name, decW t.budget] ++ [10] := by
  rw [jw_cons]; simp [hdB]
theorem insBy_jw {l : List ByteArray} (h : l ≠ []) : insBy l = jw ([wIn] ++ l) ++ [10] := by
  rw [List.singleton_append, jw_cons]; simp [insBy, h]
theorem endB_jw : byL wEnd ++ [10] = jw [wEnd] ++ [10] := by rw [jw_cons]; simp
section
variable {w W : World} {b : Nat} {l : List UInt8}
set_option maxRecDepth 100000 in
set_option maxHeartbeats 4000000 in
theorem wtask_calls {D : Nat} {v : Value} {t : Tsk} (h : Wt w W W b l) (hT : IsTa w D v t) (hs : ∀ o ∈ t.outs, smT o.2) (hf : ∀ o ∈ t.outs, fitT nameB ptW 64 o.2 = true) (hbd : 0 ≤ t.budget ∧ t.budget ≤ 2147483647) (hin : t.ins.length ≤ 1000) (hP : Pg w) (hl : l.length + (skBy t).length ≤ 10000000000) :
    Calls Tryz.prog 34 #[.pointer (some ⟨b, 0, none⟩), v] W fun e W' => e = .returned (.tuple #[]) ∧ Hid (Wt w W W' b (l ++ skBy t)) := by
  obtain ⟨vi, vo, rfl, hi, ho⟩ := hT
  have HW := hide h
  have HI := hide hi
  have HO := hide ho
  have HS := hide hs
  have HF := hide hf
  have HP := hide hP
  have HIN := hide hin
  have hbd1 := hbd.1
  have HLQ : Hid (l.length + (hdB t).length + (insBy t.ins).length + (t.outs.flatMap outBy).length + (byL wEnd ++ [10]).length ≤ 10000000000) := hide (by rw [skBy_parts] at hl; simp only [List.length_append] at hl ⊢; omega)
  have HHD : Hid (hdB t = jw [wTask, t.name, decW t.budget] ++ [10]) := hide (hdB_jw t)
  have HSK := hide (skBy_parts t)
  obtain ⟨SK, hSK⟩ : ∃ q, q = skBy t := ⟨_, rfl⟩
  rw [← hSK] at HSK ⊢
  obtain ⟨HD, hHD⟩ : ∃ q, q = hdB t := ⟨_, rfl⟩
  rw [← hHD] at HSK HHD HLQ
  have HHDL : Hid (HD = hdB t) := hide hHD
  obtain ⟨nm, bd, ins, outs⟩ := t
  have HSK : Hid (SK = HD ++ (insBy ins ++ (outs.flatMap outBy ++ (byL wEnd ++ [10])))) := HSK
  have HLQ : Hid (l.length + HD.length + (insBy ins).length + (outs.flatMap outBy).length + (byL wEnd ++ [10]).length ≤ 10000000000) := HLQ
  have HIN : Hid (ins.length ≤ 1000) := HIN
  have HI : Hid (IsS w vi ins) := HI
  have HO : Hid (IsOu w D vo outs) := HO
  have HS : Hid (∀ o ∈ outs, smT o.2) := HS
  have HF : Hid (∀ o ∈ outs, fitT nameB ptW 64 o.2 = true) := HF
  have HBD : Hid (0 ≤ bd ∧ bd ≤ 2147483647) := hide hbd
  obtain ⟨ai, ci, rfl, hic, hmi⟩ : ∃ a c, vi = .slice a ins.length c ∧ ins.length ≤ c ∧ c ≤ 9223372036854775807 := by obtain ⟨a, c, e, h1, h2, _⟩ := hi; exact ⟨a, c, e, h1, h2⟩
  obtain ⟨ao, co, rfl, hoc, hmo⟩ := ho.shape
  have HHD : Hid (HD = jw [wTask, nm, decW bd] ++ [10]) := HHD
  have hii : (ins.length : Int) ≤ 9223372036854775807 := by omega
  have hoi : (outs.length : Int) ≤ 9223372036854775807 := by have : outs.length ≤ co := hoc; omega
  clear h hi ho hs hf hbd hin hP hl hSK hHD hbd1 hic hmi hoc hmo
  go_enter Tryz.func34, Tryz.ntmps34
  go_wp2_with (first
    | (refine wpList_boxJ rfl 25 (.tmp 1) rfl (cs := (tsC nm bd (.slice ai ins.length ci) (.slice ao outs.length co))) rfl ?_; intro w2 hA2 hb2 hs2; have HA2 := hide hA2; have HB2 := hide hb2; clear hA2 hb2 hs2)
    | fail)
  have HW2 := hide (HW.out.below HB2.out)
  have HIT : Hid (∀ W2, Below w2.heap.size w2 W2 → Calls Tryz.prog 57 #[.int .i64 bd] W2 fun e w' => e = .returned (.string (decW bd)) ∧ Below w2.heap.size w2 w') := hide (fun W2 hb => by have := itoa_callsY bd (by have := HBD.out.1; omega) (by have := HBD.out.2; omega) W2 (HP.out.below (HW2.out.below hb).base).nx; rw [itoa_dec HBD.out.1] at this; exact this.mono fun e w' ⟨e1, e2⟩ => ⟨e1, below_then hb e2⟩)
  have HLN : Hid (∀ W2, Below w2.heap.size w2 W2 → Calls Tryz.prog 56 #[.pointer (some ⟨b, 0, none⟩), .slice (some ⟨W2.heap.size, 0, none⟩) 3 3] (W2.alloc (.cells #[.string wTask, .string nm, .string (decW bd)] 9)) fun e w' => e = .returned (.tuple #[]) ∧ Hid (Wt w w2 w' b (l ++ HD))) := hide (fun W2 hb => by
    have hb3 := below_then hb (jalloc_below W2 (.cells #[.string wTask, .string nm, .string (decW bd)] 9))
    have := wline_calls (ws := [wTask, nm, decW bd]) (HW2.out.below hb3).rebase (isS_lit W2 [wTask, nm, decW bd] (by simp)) (by simp) (by simp) (by have := HLQ.out; rw [HHD.out] at this; simp only [List.length_append, List.length_cons, List.length_nil] at this ⊢; omega)
    rw [← HHD.out] at this
    exact this.mono fun e w' ⟨e1, e2⟩ => ⟨e1, hide ((HW2.out.rebase.below hb3).join e2.out)⟩)
  have HSS : Hid (∀ W2, (Below w2.heap.size w2 W2 ∨ Wt w w2 W2 b (l ++ HD)) → W2.cell? ⟨W.heap.size, 0, none⟩ = some (.string nm) ∧ W2.cell? ⟨W.heap.size, 1, none⟩ = some (.int .i64 bd)) := hide (fun W2 hh => by
    have hA : Arr W2 W.heap.size 25 (tsC nm bd (.slice ai ins.length ci) (.slice ao outs.length co)) := by
      rcases hh with hh | hh
      · exact HA2.out.below hh
      · exact HA2.out.ch hh.ch (by unfold WtT; decide)
    exact ⟨(tsC_arr hA).1, (tsC_arr hA).2.1⟩)
  focus (go_region_held3 (fun W2 => W2.cell? ⟨W.heap.size, 0, none⟩ = some (.string nm) ∧ W2.cell? ⟨W.heap.size, 1, none⟩ = some (.int .i64 bd))
    ((refine unhide HSS _ ?_; first | exact Or.inr HX.out | exact Or.inl (below_then hb6 (jalloc_below _ _)) | exact Or.inl hb6 | exact Or.inl (Below.refl _ _) | exact Or.inl (Below.refl _ _).drew))
    (first
      | (go_at_call 57; refine (unhide HIT _ (by first | assumption | exact Below.refl _ _ | exact (Below.refl _ _).drew)).mono ?_; rintro e w6 ⟨rfl, hb6⟩)
      | (go_at_call 56; refine (unhide HLN _ (by first | assumption | exact Below.refl _ _ | exact (Below.refl _ _).drew)).mono ?_; rintro e w7 ⟨rfl, HX⟩)))
  have HWT7 := hide ((HW.out.below HB2.out).join HX.out)
  have HA7 := hide (HA2.out.ch HX.out.ch (by unfold WtT; decide))
  clear HIT HLN HSS HX
  obtain ⟨t0, t1, t2, t3⟩ := tsC_arr HA7.out
  by_cases hne : ins = []
  · have hi0 : ¬ (0 : Int) < (ins.length : Int) := by rw [hne]; decide
    have hi0d : decide ((0 : Int) < (ins.length : Int)) = false := decide_eq_false hi0
    have HQ : Hid (Wt w W w7 b (l ++ (HD ++ insBy ins))) := hide (by have := HWT7.out; rw [hne]; simpa [insBy] using this)
    clear hne HWT7 HHD t0 t1
    have HOM : Hid (∀ j, j ≤ outs.length → ((outs.take j).flatMap outBy).length ≤ (outs.flatMap outBy).length) := hide (fun j _ => by
      have := congrArg List.length (List.flatMap_append (f := outBy) (xs := outs.take j) (ys := outs.drop j))
      rw [List.take_append_drop, List.length_append] at this
      omega)
    have HQW := hide HQ.out
    have HHL : Hid (5 ≤ HD.length) := hide (by rw [HHDL.out]; unfold hdB; simp [byL, wTask])
    clear HQ
    go_wp2_with fail
    go_loopw [27] (fun iv wr => ∃ j : Nat, iv = .int .i64 (j : Int) ∧ j ≤ outs.length ∧ Hid (Wt w W wr b ((l ++ (HD ++ insBy ins)) ++ (outs.take j).flatMap outBy))) (fun iv _ => outs.length - (intOf iv).toNat)
    case atStart => exact ⟨0, rfl, Nat.zero_le _, hide (by have := HQW.out; simpa using this)⟩
    case round =>
      obtain ⟨j, rfl, hjq, HJ⟩ := hrel
      by_cases hlt : j < outs.length
      · have hlti : (j : Int) < (outs.length : Int) := by omega
        obtain ⟨b', o, c', u', hv, hrg, htm⟩ := HO.out.at hlt
        cases hv
        have HHT := hide htm
        have hrr := rangeAt_below hrg HJ.out.base
        have hone := htm.one
        have HSJ := hide (HS.out _ (getOu (z := ou0) hlt))
        have HFJ := hide (HF.out _ (getOu (z := ou0) hlt))
        have HST : Hid ((outs.take (j + 1)).flatMap outBy = (outs.take j).flatMap outBy ++ outBy (outs.getD j ou0)) := hide (by rw [List.take_succ_eq_append_getElem hlt, List.flatMap_append, List.getD_eq_getElem?_getD, List.getElem?_eq_getElem hlt]; simp)
        have HLJ := hide (HOM.out (j + 1) (by omega))
        obtain ⟨O, hO⟩ : ∃ x, x = outs.getD j ou0 := ⟨_, rfl⟩
        rw [← hO] at HHT hrr HST HSJ HFJ
        obtain ⟨p, tm⟩ := O
        have HST : Hid ((outs.take (j + 1)).flatMap outBy = (outs.take j).flatMap outBy ++ (byL (((⟨#[111, 117, 116, 32]⟩ : ByteArray) ++ p) ++ ⟨#[32, 61, 32]⟩) ++ (tmB tm ++ [10]))) := hide (by rw [HST.out]; congr 1; rw [byL_add, byL_add]; unfold outBy; simp [byL, wOut])
        have hrr : wr.rangeAt b' (o + j * 6) (ouC p tm u') := hrr
        have hwj : IntKind.i64.wrap ((j : Int) + 1) = ((j + 1 : Nat) : Int) := by rw [IntKind.wrap_i64]; omega
        obtain ⟨lp, hlp⟩ : ∃ q, q = (l ++ (HD ++ insBy ins)) ++ (outs.take j).flatMap outBy := ⟨_, rfl⟩
        have HLP : Hid (lp.length + (byL (((⟨#[111, 117, 116, 32]⟩ : ByteArray) ++ p) ++ ⟨#[32, 61, 32]⟩)).length + (tmB tm).length + 1 ≤ 10000000000) := hide (by have h1 := HLJ.out; have h2 := HLQ.out; rw [HST.out] at h1; rw [hlp]; simp only [List.length_append, List.length_cons, List.length_nil] at h1 h2 ⊢; omega)
        have HLB : Hid (2 ≤ lp.length) := hide (by rw [hlp]; have := HHL.out; simp only [List.length_append]; omega)
        rw [← hlp] at HJ
        have HFIN : Hid ((l ++ (HD ++ insBy ins)) ++ (outs.take (j + 1)).flatMap outBy = ((lp ++ byL (((⟨#[111, 117, 116, 32]⟩ : ByteArray) ++ p) ++ ⟨#[32, 61, 32]⟩)) ++ tmB tm) ++ [10]) := hide (by rw [HST.out, hlp]; simp only [List.append_assoc])
        have hz0 : 4 + p.size + 3 ≤ 10000000000 := by have := HLP.out; rw [byL_len, ByteArray.size_append, ByteArray.size_append] at this; have e1 : (⟨#[111, 117, 116, 32]⟩ : ByteArray).size = 4 := rfl; have e2 : (⟨#[32, 61, 32]⟩ : ByteArray).size = 3 := rfl; omega
        have hz1 : 4 + p.size ≤ 9223372036854775807 := by omega
        have hz2 : 4 + p.size + 3 ≤ 9223372036854775807 := by omega
        obtain ⟨S7, hS7⟩ : ∃ q, q = (((⟨#[111, 117, 116, 32]⟩ : ByteArray) ++ p) ++ ⟨#[32, 61, 32]⟩) := ⟨_, rfl⟩
        rw [← hS7] at HLP HFIN
        have hadd : ((⟨#[111, 117, 116, 32]⟩ : ByteArray) ++ p) ++ ⟨#[32, 61, 32]⟩ = S7 := hS7.symm
        clear hrg htm hO hlp hS7 HST HLJ t3
        go_wp2_with (first
          | (refine wpList_loadJ rfl 54 (.tmp 29) rfl b' (o + j * 6) rfl (ouC p tm u') _ hrr Tryz.underlying54 rfl (infoOus _ _ _) ?_)
          | (refine wpList_allocJ rfl 54 rfl infoOuz ?_)
          | (refine wpList_storeJ rfl (.tmp 5) (.tmp 30) 54 rfl rfl rfl (Arr.new wr zOu 54) (infoOus _ _ _) rfl (ouC_one tm hone) ?_; intro w9 hA9 hg9; have HB9 := hide (jbelow_grown (jalloc_below wr (.cells zOu.toArray 54)) hg9 (by simp) (Nat.le_refl _)); have HA9 := hide hA9; clear hA9 hg9)
          | fail)
        have HJ9 := hide (HJ.out.below HB9.out)
        have HWS : Hid (∀ W2, Below w9.heap.size w9 W2 → Calls Tryz.prog 58 #[.pointer (some ⟨b, 0, none⟩), .string S7] W2 fun e W' => e = .returned (.tuple #[.int .i64 S7.size, .nilIface]) ∧ Hid (Wt w w9 W' b (lp ++ byL S7))) := hide (fun W2 hb => wstr_calls (HJ9.out.rebase.below hb) S7 (by have := HLP.out; rw [← byL_len]; omega))
        have HSS : Hid (∀ W2, (Below w9.heap.size w9 W2 ∨ Wt w w9 W2 b (lp ++ byL S7)) → W2.cell? ⟨wr.heap.size, 0, none⟩ = some (.string p)) := hide (fun W2 hh => by
          rcases hh with hh | hh
          · exact (ouC_arr (HA9.out.below hh)).1
          · exact (ouC_arr (HA9.out.ch hh.ch (by unfold WtT; decide))).1)
        refine wp_region_held_drew (S := fun W2 => W2.cell? ⟨wr.heap.size, 0, none⟩ = some (.string p)) (by kernel_rfl) (unhide HSS _ (Or.inl (Below.refl _ _).drew)) (fun hHeld => ?_)
        refine wpAnyH_take (i := 0) (v := .pointer (some ⟨b, 0, none⟩)) rfl (by kernel_rfl) (by kernel_rfl) (by kernel_rfl) (fun _ _ _ h => h) (Or.inl ⟨by rfl, fun w hSw => by go_simp⟩) (by assumption) ?_
        simp only [List.getElem_toArray, List.getElem_cons_zero, Act.put, List.setIfInBounds_toArray, List.set_cons_zero, List.set_cons_succ]
        refine wpAnyH_take (i := 1) (v := .pointer (some ⟨b, 0, none⟩)) rfl (by kernel_rfl) (by kernel_rfl) (by kernel_rfl) (fun _ _ _ h => h) (Or.inl ⟨by rfl, fun w hSw => by go_simp⟩) (by assumption) ?_
        simp only [List.getElem_toArray, List.getElem_cons_succ, List.getElem_cons_zero, Act.put, List.setIfInBounds_toArray, List.set_cons_zero, List.set_cons_succ]
        refine wpAnyH_take (i := 2) (v := .pointer (some ⟨b, 0, none⟩)) rfl (by kernel_rfl) (by kernel_rfl) (by kernel_rfl) (fun _ _ _ h => h) (Or.inl ⟨by rfl, fun w hSw => by go_simp⟩) (by assumption) ?_
        simp only [List.getElem_toArray, List.getElem_cons_succ, List.getElem_cons_zero, Act.put, List.setIfInBounds_toArray, List.set_cons_zero, List.set_cons_succ]
        refine wpAnyH_take (i := 3) (v := .pointer (some ⟨wr.heap.size, 0, none⟩)) rfl (by kernel_rfl) (by kernel_rfl) (by kernel_rfl) (fun _ _ _ h => h) (Or.inl ⟨by rfl, fun w hSw => by go_simp⟩) (by assumption) ?_
        simp only [List.getElem_toArray, List.getElem_cons_succ, List.getElem_cons_zero, Act.put, List.setIfInBounds_toArray, List.set_cons_zero, List.set_cons_succ]
        refine wpAnyH_take (i := 4) (v := .string p) rfl (by kernel_rfl) (by kernel_rfl) (by kernel_rfl) (fun _ _ _ h => h) (Or.inl ⟨by rfl, fun w hSw => by go_simp⟩) (by assumption) ?_
        simp only [List.getElem_toArray, List.getElem_cons_succ, List.getElem_cons_zero, Act.put, List.setIfInBounds_toArray, List.set_cons_zero, List.set_cons_succ]
        refine wpAnyH_take (i := 5) (v := .string ((⟨#[111, 117, 116, 32]⟩ : ByteArray) ++ p)) rfl (by kernel_rfl) (by kernel_rfl) (by kernel_rfl) (fun _ _ _ h => h) (Or.inl ⟨by rfl, fun w hSw => by go_simp⟩) (by assumption) ?_
        simp only [List.getElem_toArray, List.getElem_cons_succ, List.getElem_cons_zero, Act.put, List.setIfInBounds_toArray, List.set_cons_zero, List.set_cons_succ]
        refine wpAnyH_take (i := 6) (v := .string S7) rfl (by kernel_rfl) (by kernel_rfl) (by kernel_rfl) (fun _ _ _ h => h) (Or.inl ⟨by rfl, fun w hSw => by go_simp⟩) (by assumption) ?_
        simp only [List.getElem_toArray, List.getElem_cons_succ, List.getElem_cons_zero, Act.put, List.setIfInBounds_toArray, List.set_cons_zero, List.set_cons_succ]
        refine wpAnyH_ready (rs := [7]) (by kernel_rfl) (by simp) (AllReadyH.cons rfl (fun K hK => ?_) AllReadyH.nil)
        refine step_call2W (by rfl) 58 (fun v u W => by kernel_rfl) (.tmp 33) (.tmp 37) _ rfl rfl rfl (unhide HWS _ (Below.refl _ _).drew) ?_
        rintro e wa ⟨rfl, HX⟩
        refine ⟨_, rfl, ?_⟩
        refine hK.out _ _ (unhide HSS _ (Or.inr HX.out)) (fun hH2 => ?_)
        clear hK K
        simp only [List.getElem_toArray, List.getElem_cons_succ, List.getElem_cons_zero, Act.put, List.setIfInBounds_toArray, List.set_cons_zero, List.set_cons_succ]
        refine wpAnyH_done (by kernel_rfl) ?_ _
        have HJA := hide (HJ9.out.join HX.out)
        have hrt := (ouC_arr (HA9.out.ch HX.out.ch (by unfold WtT; decide))).2
        have HTC := hide (wterm_calls 64 HJA.out.rebase HHT.out HSJ.out HFJ.out HP.out (by have := HLB.out; simp only [List.length_append]; omega) (by have := HLP.out; simp only [List.length_append] at this ⊢; omega))
        clear HWS HSS HX hrr hone
        go_wp2_with (first
          | (refine wpList_loadJ rfl 52 (.tmp 40) rfl wr.heap.size 1 rfl (tmC tm u') _ hrt Tryz.underlying52 rfl (infoTms _ _) ?_)
          | fail)
        refine (unhide HTC).mono ?_
        rintro e wb ⟨rfl, HX⟩
        have HJB := hide (HJA.out.join HX.out)
        have HBT := hide (wbyt_calls HJB.out 10 (z := 10) rfl (by have := HLP.out; simp only [List.length_append] at this ⊢; omega))
        clear HTC HX hrt
        go_wp2_with fail
        refine (unhide HBT).mono ?_
        rintro e wc ⟨rfl, HX⟩
        clear HBT
        go_wp2
        go_roundw
        case rel => exact ⟨j + 1, by go_num, by omega, hide (by rw [HFIN.out]; exact HX.out)⟩
        case measure => simp [intOf]; omega
      · have hlti : ¬ (j : Int) < (outs.length : Int) := by omega
        have hltd : decide ((j : Int) < (outs.length : Int)) = false := decide_eq_false hlti
        have HE : Hid (Wt w W wr b ((l ++ (HD ++ insBy ins)) ++ outs.flatMap outBy)) := hide (by have := HJ.out; rw [show j = outs.length by omega, List.take_length] at this; exact this)
        have HBE := hide (jalloc_below wr (.cells #[.string wEnd] 9))
        have HLN : Hid (Calls Tryz.prog 56 #[.pointer (some ⟨b, 0, none⟩), .slice (some ⟨wr.heap.size, 0, none⟩) 1 1] (wr.alloc (.cells #[.string wEnd] 9)) fun e W' => e = .returned (.tuple #[]) ∧ Hid (Wt w (wr.alloc (.cells #[.string wEnd] 9)) W' b (((l ++ (HD ++ insBy ins)) ++ outs.flatMap outBy) ++ (jw [wEnd] ++ [10])))) := hide (wline_calls (ws := [wEnd]) (HE.out.below HBE.out).rebase (isS_lit wr [wEnd] (by simp)) (by simp) (by simp) (by have := HLQ.out; rw [endB_jw] at this; simp only [List.length_append, List.length_cons, List.length_nil] at this ⊢; omega))
        clear HJ t3
        go_wp2_with fail
        refine (unhide HLN).mono ?_
        rintro e wz ⟨rfl, HX⟩
        go_wp2
        refine bodyPost_end (results_none rfl _ _ _) rfl ?_
        exact ⟨rfl, hide (by have := (HE.out.below HBE.out).join HX.out; rw [← endB_jw] at this; rw [HSK.out]; simpa only [List.append_assoc] using this)⟩
  · have hi0 : (0 : Int) < (ins.length : Int) := by have := List.length_pos_iff.2 hne; omega
    have HB7 := hide (jalloc_below w7 (.cells #[.string wIn] 9))
    have HRW := hide (roW1 w7 w7.heap.size 9 (.string wIn) (Nat.le_refl _))
    have HIS := hide (HI.out.below (HWT7.out.base.trans (HB7.out.mono HWT7.out.base.size)))
    have HIB := hide (insBy_jw hne)
    have u2 : (w7.alloc (.cells #[.string ⟨#[105, 110]⟩] 9)).cell? ⟨W.heap.size, 2, none⟩ = some (.slice ai ins.length ci) := (HB7.out.cell (p := ⟨W.heap.size, 2, none⟩) (World.block_lt_of_cell? _ _ t2)).trans t2
    go_wp2_with (first
      | (at_builtin; refine wpList_appStr rfl (.tmp 19) (.tmp 21) rfl rfl (xs := [wIn]) HRW.out rfl HIS.out (by have := HIN.out; simp at this ⊢; omega) (by simp) ?_; intro v3 w3 hrow3 hg3; have HB3 := hide (jbelow_grown HB7.out hg3 (by simp) (Nat.le_refl _)); have HS3 := hide (Row.isS hrow3); clear hrow3 hg3; have HLN := hide (wline_calls (ws := [wIn] ++ ins) (HWT7.out.below HB3.out).rebase HS3.out (by simp) (by have := HIN.out; simp at this ⊢; omega) (by have := HLQ.out; rw [HIB.out] at this; simp only [List.length_append, List.length_cons, List.length_nil] at this ⊢; omega)))
      | fail)
    refine (unhide HLN).mono ?_
    rintro e w8 ⟨rfl, HX⟩
    have HQ : Hid (Wt w W w8 b (l ++ (HD ++ insBy ins))) := hide (by have := (HWT7.out.below HB3.out).join HX.out; rw [HIB.out, ← List.append_assoc]; exact this)
    have HA8 := hide ((HA7.out.below HB3.out).ch HX.out.ch (by unfold WtT; decide))
    obtain ⟨t0, t1, t2', t3⟩ := tsC_arr HA8.out
    clear hne HWT7 HLN HX HS3 HRW HHD
    have HOM : Hid (∀ j, j ≤ outs.length → ((outs.take j).flatMap outBy).length ≤ (outs.flatMap outBy).length) := hide (fun j _ => by
      have := congrArg List.length (List.flatMap_append (f := outBy) (xs := outs.take j) (ys := outs.drop j))
      rw [List.take_append_drop, List.length_append] at this
      omega)
    have HQW := hide HQ.out
    have HHL : Hid (5 ≤ HD.length) := hide (by rw [HHDL.out]; unfold hdB; simp [byL, wTask])
    clear HQ
    go_wp2_with fail
    go_loopw [27] (fun iv wr => ∃ j : Nat, iv = .int .i64 (j : Int) ∧ j ≤ outs.length ∧ Hid (Wt w W wr b ((l ++ (HD ++ insBy ins)) ++ (outs.take j).flatMap outBy))) (fun iv _ => outs.length - (intOf iv).toNat)
    case atStart => exact ⟨0, rfl, Nat.zero_le _, hide (by have := HQW.out; simpa using this)⟩
    case round =>
      obtain ⟨j, rfl, hjq, HJ⟩ := hrel
      by_cases hlt : j < outs.length
      · have hlti : (j : Int) < (outs.length : Int) := by omega
        obtain ⟨b', o, c', u', hv, hrg, htm⟩ := HO.out.at hlt
        cases hv
        have HHT := hide htm
        have hrr := rangeAt_below hrg HJ.out.base
        have hone := htm.one
        have HSJ := hide (HS.out _ (getOu (z := ou0) hlt))
        have HFJ := hide (HF.out _ (getOu (z := ou0) hlt))
        have HST : Hid ((outs.take (j + 1)).flatMap outBy = (outs.take j).flatMap outBy ++ outBy (outs.getD j ou0)) := hide (by rw [List.take_succ_eq_append_getElem hlt, List.flatMap_append, List.getD_eq_getElem?_getD, List.getElem?_eq_getElem hlt]; simp)
        have HLJ := hide (HOM.out (j + 1) (by omega))
        obtain ⟨O, hO⟩ : ∃ x, x = outs.getD j ou0 := ⟨_, rfl⟩
        rw [← hO] at HHT hrr HST HSJ HFJ
        obtain ⟨p, tm⟩ := O
        have HST : Hid ((outs.take (j + 1)).flatMap outBy = (outs.take j).flatMap outBy ++ (byL (((⟨#[111, 117, 116, 32]⟩ : ByteArray) ++ p) ++ ⟨#[32, 61, 32]⟩) ++ (tmB tm ++ [10]))) := hide (by rw [HST.out]; congr 1; rw [byL_add, byL_add]; unfold outBy; simp [byL, wOut])
        have hrr : wr.rangeAt b' (o + j * 6) (ouC p tm u') := hrr
        have hwj : IntKind.i64.wrap ((j : Int) + 1) = ((j + 1 : Nat) : Int) := by rw [IntKind.wrap_i64]; omega
        obtain ⟨lp, hlp⟩ : ∃ q, q = (l ++ (HD ++ insBy ins)) ++ (outs.take j).flatMap outBy := ⟨_, rfl⟩
        have HLP : Hid (lp.length + (byL (((⟨#[111, 117, 116, 32]⟩ : ByteArray) ++ p) ++ ⟨#[32, 61, 32]⟩)).length + (tmB tm).length + 1 ≤ 10000000000) := hide (by have h1 := HLJ.out; have h2 := HLQ.out; rw [HST.out] at h1; rw [hlp]; simp only [List.length_append, List.length_cons, List.length_nil] at h1 h2 ⊢; omega)
        have HLB : Hid (2 ≤ lp.length) := hide (by rw [hlp]; have := HHL.out; simp only [List.length_append]; omega)
        rw [← hlp] at HJ
        have HFIN : Hid ((l ++ (HD ++ insBy ins)) ++ (outs.take (j + 1)).flatMap outBy = ((lp ++ byL (((⟨#[111, 117, 116, 32]⟩ : ByteArray) ++ p) ++ ⟨#[32, 61, 32]⟩)) ++ tmB tm) ++ [10]) := hide (by rw [HST.out, hlp]; simp only [List.append_assoc])
        have hz0 : 4 + p.size + 3 ≤ 10000000000 := by have := HLP.out; rw [byL_len, ByteArray.size_append, ByteArray.size_append] at this; have e1 : (⟨#[111, 117, 116, 32]⟩ : ByteArray).size = 4 := rfl; have e2 : (⟨#[32, 61, 32]⟩ : ByteArray).size = 3 := rfl; omega
        have hz1 : 4 + p.size ≤ 9223372036854775807 := by omega
        have hz2 : 4 + p.size + 3 ≤ 9223372036854775807 := by omega
        obtain ⟨S7, hS7⟩ : ∃ q, q = (((⟨#[111, 117, 116, 32]⟩ : ByteArray) ++ p) ++ ⟨#[32, 61, 32]⟩) := ⟨_, rfl⟩
        rw [← hS7] at HLP HFIN
        have hadd : ((⟨#[111, 117, 116, 32]⟩ : ByteArray) ++ p) ++ ⟨#[32, 61, 32]⟩ = S7 := hS7.symm
        clear hrg htm hO hlp hS7 HST HLJ t3
        go_wp2_with (first
          | (refine wpList_loadJ rfl 54 (.tmp 29) rfl b' (o + j * 6) rfl (ouC p tm u') _ hrr Tryz.underlying54 rfl (infoOus _ _ _) ?_)
          | (refine wpList_allocJ rfl 54 rfl infoOuz ?_)
          | (refine wpList_storeJ rfl (.tmp 5) (.tmp 30) 54 rfl rfl rfl (Arr.new wr zOu 54) (infoOus _ _ _) rfl (ouC_one tm hone) ?_; intro w9 hA9 hg9; have HB9 := hide (jbelow_grown (jalloc_below wr (.cells zOu.toArray 54)) hg9 (by simp) (Nat.le_refl _)); have HA9 := hide hA9; clear hA9 hg9)
          | fail)
        have HJ9 := hide (HJ.out.below HB9.out)
        have HWS : Hid (∀ W2, Below w9.heap.size w9 W2 → Calls Tryz.prog 58 #[.pointer (some ⟨b, 0, none⟩), .string S7] W2 fun e W' => e = .returned (.tuple #[.int .i64 S7.size, .nilIface]) ∧ Hid (Wt w w9 W' b (lp ++ byL S7))) := hide (fun W2 hb => wstr_calls (HJ9.out.rebase.below hb) S7 (by have := HLP.out; rw [← byL_len]; omega))
        have HSS : Hid (∀ W2, (Below w9.heap.size w9 W2 ∨ Wt w w9 W2 b (lp ++ byL S7)) → W2.cell? ⟨wr.heap.size, 0, none⟩ = some (.string p)) := hide (fun W2 hh => by
          rcases hh with hh | hh
          · exact (ouC_arr (HA9.out.below hh)).1
          · exact (ouC_arr (HA9.out.ch hh.ch (by unfold WtT; decide))).1)
        refine wp_region_held_drew (S := fun W2 => W2.cell? ⟨wr.heap.size, 0, none⟩ = some (.string p)) (by kernel_rfl) (unhide HSS _ (Or.inl (Below.refl _ _).drew)) (fun hHeld => ?_)
        refine wpAnyH_take (i := 0) (v := .pointer (some ⟨b, 0, none⟩)) rfl (by kernel_rfl) (by kernel_rfl) (by kernel_rfl) (fun _ _ _ h => h) (Or.inl ⟨by rfl, fun w hSw => by go_simp⟩) (by assumption) ?_
        simp only [List.getElem_toArray, List.getElem_cons_zero, Act.put, List.setIfInBounds_toArray, List.set_cons_zero, List.set_cons_succ]
        refine wpAnyH_take (i := 1) (v := .pointer (some ⟨b, 0, none⟩)) rfl (by kernel_rfl) (by kernel_rfl) (by kernel_rfl) (fun _ _ _ h => h) (Or.inl ⟨by rfl, fun w hSw => by go_simp⟩) (by assumption) ?_
        simp only [List.getElem_toArray, List.getElem_cons_succ, List.getElem_cons_zero, Act.put, List.setIfInBounds_toArray, List.set_cons_zero, List.set_cons_succ]
        refine wpAnyH_take (i := 2) (v := .pointer (some ⟨b, 0, none⟩)) rfl (by kernel_rfl) (by kernel_rfl) (by kernel_rfl) (fun _ _ _ h => h) (Or.inl ⟨by rfl, fun w hSw => by go_simp⟩) (by assumption) ?_
        simp only [List.getElem_toArray, List.getElem_cons_succ, List.getElem_cons_zero, Act.put, List.setIfInBounds_toArray, List.set_cons_zero, List.set_cons_succ]
        refine wpAnyH_take (i := 3) (v := .pointer (some ⟨wr.heap.size, 0, none⟩)) rfl (by kernel_rfl) (by kernel_rfl) (by kernel_rfl) (fun _ _ _ h => h) (Or.inl ⟨by rfl, fun w hSw => by go_simp⟩) (by assumption) ?_
        simp only [List.getElem_toArray, List.getElem_cons_succ, List.getElem_cons_zero, Act.put, List.setIfInBounds_toArray, List.set_cons_zero, List.set_cons_succ]
        refine wpAnyH_take (i := 4) (v := .string p) rfl (by kernel_rfl) (by kernel_rfl) (by kernel_rfl) (fun _ _ _ h => h) (Or.inl ⟨by rfl, fun w hSw => by go_simp⟩) (by assumption) ?_
        simp only [List.getElem_toArray, List.getElem_cons_succ, List.getElem_cons_zero, Act.put, List.setIfInBounds_toArray, List.set_cons_zero, List.set_cons_succ]
        refine wpAnyH_take (i := 5) (v := .string ((⟨#[111, 117, 116, 32]⟩ : ByteArray) ++ p)) rfl (by kernel_rfl) (by kernel_rfl) (by kernel_rfl) (fun _ _ _ h => h) (Or.inl ⟨by rfl, fun w hSw => by go_simp⟩) (by assumption) ?_
        simp only [List.getElem_toArray, List.getElem_cons_succ, List.getElem_cons_zero, Act.put, List.setIfInBounds_toArray, List.set_cons_zero, List.set_cons_succ]
        refine wpAnyH_take (i := 6) (v := .string S7) rfl (by kernel_rfl) (by kernel_rfl) (by kernel_rfl) (fun _ _ _ h => h) (Or.inl ⟨by rfl, fun w hSw => by go_simp⟩) (by assumption) ?_
        simp only [List.getElem_toArray, List.getElem_cons_succ, List.getElem_cons_zero, Act.put, List.setIfInBounds_toArray, List.set_cons_zero, List.set_cons_succ]
        refine wpAnyH_ready (rs := [7]) (by kernel_rfl) (by simp) (AllReadyH.cons rfl (fun K hK => ?_) AllReadyH.nil)
        refine step_call2W (by rfl) 58 (fun v u W => by kernel_rfl) (.tmp 33) (.tmp 37) _ rfl rfl rfl (unhide HWS _ (Below.refl _ _).drew) ?_
        rintro e wa ⟨rfl, HX⟩
        refine ⟨_, rfl, ?_⟩
        refine hK.out _ _ (unhide HSS _ (Or.inr HX.out)) (fun hH2 => ?_)
        clear hK K
        simp only [List.getElem_toArray, List.getElem_cons_succ, List.getElem_cons_zero, Act.put, List.setIfInBounds_toArray, List.set_cons_zero, List.set_cons_succ]
        refine wpAnyH_done (by kernel_rfl) ?_ _
        have HJA := hide (HJ9.out.join HX.out)
        have hrt := (ouC_arr (HA9.out.ch HX.out.ch (by unfold WtT; decide))).2
        have HTC := hide (wterm_calls 64 HJA.out.rebase HHT.out HSJ.out HFJ.out HP.out (by have := HLB.out; simp only [List.length_append]; omega) (by have := HLP.out; simp only [List.length_append] at this ⊢; omega))
        clear HWS HSS HX hrr hone
        go_wp2_with (first
          | (refine wpList_loadJ rfl 52 (.tmp 40) rfl wr.heap.size 1 rfl (tmC tm u') _ hrt Tryz.underlying52 rfl (infoTms _ _) ?_)
          | fail)
        refine (unhide HTC).mono ?_
        rintro e wb ⟨rfl, HX⟩
        have HJB := hide (HJA.out.join HX.out)
        have HBT := hide (wbyt_calls HJB.out 10 (z := 10) rfl (by have := HLP.out; simp only [List.length_append] at this ⊢; omega))
        clear HTC HX hrt
        go_wp2_with fail
        refine (unhide HBT).mono ?_
        rintro e wc ⟨rfl, HX⟩
        clear HBT
        go_wp2
        go_roundw
        case rel => exact ⟨j + 1, by go_num, by omega, hide (by rw [HFIN.out]; exact HX.out)⟩
        case measure => simp [intOf]; omega
      · have hlti : ¬ (j : Int) < (outs.length : Int) := by omega
        have hltd : decide ((j : Int) < (outs.length : Int)) = false := decide_eq_false hlti
        have HE : Hid (Wt w W wr b ((l ++ (HD ++ insBy ins)) ++ outs.flatMap outBy)) := hide (by have := HJ.out; rw [show j = outs.length by omega, List.take_length] at this; exact this)
        have HBE := hide (jalloc_below wr (.cells #[.string wEnd] 9))
        have HLN : Hid (Calls Tryz.prog 56 #[.pointer (some ⟨b, 0, none⟩), .slice (some ⟨wr.heap.size, 0, none⟩) 1 1] (wr.alloc (.cells #[.string wEnd] 9)) fun e W' => e = .returned (.tuple #[]) ∧ Hid (Wt w (wr.alloc (.cells #[.string wEnd] 9)) W' b (((l ++ (HD ++ insBy ins)) ++ outs.flatMap outBy) ++ (jw [wEnd] ++ [10])))) := hide (wline_calls (ws := [wEnd]) (HE.out.below HBE.out).rebase (isS_lit wr [wEnd] (by simp)) (by simp) (by simp) (by have := HLQ.out; rw [endB_jw] at this; simp only [List.length_append, List.length_cons, List.length_nil] at this ⊢; omega))
        clear HJ t3
        go_wp2_with fail
        refine (unhide HLN).mono ?_
        rintro e wz ⟨rfl, HX⟩
        go_wp2
        refine bodyPost_end (results_none rfl _ _ _) rfl ?_
        exact ⟨rfl, hide (by have := (HE.out.below HBE.out).join HX.out; rw [← endB_jw] at this; rw [HSK.out]; simpa only [List.append_assoc] using this)⟩
end
end Go.Proofs.YtfhfobikbfbajaaGreatDoor
