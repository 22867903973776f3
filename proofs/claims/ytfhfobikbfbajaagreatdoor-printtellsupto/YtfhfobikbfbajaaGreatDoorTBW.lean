/- The law's own task of one input; is it printed? Is the law's own task printed? PrintTells, walked. From a walk to a row, for package print: tasks and keys opened. -/
import Derived.Test.YtfhfobikbfbajaaGreatDoorTBU
import Derived.Test.YtfhfobikbfbajaaGreatDoorTBV
import Derived.Test.YtfhfobikbfbajaaGreatDoorRows
import Derived.Test.YtfhfobikbfbajaaGreatDoorTAU
import Derived.Test.YtfhfobikbfbajaaGreatDoorTAO
import Derived.Deep.Strs
import Derived.Deep.Slices
import Derived.ChangeMaps5
import Derived.ProofKit
import Derived.OpenShut
import Derived.Deep.DeepHandedRow
import Derived.SizedLaws
namespace Go.Proofs.YtfhfobikbfbajaaGreatDoor
open Go.RowKit Go.Maps

def wX : ByteArray := ⟨#[120]⟩
def wO : ByteArray := ⟨#[111]⟩
def wA : ByteArray := ⟨#[97]⟩
def oneT : Tm := ⟨2, wX, 0, 0, []⟩
def oneK : Tsk := ⟨wA, 9, [wX], [(wO, oneT)]⟩
section
variable {ops : Array Oper} {rest : List Oper} {o : Oper} {a : Act} {Q : Exit → Act → World → Prop} {w : World}
theorem wpList_bldG2 (hgd : o.guard = none) (t : TypeId) (i j : Nat) (x y : Operand) (ho : o.op = .build t #[(i, x), (j, y)]) {vx vy v : Value} (hx : a.eval x = vx) (hy : a.eval y = vy) (hrun : ∀ W, (Instr.build t #[(i, vx), (j, vy)]).run Tryz.prog W = .ok v W)
    (hk : wpList Tryz.prog ops Q rest (a.put o.dst v) w) : wpList Tryz.prog ops Q (o :: rest) a w := by
  refine wpList_plain hgd fun K hK => ?_
  unfold Oper.wp execOp
  simp only [ho, hx, hy, hrun, List.map_toArray, List.map_cons, List.map_nil, Sem.run_bind, Sem.run_pure, Result.andThen_ok]
  exact hK _ _ hk
theorem wpList_bldG4 (hgd : o.guard = none) (t : TypeId) (x y z q : Operand) (ho : o.op = .build t #[(0, x), (1, y), (2, z), (3, q)]) {vx vy vz vq v : Value} (hx : a.eval x = vx) (hy : a.eval y = vy) (hz : a.eval z = vz) (hq : a.eval q = vq) (hrun : ∀ W, (Instr.build t #[(0, vx), (1, vy), (2, vz), (3, vq)]).run Tryz.prog W = .ok v W)
    (hk : wpList Tryz.prog ops Q rest (a.put o.dst v) w) : wpList Tryz.prog ops Q (o :: rest) a w := by
  refine wpList_plain hgd fun K hK => ?_
  unfold Oper.wp execOp
  simp only [ho, hx, hy, hz, hq, hrun, List.map_toArray, List.map_cons, List.map_nil, Sem.run_bind, Sem.run_pure, Result.andThen_ok]
  exact hK _ _ hk
theorem wpList_blsG1 (hgd : o.guard = none) (t e : TypeId) (x : Operand) (ho : o.op = .buildSlice t 1 #[(0, x)]) {vx : Value} {cs : List Value} (hx : a.eval x = vx) (hrun : ∀ W, (Instr.buildSlice t 1 #[(0, vx)]).run Tryz.prog W = .ok (.slice (some ⟨W.heap.size, 0, none⟩) 1 1) (W.alloc (.cells cs.toArray e)))
    (hk : wpList Tryz.prog ops Q rest (a.put o.dst (.slice (some ⟨w.heap.size, 0, none⟩) 1 1)) (w.alloc (.cells cs.toArray e))) : wpList Tryz.prog ops Q (o :: rest) a w := by
  refine wpList_plain hgd fun K hK => ?_
  unfold Oper.wp execOp
  simp only [ho, hx, hrun, List.map_toArray, List.map_cons, List.map_nil, Sem.run_bind, Sem.run_pure, Result.andThen_ok]
  exact hK _ _ hk
end
theorem one_s (W : World) : (Instr.buildSlice 22 1 #[(0, .string ⟨#[120]⟩)]).run Tryz.prog W = .ok (.slice (some ⟨W.heap.size, 0, none⟩) 1 1) (W.alloc (.cells (sV [wX]).toArray 9)) := by kernel_rfl
theorem one_t (W : World) : (Instr.build 52 #[(0, .int .i64 2), (1, .string ⟨#[120]⟩)]).run Tryz.prog W = .ok (.agg (tmC oneT (.slice none 0 0)).toArray) W := by kernel_rfl
theorem one_o (W : World) : (Instr.build 54 #[(0, .string ⟨#[111]⟩), (1, .agg (tmC oneT (.slice none 0 0)).toArray)]).run Tryz.prog W = .ok (.agg (ouC wO oneT (.slice none 0 0)).toArray) W := by kernel_rfl
theorem one_os (W : World) : (Instr.buildSlice 23 1 #[(0, .agg (ouC wO oneT (.slice none 0 0)).toArray)]).run Tryz.prog W = .ok (.slice (some ⟨W.heap.size, 0, none⟩) 1 1) (W.alloc (.cells (ouC wO oneT (.slice none 0 0)).toArray 54)) := by kernel_rfl
theorem one_k (g h : Nat) (W : World) : (Instr.build 25 #[(0, .string ⟨#[97]⟩), (1, .int .i64 9), (2, .slice (some ⟨g, 0, none⟩) 1 1), (3, .slice (some ⟨h, 0, none⟩) 1 1)]).run Tryz.prog W = .ok (.agg (tsC wA 9 (.slice (some ⟨g, 0, none⟩) 1 1) (.slice (some ⟨h, 0, none⟩) 1 1)).toArray) W := by kernel_rfl
def OneP (w : World) (v : Value) (w' : World) : Prop := ∃ vi vo, v = .agg (tsC wA 9 vi vo).toArray ∧ IsS w' vi [wX] ∧ IsOu w' 1 vo [(wO, oneT)] ∧ Below w.heap.size w w'
set_option maxRecDepth 100000 in
set_option maxHeartbeats 4000000 in
theorem one_calls (w : World) : Calls Tryz.prog 21 #[] w fun e w' => ∃ v, e = .returned v ∧ OneP w v w' := by
  go_enter Tryz.func21, Tryz.ntmps21
  go_wp2_with (first
    | ((fail_if_success (clear M0)); refine wpList_allocJ rfl 25 rfl infoTsz ?_; have HA2 := hide (Arr.new w zTs 25); have HB2 := hide (jalloc_below w (.cells zTs.toArray 25)); obtain ⟨w2, hw2⟩ : ∃ x, x = w.alloc (.cells zTs.toArray 25) := ⟨_, rfl⟩; rw [← hw2] at HA2 HB2 ⊢; clear hw2; have M0 := hide True.intro)
    | ((fail_if_success (clear M1)); (have q := M0.out; clear q); refine wpList_blsG1 rfl 22 9 (.const (.string ⟨#[120]⟩)) rfl rfl one_s ?_; have HA3 := hide (Arr.new w2 (sV [wX]) 9); have HB3 := hide (jalloc_below w2 (.cells (sV [wX]).toArray 9)); obtain ⟨w3, hw3⟩ : ∃ x, x = w2.alloc (.cells (sV [wX]).toArray 9) := ⟨_, rfl⟩; rw [← hw3] at HA3 HB3 ⊢; clear hw3; have M1 := hide True.intro)
    | ((fail_if_success (clear M2)); (have q := M1.out; clear q); refine wpList_bldG2 rfl 52 0 1 (.const (.int .i64 2)) (.const (.string ⟨#[120]⟩)) rfl rfl rfl one_t ?_; have M2 := hide True.intro)
    | ((fail_if_success (clear M3)); (have q := M2.out; clear q); refine wpList_bldG2 rfl 54 0 1 (.const (.string ⟨#[111]⟩)) (.tmp 2) rfl rfl rfl one_o ?_; have M3 := hide True.intro)
    | ((fail_if_success (clear M4)); (have q := M3.out; clear q); refine wpList_blsG1 rfl 23 54 (.tmp 3) rfl rfl one_os ?_; have HA4 := hide (Arr.new w3 (ouC wO oneT (.slice none 0 0)) 54); have HB4 := hide (jalloc_below w3 (.cells (ouC wO oneT (.slice none 0 0)).toArray 54)); obtain ⟨w4, hw4⟩ : ∃ x, x = w3.alloc (.cells (ouC wO oneT (.slice none 0 0)).toArray 54) := ⟨_, rfl⟩; rw [← hw4] at HA4 HB4 ⊢; clear hw4; have M4 := hide True.intro)
    | ((fail_if_success (clear M5)); (have q := M4.out; clear q); refine wpList_bldG4 rfl 25 (.const (.string ⟨#[97]⟩)) (.const (.int .i64 9)) (.tmp 1) (.tmp 4) rfl rfl rfl rfl rfl (one_k w2.heap.size w3.heap.size) ?_; have M5 := hide True.intro)
    | ((fail_if_success (clear M6)); (have q := M5.out; clear q); refine wpList_storeJ rfl (.tmp 0) (.tmp 5) 25 rfl rfl rfl ((HA2.out.below HB3.out).below HB4.out) (infoTss _ _ _ _) rfl (tsC_one rfl rfl) ?_; intro w5 hA5 hg5; have HA5 := hide hA5; have HS5 := hide ((HA3.out.below HB4.out).keep (hg5.block _ (HA3.out.below HB4.out).lt (fun e => by injection e with e; have := HA2.out.lt; omega))); have HO5 := hide (HA4.out.keep (hg5.block _ HA4.out.lt (fun e => by injection e with e; have := HA2.out.lt; have := HB3.out.size; omega))); have HB5 := hide ((below_then (below_then HB2.out HB3.out) HB4.out).grown hg5 (below_then (below_then HB2.out HB3.out) HB4.out).size (fun k hk => by cases hk; exact Nat.le_refl _)); clear hA5 hg5; have M6 := hide True.intro)
    | fail)
  simp only [Act.put, List.setIfInBounds_toArray, List.set_cons_zero, List.set_cons_succ]
  refine bodyPost_ret (results_tsk (q := 0) rfl rfl HA5.out rfl) rfl ?_
  refine ⟨_, rfl, _, _, rfl, ⟨_, 1, rfl, Nat.le_refl _, by decide, (fun e => by cases e), fun _ => ⟨w2.heap.size, 0, rfl, fun j hj => ?_⟩⟩, ⟨_, 1, rfl, Nat.le_refl _, by decide, (fun e => by cases e), fun _ => ⟨w3.heap.size, 0, rfl, fun j hj => ?_⟩⟩, HB5.out⟩
  · have : j = 0 := by simpa using hj
    subst this
    exact HS5.out.cell 0
  · have : j = 0 := by simpa using hj
    subst this
    exact ⟨.slice none 0 0, HO5.out.rangeJ, IsTr.nil _ _ _⟩
end Go.Proofs.YtfhfobikbfbajaaGreatDoor

namespace Go.Proofs.YtfhfobikbfbajaaGreatDoor
open Go.RowKit Go.Maps

def k7 : List UInt8 := 7 :: List.replicate 31 0
theorem k7_b (W : World) : (Instr.build 32 #[(0, .int .u8 7)]).run Tryz.prog W = .ok (.agg (kyC k7).toArray) W := by kernel_rfl
theorem k7_s (W : World) : (Instr.buildSlice 26 1 #[(0, .agg (kyC k7).toArray)]).run Tryz.prog W = .ok (.slice (some ⟨W.heap.size, 0, none⟩) 1 1) (W.alloc (.cells (kyC k7).toArray 32)) := by kernel_rfl
theorem isKs_nil (W : World) : IsKs W (.slice none 0 0) [] := ⟨none, 0, rfl, Nat.le_refl _, by decide, fun _ => rfl, fun h => absurd h (by simp), fun k hk => by simp at hk⟩
theorem isKs_k7 (W : World) : IsKs (W.alloc (.cells (kyC k7).toArray 32)) (.slice (some ⟨W.heap.size, 0, none⟩) 1 1) [k7] := by
  refine ⟨_, 1, rfl, Nat.le_refl _, by decide, (fun e => by cases e), fun _ => ⟨W.heap.size, 0, rfl, fun j hj => ?_⟩, fun k hk => ?_⟩
  · have : j = 0 := by simpa using hj
    subst this
    exact (Arr.new W (kyC k7) 32).rangeJ
  · rw [List.mem_singleton.1 hk]; rfl
theorem oneK_sm : smK oneK := by
  refine ⟨by decide, fun s hs => ?_, fun o ho => ?_⟩
  · rw [List.mem_singleton.1 hs]; decide
  · rw [List.mem_singleton.1 ho]
    refine ⟨by decide, ?_⟩
    rw [smT_eq]
    exact ⟨by decide, fun a ha => by cases ha⟩
theorem oneK_w : tskW oneK ≤ 50000000 := by
  have h : tmW oneT = 64 + 4 * wX.size + 0 := by rw [tmW_eq]; rfl
  have e1 : wX.size = 1 := rfl
  have e2 : wA.size = 1 := rfl
  have e3 : wO.size = 1 := rfl
  unfold tskW insW ousW oneK
  simp only [List.map_cons, List.map_nil, List.sum_cons, List.sum_nil, h, e1, e2, e3]
  omega
set_option maxRecDepth 100000 in
set_option maxHeartbeats 4000000 in
theorem told_calls {w : World} (hP : Pg w) (hTK : TabK w) (hTS : TabS w) : Calls Tryz.prog 7 #[] w fun e w' => e = .returned (.bool true) ∧ Below w.heap.size w w' := by
  have HPR : Hid (∀ (W2 : World) (vi vo v : Value) (ks : List (List UInt8)), Below w.heap.size w W2 → IsS W2 vi [wX] → IsOu W2 1 vo [(wO, oneT)] → IsKs W2 v ks → ks.length ≤ 1000 → Calls Tryz.prog 8 #[.agg (tsC wA 9 vi vo).toArray, v] W2 fun e w' => e = .returned (.bool true) ∧ Below W2.heap.size W2 w') := hide (fun W2 vi vo v ks h h1 h2 h3 hn => prints_calls (t := oneK) h1 h2 h3 oneK_sm oneK_w hn (hP.below h) (hTK.below h) (hTS.below h))
  clear hP hTK hTS
  go_enter Tryz.func7, Tryz.ntmps7
  go_wp2_with fail
  refine (one_calls w).mono ?_
  rintro e w2 ⟨v2, rfl, vi2, vo2, rfl, h1, h2, hb2⟩
  have H1 := hide h1
  have H2 := hide h2
  have HB2 := hide hb2
  clear h1 h2 hb2
  go_wp2_with (first
    | ((fail_if_success (clear M0)); refine wpList_bld1 rfl 32 0 (.const (.int .u8 7)) rfl (vx := .int .u8 7) (v := .agg (kyC k7).toArray) rfl k7_b ?_; have M0 := hide True.intro)
    | ((fail_if_success (clear HK3)); (have q := M0.out; clear q); refine wpList_blsG1 rfl 26 32 (.tmp 2) rfl rfl k7_s ?_; have HK3 := hide (isKs_k7 w2); have HB23 := hide (jalloc_below w2 (.cells (kyC k7).toArray 32)); obtain ⟨w3, hw3⟩ : ∃ x, x = w2.alloc (.cells (kyC k7).toArray 32) := ⟨_, rfl⟩; rw [← hw3] at HK3 HB23 ⊢; clear hw3)
    | fail)
  refine (HPR.out w3 _ _ _ [k7] (below_then HB2.out HB23.out) (H1.out.below HB23.out) (H2.out.below HB23.out) HK3.out (by decide)).mono ?_
  rintro e w4 ⟨rfl, hb4⟩
  have HB4 := hide (below_then (below_then HB2.out HB23.out) hb4)
  clear hb4 HB2 HB23 H1 H2 HK3
  go_wp2_with fail
  refine (one_calls w4).mono ?_
  rintro e w5 ⟨v5, rfl, vi5, vo5, rfl, h1, h2, hb5⟩
  have H1 := hide h1
  have H2 := hide h2
  have HB5 := hide (below_then HB4.out hb5)
  clear h1 h2 hb5 HB4
  go_wp2_with fail
  refine (HPR.out w5 _ _ _ [] HB5.out H1.out H2.out (isKs_nil w5) (by decide)).mono ?_
  rintro e w6 ⟨rfl, hb6⟩
  go_wp2
  go_ret
  exact ⟨rfl, below_then HB5.out hb6⟩
end Go.Proofs.YtfhfobikbfbajaaGreatDoor

namespace Go.Proofs.YtfhfobikbfbajaaGreatDoor
open Go.RowKit Go.Maps

set_option maxRecDepth 100000 in
set_option maxHeartbeats 4000000 in
theorem printTells_walk {w : World} {D : Nat} {t : Tsk} {vi vo v : Value} {ks : List (List UInt8)} (hi : IsS w vi t.ins) (ho : IsOu w D vo t.outs) (hK : IsKs w v ks) (hs : smK t) (hl : tskW t ≤ 50000000) (hP : Pg w) (hTK : TabK w) (hTS : TabS w) :
    Calls Tryz.prog 3 #[.agg (tsC t.name t.budget vi vo).toArray, v] w fun e w' => e = .returned (.bool true) ∧ Below w.heap.size w w' := by
  have HTO := hide (fun (W2 : World) (h : Below w.heap.size w W2) => told_calls (hP.below h) (hTK.below h) (hTS.below h))
  have HCT := hide (fun (W2 : World) (h : Below w.heap.size w W2) => cutTask_calls (hi.below h) (ho.below h) hs hl)
  have HCK := hide (fun (W2 : World) (h : Below w.heap.size w W2) => cutKeys_calls (hK.below h))
  have HPR := hide (fun (W2 : World) (D2 : Nat) (t2 : Tsk) (vi2 vo2 v2 : Value) (h : Below w.heap.size w W2) (h1 : IsS W2 vi2 t2.ins) (h2 : IsOu W2 D2 vo2 t2.outs) (h3 : IsKs W2 v2 (ks.take 70)) (h4 : smK t2) (h5 : tskW t2 ≤ 50000000) => prints_calls h1 h2 h3 h4 h5 (by rw [List.length_take]; omega) (hP.below h) (hTK.below h) (hTS.below h))
  have HL := hide hl
  obtain ⟨ai, ci, rfl, _⟩ := hi
  obtain ⟨ao, co, rfl, _, _⟩ := ho.shape
  obtain ⟨ak, ck, rfl, _⟩ := hK
  obtain ⟨nm, bd, ins, outs⟩ := t
  clear ho hs hl hP hTK hTS
  show Calls Tryz.prog 3 #[.agg (tsC nm bd (.slice ai ins.length ci) (.slice ao outs.length co)).toArray, .slice ak ks.length ck] w _
  go_enter Tryz.func3, Tryz.ntmps3
  go_wp2_with (first
    | ((fail_if_success (clear HA2)); refine wpList_boxJ rfl 25 _ rfl rfl ?_; intro w2 hA2 hb2 hs2; have HA2 := hide hA2; have HB2 := hide hb2; clear hA2 hb2 hs2)
    | fail)
  refine (HTO.out w2 HB2.out).mono ?_
  rintro e w3 ⟨rfl, hb3⟩
  have HB3 := hide (below_then HB2.out hb3)
  have HA3 := hide (HA2.out.below hb3)
  clear hb3 HTO HB2 HA2
  go_wp2_with (first
    | ((fail_if_success (clear M0)); refine wpList_loadJ rfl 25 (.tmp 2) rfl w.heap.size 0 rfl (tsC nm bd (.slice ai ins.length ci) (.slice ao outs.length co)) _ HA3.out.rangeJ Tryz.underlying25 rfl (infoTss _ _ _ _) ?_; have M0 := hide True.intro)
    | fail)
  refine (HCT.out w3 HB3.out).mono ?_
  rintro e w4 ⟨v4, rfl, t4, hk4, hs4, hl4, hb4⟩
  have HB4 := hide (below_then HB3.out hb4)
  obtain ⟨vi4, vo4, e4, hi4, ho4⟩ := hk4.isTa
  subst e4
  have HI4 := hide hi4
  have HO4 := hide ho4
  have HS4 := hide hs4
  have HL4 := hide (show tskW t4 ≤ 50000000 by have := HL.out; omega)
  clear hk4 hs4 hl4 hb4 hi4 ho4 HCT M0 HA3
  go_wp2_with fail
  refine (HCK.out w4 HB4.out).mono ?_
  rintro e w5 ⟨v5, rfl, hk5, rfl⟩
  have HK5 := hide hk5
  clear hk5 HCK
  go_wp2_with fail
  refine (HPR.out w5 _ t4 _ _ _ HB4.out HI4.out HO4.out HK5.out HS4.out HL4.out).mono ?_
  rintro e w6 ⟨rfl, hb6⟩
  go_wp2
  go_ret
  exact ⟨rfl, below_then HB4.out hb6⟩
end Go.Proofs.YtfhfobikbfbajaaGreatDoor

namespace Go.Proofs.YtfhfobikbfbajaaGreatDoor
open Go.ChangeShapes Go.WideShapes Go.ChangeAt Go.RowKit Go.Deep

theorem pcellsI : Tryz.prog.cellsOf 3 = 1 := by kernel_rfl
theorem pcellsS : Tryz.prog.cellsOf 9 = 1 := by kernel_rfl
theorem pcellsTs : Tryz.prog.cellsOf 50 = 1 := by kernel_rfl
theorem pcellsOs : Tryz.prog.cellsOf 23 = 1 := by kernel_rfl
theorem pcellsSs : Tryz.prog.cellsOf 22 = 1 := by kernel_rfl
theorem pcellsTm : Tryz.prog.cellsOf 52 = 5 := by kernel_rfl
theorem pcellsOu : Tryz.prog.cellsOf 54 = 6 := by kernel_rfl
theorem pcellsTk : Tryz.prog.cellsOf 25 = 4 := by kernel_rfl
theorem pcellsKy : Tryz.prog.cellsOf 32 = 32 := by kernel_rfl
theorem pcells8 : Tryz.prog.cellsOf 5 = 1 := by kernel_rfl
section
variable {H : Type} {enc : TypeId × Value → H}
theorem bulk_part {L : List (DataW H)} {d : DataW H} (hd : d ∈ L) : Rows.uptoBulk d ≤ Rows.uptoBulkAll L := by
  induction L with
  | nil => simp at hd
  | cons a t ih =>
    simp only [Rows.uptoBulkAll]
    rcases List.mem_cons.1 hd with rfl | hd
    · omega
    · have := ih hd
      omega
/-- What the bulk of some elements bounds. -/
theorem sum_bulk {α : Type} (w : α → Nat) : ∀ (L : List (DataW H × List MemPlace)) (T : Nat → α), (∀ i (hi : i < L.length), w (T i) ≤ 11 * Rows.uptoBulk (L[i]).1) → (((List.range L.length).map T).map w).sum ≤ 11 * Rows.uptoBulkAll (L.map (·.1))
  | [], _, _ => by simp
  | x :: L, T, h => by
    have ih := sum_bulk w L (fun i => T (i + 1)) (fun i hi => h (i + 1) (by simpa using hi))
    have h0 := h 0 (by simp)
    have e : ((List.range (x :: L).length).map T).map w = w (T 0) :: ((List.range L.length).map (fun i => T (i + 1))).map w := by
      rw [List.length_cons, List.range_succ_eq_map, List.map_cons, List.map_cons, List.map_map, List.map_map, List.map_map]
      rfl
    rw [e, List.sum_cons, List.map_cons]
    simp only [Rows.uptoBulkAll]
    have h0 : w (T 0) ≤ 11 * Rows.uptoBulk x.1 := h0
    omega
theorem range_of {W : World} {ad : Addr} {k n : Nat} {cs : List Value} (hn : 0 < n) (hk : k = 0) (h : W.cells? 0 (ad.add k) n = some cs) : ∃ b o, ad = ⟨b, o, none⟩ ∧ b < W.heap.size := by
  obtain ⟨_, hl, hc⟩ := World.cells?_some h
  obtain ⟨b, o, spot⟩ := ad
  subst hk
  have h00 := hc 0 hn
  rw [List.getElem?_eq_getElem (by omega)] at h00
  have hspot : spot = none := by simpa [Addr.add] using World.cell?_spot h00
  subst hspot
  rw [Go.WideShapes.add_plain, Go.WideShapes.add_plain] at h00
  exact ⟨b, o, rfl, World.block_lt_of_cell? W _ h00⟩
theorem range_at {W : World} {b o k n : Nat} {cs : List Value} (h : W.cells? 0 ((⟨b, o, none⟩ : Addr).add k) n = some cs) : W.rangeAt b (o + k) cs := by
  obtain ⟨_, hl, hc⟩ := World.cells?_some h
  intro q y hy
  have hq : q < n := by have := (List.getElem?_eq_some_iff.1 hy).1; omega
  have := hc q hq
  rw [Go.WideShapes.add_plain, Go.WideShapes.add_plain] at this
  rw [this, hy]
set_option maxRecDepth 100000 in
theorem open_tm {W : World} : ∀ (fuel : Nat) {cs : List Value} {x : DataW H × List MemPlace}, DataW.trod enc Tryz.prog W 0 (fun _ => true) true fuel 52 cs = some x → Rows.uptoBulk x.1 ≤ 1048576 →
    ∃ (t : Tm) (u : Value), cs = tmC t u ∧ IsTr W anyB fuel t.args u ∧ smT t ∧ tmW t + 1 ≤ 11 * Rows.uptoBulk x.1 := by
  intro fuel
  induction fuel using Nat.strongRecOn with
  | ind fuel ih =>
    intro cs x hf hb
    obtain ⟨xs, n, rfl, rfl, hl, hxl, hfs⟩ := DataW.trod_struct Tryz.underlying52 hf
    rw [pcellsTm] at hl
    match cs, hl with
    | [c0, c1, c2, c3, c4], _ =>
    match xs, hxl with
    | [x0, x1, x2, x3, x4], _ =>
      have g0 : DataW.trod enc Tryz.prog W 0 (fun _ => true) true n 3 (([c0, c1, c2, c3, c4].drop 0).take (Tryz.prog.cellsOf 3)) = some x0 := hfs 0 _ rfl
      have g1 : DataW.trod enc Tryz.prog W 0 (fun _ => true) true n 9 (([c0, c1, c2, c3, c4].drop 1).take (Tryz.prog.cellsOf 9)) = some x1 := hfs 1 _ rfl
      have g2 : DataW.trod enc Tryz.prog W 0 (fun _ => true) true n 3 (([c0, c1, c2, c3, c4].drop 2).take (Tryz.prog.cellsOf 3)) = some x2 := hfs 2 _ rfl
      have g3 : DataW.trod enc Tryz.prog W 0 (fun _ => true) true n 3 (([c0, c1, c2, c3, c4].drop 3).take (Tryz.prog.cellsOf 3)) = some x3 := hfs 3 _ rfl
      have g4 : DataW.trod enc Tryz.prog W 0 (fun _ => true) true n 50 (([c0, c1, c2, c3, c4].drop 4).take (Tryz.prog.cellsOf 50)) = some x4 := hfs 4 _ rfl
      rw [pcellsI] at g0 g2 g3
      rw [pcellsS] at g1
      rw [pcellsTs] at g4
      obtain ⟨K, e0, f0, _⟩ := DataW.trod_int Tryz.underlying3 g0
      obtain ⟨Tx, e1, f1, _⟩ := DataW.trod_string Tryz.underlying9 g1
      obtain ⟨N, e2, f2, _⟩ := DataW.trod_int Tryz.underlying3 g2
      obtain ⟨M, e3, f3, _⟩ := DataW.trod_int Tryz.underlying3 g3
      simp only [List.drop_zero, List.drop_succ_cons, List.take_succ_cons, List.take_zero, List.cons.injEq, and_true] at e0 e1 e2 e3
      subst e0 e1 e2 e3 f0 f1 f2 f3
      have hb4 : Rows.uptoBulk x4.1 ≤ 1048576 := by simp only [List.map_cons, List.map_nil, Rows.uptoBulk, Rows.uptoBulkAll] at hb; omega
      have hsz : Tx.size + 1 ≤ 1048576 := by have h := len_data Tx; simp only [List.map_cons, List.map_nil, Rows.uptoBulk, Rows.uptoBulkAll] at hb; omega
      have hlen := len_data Tx
      rcases DataW.trod_slice Tryz.underlying50 g4 with ⟨hc4, hx4⟩ | ⟨ad, len, cap, elems, rest, n2, hn2, hc4, hx4, _, hlc, hcm, hel, hcell, _, _⟩
      · simp only [List.drop_zero, List.drop_succ_cons, List.take_succ_cons, List.take_zero, List.cons.injEq, and_true] at hc4
        subst hc4
        subst hx4
        refine ⟨⟨K, Tx, N, M, []⟩, .slice none 0 0, rfl, IsTr.nil _ _ _, ?_, ?_⟩
        · rw [smT_eq]
          exact ⟨by show Tx.size ≤ 2000000; omega, fun a ha => by cases ha⟩
        · rw [tmW_eq]
          simp only [List.map_cons, List.map_nil, List.sum_nil, Rows.uptoBulk, Rows.uptoBulkAll]
          omega
      · simp only [List.drop_zero, List.drop_succ_cons, List.take_succ_cons, List.take_zero, List.cons.injEq, and_true] at hc4
        subst hc4
        subst hx4
        subst hn2
        rw [pcellsTm] at hcell
        haveI : Inhabited (Tm × Value) := ⟨(.nul, .slice none 0 0)⟩
        have hbe : ∀ i (hi : i < elems.length), Rows.uptoBulk (elems[i]).1 ≤ 1048576 := fun i hi => by
          have h1 : Rows.uptoBulk (elems[i]).1 ≤ Rows.uptoBulkAll (elems.map (·.1)) := bulk_part (List.mem_map_of_mem (List.getElem_mem hi))
          simp only [Rows.uptoBulk] at hb4
          omega
        obtain ⟨O, hO⟩ := choose_lt (α := Tm × Value) (n := len) (p := fun i e => W.cells? 0 (ad.add (i * 5)) 5 = some (tmC e.1 e.2) ∧ IsTr W anyB n2 e.1.args e.2 ∧ smT e.1 ∧ ∀ hi : i < elems.length, tmW e.1 + 1 ≤ 11 * Rows.uptoBulk (elems[i]).1) (fun i hi => by
          have h9 := hcell i hi
          rw [List.getElem?_eq_getElem (by omega)] at h9
          obtain ⟨cs', h1, h2⟩ := Option.bind_eq_some_iff.1 h9
          obtain ⟨t, u, rfl, q1, q2, q3⟩ := ih n2 (by omega) h2 (hbe i (by omega))
          exact ⟨(t, u), h1, q1, q2, fun _ => q3⟩)
        have hsum := sum_bulk (fun t => tmW t + 1) elems (fun i => (O i).1) (fun i hi => (hO i (by omega)).2.2.2 hi)
        rw [hel] at hsum
        have hget : ∀ j, j < len → ((List.range len).map fun i => (O i).1).getD j .nul = (O j).1 := fun j hj => by simp [List.getD_eq_getElem?_getD, hj]
        have hll : ((List.range len).map fun i => (O i).1).length = len := by simp
        refine ⟨⟨K, Tx, N, M, (List.range len).map fun i => (O i).1⟩, .slice (some ad) len cap, rfl, ⟨some ad, cap, by rw [hll], by rw [hll]; exact hlc, by simpa [maxLen] using hcm, (fun e => by cases e), fun hp => ?_⟩, ?_, ?_⟩
        · rw [hll] at hp
          obtain ⟨b, o, rfl, hbl⟩ := range_of (by decide) (Nat.zero_mul _) (hO 0 hp).1
          refine ⟨b, o, rfl, trivial, hbl, fun j hj => ?_⟩
          rw [hll] at hj
          have hr := range_at (hO j hj).1
          rw [hget j hj]
          exact ⟨(O j).2, hr, (hO j hj).2.1.deeper (by omega)⟩
        · rw [smT_eq]
          refine ⟨by show Tx.size ≤ 2000000; omega, fun a ha => ?_⟩
          obtain ⟨i, hi, rfl⟩ := List.mem_map.1 ha
          exact (hO i (by simpa using hi)).2.2.1
        · rw [tmW_eq]
          simp only [List.map_cons, List.map_nil, Rows.uptoBulk, Rows.uptoBulkAll] at hsum ⊢
          have hs2 : (List.map (fun a => tmW a + 1) (List.map (fun i => (O i).1) (List.range len))).sum ≤ 11 * Rows.uptoBulkAll (List.map (fun x => x.1) elems) := hsum
          show 64 + 4 * Tx.size + (List.map (fun a => tmW a + 1) (List.map (fun i => (O i).1) (List.range len))).sum + 1 ≤ _
          omega
/-- A list of texts within other data. -/
theorem open_ss {W : World} {fuel : Nat} {c : Value} {x : DataW H × List MemPlace} (hf : DataW.trod enc Tryz.prog W 0 (fun _ => true) true fuel 22 [c] = some x) (hb : Rows.uptoBulk x.1 ≤ 1048576) : ∃ l, IsS W c l ∧ (∀ s ∈ l, s.size ≤ 2000000) ∧ insW l ≤ 11 * Rows.uptoBulk x.1 := by
  rcases DataW.trod_slice Tryz.underlying22 hf with ⟨hc4, hx4⟩ | ⟨ad, len, cap, elems, rest, n2, hn2, hc4, hx4, _, hlc, hcm, hel, hcell, _, _⟩
  · simp only [List.cons.injEq, and_true] at hc4
    subst hc4
    exact ⟨[], IsS.nil W, fun s hs => (by cases hs), Nat.zero_le _⟩
  · simp only [List.cons.injEq, and_true] at hc4
    subst hc4
    subst hx4
    subst hn2
    rw [pcellsS] at hcell
    have hbe : ∀ i (hi : i < elems.length), Rows.uptoBulk (elems[i]).1 ≤ 1048576 := fun i hi => by
      have h1 : Rows.uptoBulk (elems[i]).1 ≤ Rows.uptoBulkAll (elems.map (·.1)) := bulk_part (List.mem_map_of_mem (List.getElem_mem hi))
      simp only [Rows.uptoBulk] at hb
      omega
    obtain ⟨O, hO⟩ := choose_lt (α := ByteArray) (n := len) (p := fun i e => W.cells? 0 (ad.add (i * 1)) 1 = some [.string e] ∧ ∀ hi : i < elems.length, e.size + 1 ≤ Rows.uptoBulk (elems[i]).1) (fun i hi => by
      have h9 := hcell i hi
      rw [List.getElem?_eq_getElem (by omega)] at h9
      obtain ⟨cs', h1, h2⟩ := Option.bind_eq_some_iff.1 h9
      obtain ⟨Tx, e1, f1, _⟩ := DataW.trod_string Tryz.underlying9 h2
      subst e1
      refine ⟨Tx, h1, fun hi2 => ?_⟩
      rw [f1]
      have := len_data Tx
      simp only [Rows.uptoBulk]
      omega)
    have hsum := sum_bulk (fun e : ByteArray => 1 + e.size) elems O (fun i hi => by have := (hO i (by omega)).2 hi; omega)
    rw [hel] at hsum
    have hll : ((List.range len).map O).length = len := by simp
    have hget : ∀ j, j < len → ((List.range len).map O).getD j default = O j := fun j hj => by simp [List.getD_eq_getElem?_getD, hj]
    refine ⟨(List.range len).map O, ⟨some ad, cap, by rw [hll], by rw [hll]; exact hlc, by simpa [maxLen] using hcm, (fun e => by cases e), fun hp => ?_⟩, fun s hs => ?_, ?_⟩
    · rw [hll] at hp
      obtain ⟨b, o, rfl, hbl⟩ := range_of (by decide) (Nat.zero_mul _) (hO 0 hp).1
      refine ⟨b, o, rfl, fun j hj => ?_⟩
      rw [hll] at hj
      have hr := range_at (hO j hj).1
      rw [hget j hj]
      have := hr 0 _ rfl
      simpa using this
    · obtain ⟨i, hi, rfl⟩ := List.mem_map.1 hs
      have hi : i < len := by simpa using hi
      have h1 := (hO i hi).2 (by omega)
      have h2 := hbe i (by omega)
      omega
    · simp only [Rows.uptoBulk]
      have : insW ((List.range len).map O) ≤ 11 * Rows.uptoBulkAll (elems.map (·.1)) := hsum
      omega
set_option maxRecDepth 100000 in
theorem open_ou {W : World} {fuel : Nat} {cs : List Value} {x : DataW H × List MemPlace} (hf : DataW.trod enc Tryz.prog W 0 (fun _ => true) true fuel 54 cs = some x) (hb : Rows.uptoBulk x.1 ≤ 1048576) :
    ∃ (o : ByteArray × Tm) (u : Value), cs = ouC o.1 o.2 u ∧ IsTr W anyB fuel o.2.args u ∧ o.1.size ≤ 2000000 ∧ smT o.2 ∧ 20 + o.1.size + tmW o.2 ≤ 31 * Rows.uptoBulk x.1 := by
  obtain ⟨xs, n, rfl, rfl, hl, hxl, hfs⟩ := DataW.trod_struct Tryz.underlying54 hf
  rw [pcellsOu] at hl
  match cs, hl with
  | [c0, c1, c2, c3, c4, c5], _ =>
  match xs, hxl with
  | [x0, x1], _ =>
    have g0 : DataW.trod enc Tryz.prog W 0 (fun _ => true) true n 9 (([c0, c1, c2, c3, c4, c5].drop 0).take (Tryz.prog.cellsOf 9)) = some x0 := hfs 0 _ rfl
    have g1 : DataW.trod enc Tryz.prog W 0 (fun _ => true) true n 52 (([c0, c1, c2, c3, c4, c5].drop 1).take (Tryz.prog.cellsOf 52)) = some x1 := hfs 1 _ rfl
    rw [pcellsS] at g0
    rw [pcellsTm] at g1
    obtain ⟨Tx, e0, f0, _⟩ := DataW.trod_string Tryz.underlying9 g0
    simp only [List.drop_zero, List.take_succ_cons, List.take_zero, List.cons.injEq, and_true] at e0
    subst e0 f0
    have hlen := len_data Tx
    simp only [List.map_cons, List.map_nil, Rows.uptoBulk, Rows.uptoBulkAll] at hb ⊢
    obtain ⟨t, u, hcs, h1, h2, h3⟩ := open_tm n g1 (by omega)
    refine ⟨(Tx, t), u, ?_, h1.deeper (by omega), by show Tx.size ≤ 2000000; omega, h2, ?_⟩
    · have : [c1, c2, c3, c4, c5] = tmC t u := by simpa using hcs
      show .string Tx :: [c1, c2, c3, c4, c5] = _
      rw [this]
      rfl
    · show 20 + Tx.size + tmW t ≤ _
      omega
theorem sum_bulkO {α : Type} (w : α → Nat) : ∀ (L : List (DataW H × List MemPlace)) (T : Nat → α), (∀ i (hi : i < L.length), w (T i) ≤ 31 * Rows.uptoBulk (L[i]).1) → (((List.range L.length).map T).map w).sum ≤ 31 * Rows.uptoBulkAll (L.map (·.1))
  | [], _, _ => by simp
  | x :: L, T, h => by
    have ih := sum_bulkO w L (fun i => T (i + 1)) (fun i hi => h (i + 1) (by simpa using hi))
    have h0 := h 0 (by simp)
    have e : ((List.range (x :: L).length).map T).map w = w (T 0) :: ((List.range L.length).map (fun i => T (i + 1))).map w := by
      rw [List.length_cons, List.range_succ_eq_map, List.map_cons, List.map_cons, List.map_map, List.map_map, List.map_map]
      rfl
    rw [e, List.sum_cons, List.map_cons]
    simp only [Rows.uptoBulkAll]
    have h0 : w (T 0) ≤ 31 * Rows.uptoBulk x.1 := h0
    omega
/-- A list of outputs within other data. -/
theorem open_ous {W : World} {fuel : Nat} {c : Value} {x : DataW H × List MemPlace} (hf : DataW.trod enc Tryz.prog W 0 (fun _ => true) true fuel 23 [c] = some x) (hb : Rows.uptoBulk x.1 ≤ 1048576) :
    ∃ l : List (ByteArray × Tm), IsOu W fuel c l ∧ (∀ o ∈ l, o.1.size ≤ 2000000 ∧ smT o.2) ∧ ousW l ≤ 31 * Rows.uptoBulk x.1 := by
  rcases DataW.trod_slice Tryz.underlying23 hf with ⟨hc4, hx4⟩ | ⟨ad, len, cap, elems, rest, n2, hn2, hc4, hx4, _, hlc, hcm, hel, hcell, _, _⟩
  · simp only [List.cons.injEq, and_true] at hc4
    subst hc4
    exact ⟨[], ⟨none, 0, rfl, Nat.le_refl _, by decide, fun _ => rfl, fun h => absurd h (by simp)⟩, fun s hs => (by cases hs), Nat.zero_le _⟩
  · simp only [List.cons.injEq, and_true] at hc4
    subst hc4
    subst hx4
    subst hn2
    rw [pcellsOu] at hcell
    have hbe : ∀ i (hi : i < elems.length), Rows.uptoBulk (elems[i]).1 ≤ 1048576 := fun i hi => by
      have h1 : Rows.uptoBulk (elems[i]).1 ≤ Rows.uptoBulkAll (elems.map (·.1)) := bulk_part (List.mem_map_of_mem (List.getElem_mem hi))
      simp only [Rows.uptoBulk] at hb
      omega
    haveI : Inhabited ((ByteArray × Tm) × Value) := ⟨(ou0, .slice none 0 0)⟩
    obtain ⟨O, hO⟩ := choose_lt (α := (ByteArray × Tm) × Value) (n := len) (p := fun i e => W.cells? 0 (ad.add (i * 6)) 6 = some (ouC e.1.1 e.1.2 e.2) ∧ IsTr W anyB n2 e.1.2.args e.2 ∧ (e.1.1.size ≤ 2000000 ∧ smT e.1.2) ∧ ∀ hi : i < elems.length, 20 + e.1.1.size + tmW e.1.2 ≤ 31 * Rows.uptoBulk (elems[i]).1) (fun i hi => by
      have h9 := hcell i hi
      rw [List.getElem?_eq_getElem (by omega)] at h9
      obtain ⟨cs', h1, h2⟩ := Option.bind_eq_some_iff.1 h9
      obtain ⟨o, u, rfl, q1, q2, q3, q4⟩ := open_ou h2 (hbe i (by omega))
      exact ⟨(o, u), h1, q1, ⟨q2, q3⟩, fun _ => q4⟩)
    have hsum := sum_bulkO (fun o : ByteArray × Tm => 20 + o.1.size + tmW o.2) elems (fun i => (O i).1) (fun i hi => (hO i (by omega)).2.2.2 hi)
    rw [hel] at hsum
    have hget : ∀ j, j < len → ((List.range len).map fun i => (O i).1).getD j ou0 = (O j).1 := fun j hj => by simp [List.getD_eq_getElem?_getD, hj]
    have hll : ((List.range len).map fun i => (O i).1).length = len := by simp
    refine ⟨(List.range len).map fun i => (O i).1, ⟨some ad, cap, by rw [hll], by rw [hll]; exact hlc, by simpa [maxLen] using hcm, (fun e => by cases e), fun hp => ?_⟩, fun s hs => ?_, ?_⟩
    · rw [hll] at hp
      obtain ⟨b, o, rfl, hbl⟩ := range_of (by decide) (Nat.zero_mul _) (hO 0 hp).1
      refine ⟨b, o, rfl, fun j hj => ?_⟩
      rw [hll] at hj
      have hr := range_at (hO j hj).1
      rw [hget j hj]
      exact ⟨(O j).2, hr, (hO j hj).2.1.deeper (by omega)⟩
    · obtain ⟨i, hi, rfl⟩ := List.mem_map.1 hs
      exact (hO i (by simpa using hi)).2.2.1
    · simp only [Rows.uptoBulk]
      have : ousW ((List.range len).map fun i => (O i).1) ≤ 31 * Rows.uptoBulkAll (elems.map (·.1)) := hsum
      omega
set_option maxRecDepth 100000 in
/-- A task's cells. -/
theorem open_taskC {W : World} {fuel : Nat} {cs : List Value} {x : DataW H × List MemPlace} (hf : DataW.trod enc Tryz.prog W 0 (fun _ => true) true fuel 25 cs = some x) (hb : Rows.uptoBulk x.1 ≤ 1048576) :
    ∃ (t : Tsk) (vi vo : Value), cs = tsC t.name t.budget vi vo ∧ IsS W vi t.ins ∧ IsOu W fuel vo t.outs ∧ smK t ∧ tskW t ≤ 50000000 := by
  obtain ⟨xs, n, rfl, rfl, hl, hxl, hfs⟩ := DataW.trod_struct Tryz.underlying25 hf
  rw [pcellsTk] at hl
  match cs, hl with
  | [c0, c1, c2, c3], _ =>
  match xs, hxl with
  | [x0, x1, x2, x3], _ =>
    have g0 : DataW.trod enc Tryz.prog W 0 (fun _ => true) true n 9 (([c0, c1, c2, c3].drop 0).take (Tryz.prog.cellsOf 9)) = some x0 := hfs 0 _ rfl
    have g1 : DataW.trod enc Tryz.prog W 0 (fun _ => true) true n 3 (([c0, c1, c2, c3].drop 1).take (Tryz.prog.cellsOf 3)) = some x1 := hfs 1 _ rfl
    have g2 : DataW.trod enc Tryz.prog W 0 (fun _ => true) true n 22 (([c0, c1, c2, c3].drop 2).take (Tryz.prog.cellsOf 22)) = some x2 := hfs 2 _ rfl
    have g3 : DataW.trod enc Tryz.prog W 0 (fun _ => true) true n 23 (([c0, c1, c2, c3].drop 3).take (Tryz.prog.cellsOf 23)) = some x3 := hfs 3 _ rfl
    rw [pcellsS] at g0
    rw [pcellsI] at g1
    rw [pcellsSs] at g2
    rw [pcellsOs] at g3
    obtain ⟨Tx, e0, f0, _⟩ := DataW.trod_string Tryz.underlying9 g0
    obtain ⟨Bd, e1, f1, _⟩ := DataW.trod_int Tryz.underlying3 g1
    simp only [List.drop_zero, List.drop_succ_cons, List.take_succ_cons, List.take_zero, List.cons.injEq, and_true] at e0 e1
    simp only [List.drop_zero, List.drop_succ_cons, List.take_succ_cons, List.take_zero] at g2 g3
    subst e0 e1 f0 f1
    have hlen := len_data Tx
    simp only [List.map_cons, List.map_nil, Rows.uptoBulk, Rows.uptoBulkAll] at hb
    obtain ⟨ins, h1, h2, h3⟩ := open_ss g2 (by omega)
    obtain ⟨outs, h4, h5, h6⟩ := open_ous g3 (by omega)
    have h4' : IsOu W (n + 1) c3 outs := by
      obtain ⟨a, c, e, q1, q2, q3, q4⟩ := h4
      refine ⟨a, c, e, q1, q2, q3, fun hp => ?_⟩
      obtain ⟨b, o, ha, he⟩ := q4 hp
      refine ⟨b, o, ha, fun j hj => ?_⟩
      obtain ⟨u, hr, ht⟩ := he j hj
      exact ⟨u, hr, ht.deeper (by omega)⟩
    refine ⟨⟨Tx, Bd, ins, outs⟩, c2, c3, rfl, h1, h4', ⟨by show Tx.size ≤ 2000000; omega, h2, h5⟩, ?_⟩
    show 64 + Tx.size + insW ins + ousW outs ≤ 50000000
    omega
set_option maxRecDepth 100000 in
/-- An argument that is a task. -/
theorem open_task {W : World} {base : Nat} {v : Value} {d : DataW H} {p : List MemPlace} (hv : Value.okWide Tryz.prog W .any base 25 v) (h : DataW.Trod enc Tryz.prog W 0 (fun _ => true) true 25 v d p) (hb : Rows.uptoBulk d ≤ 1048576) :
    ∃ (D : Nat) (t : Tsk) (vi vo : Value), v = .agg (tsC t.name t.budget vi vo).toArray ∧ IsS W vi t.ins ∧ IsOu W D vo t.outs ∧ smK t ∧ tskW t ≤ 50000000 := by
  obtain ⟨fuel, hf⟩ := h
  unfold Value.okWide at hv
  rw [Tryz.underlying25] at hv
  obtain ⟨cs, rfl, _, _⟩ := hv
  obtain ⟨t, vi, vo, e, h1, h2, h3, h4⟩ := open_taskC hf hb
  refine ⟨fuel, t, vi, vo, ?_, h1, h2, h3, h4⟩
  have e : cs.toList = tsC t.name t.budget vi vo := e
  rw [← e]
theorem u8s_of : ∀ (hs : List Int), (∀ x ∈ hs, 0 ≤ x ∧ x ≤ 255) → iL (hs.map fun x => UInt8.ofNat x.toNat) = hs
  | [], _ => rfl
  | x :: hs, h => by
    have hx := h x (by simp)
    have ih := u8s_of hs (fun y hy => h y (List.mem_cons_of_mem _ hy))
    show ((UInt8.ofNat x.toNat).toNat : Int) :: iL (hs.map fun x => UInt8.ofNat x.toNat) = _
    rw [ih, UInt8.toNat_ofNat']
    congr 1
    omega
theorem pbytes_of : ∀ (cs : List Value), (∀ i, i < cs.length → ∃ k : Int, cs[i]? = some (.int .u8 k) ∧ 0 ≤ k ∧ k ≤ 255) → ∃ hs : List Int, cs = hs.map (Value.int .u8) ∧ ∀ x ∈ hs, 0 ≤ x ∧ x ≤ 255
  | [], _ => ⟨[], rfl, by simp⟩
  | c :: cs, h => by
    obtain ⟨k, e, b⟩ := h 0 (by simp)
    obtain ⟨hs, e2, b2⟩ := pbytes_of cs (fun i hi => by simpa using h (i + 1) (by simp; omega))
    simp at e
    refine ⟨k :: hs, by rw [List.map_cons, e, e2], fun x hx => ?_⟩
    rcases List.mem_cons.1 hx with rfl | hx
    · exact b
    · exact b2 x hx
set_option maxRecDepth 100000 in
theorem open_keyP {W : World} {fuel : Nat} {cs : List Value} {x : DataW H × List MemPlace} (hl : cs.length = 32) (hf : DataW.trod enc Tryz.prog W 0 (fun _ => true) true fuel 32 cs = some x) : ∃ k : List UInt8, cs = kyC k ∧ k.length = 32 := by
  obtain ⟨ys, m, rfl, _, hl0, hyl, hys⟩ := DataW.trod_array Tryz.underlying32 hf
  rw [pcells8] at hys
  obtain ⟨hs, e0, b0⟩ := pbytes_of cs (fun i hi => by
    obtain ⟨y, hy⟩ : ∃ y, ys[i]? = some y := ⟨_, List.getElem?_eq_getElem (by omega)⟩
    have h9 := hys i (by omega)
    rw [hy] at h9
    obtain ⟨k, e3, _, w3⟩ := DataW.trod_int Tryz.underlying5 h9
    refine ⟨k, ?_, bounds_u8 w3⟩
    have h10 : ((cs.drop (i * 1)).take 1)[0]? = some (.int .u8 k) := by rw [e3]; rfl
    rw [List.getElem?_take_of_lt (by omega), List.getElem?_drop] at h10
    simpa using h10)
  refine ⟨hs.map fun x => UInt8.ofNat x.toNat, ?_, ?_⟩
  · unfold kyC
    rw [u8s_of hs b0, e0]
  · have h12 := congrArg List.length e0
    rw [List.length_map] at h12 ⊢
    omega
set_option maxRecDepth 100000 in
/-- An argument that is a list of keys. -/
theorem open_keysP {W : World} {base : Nat} {v : Value} {d : DataW H} {p : List MemPlace} (hv : Value.okWide Tryz.prog W .any base 26 v) (h : DataW.Trod enc Tryz.prog W 0 (fun _ => true) true 26 v d p) : ∃ ks, IsKs W v ks := by
  obtain ⟨a, len, cap, rfl⟩ := okWide_slice Tryz.underlying26 hv
  obtain ⟨fuel, hf⟩ := h
  rcases open_slice Tryz.underlying26 hf with ⟨hcs, hx⟩ | ⟨ad, len', cap', m, n, D, Pl, hcs, _, hl, hm, hmm, hx, hcell⟩
  · simp [Value.cells] at hcs
    obtain ⟨rfl, rfl, rfl⟩ := hcs
    exact ⟨[], none, 0, rfl, Nat.le_refl _, by decide, fun _ => rfl, fun h => absurd h (by simp), fun k hk => by cases hk⟩
  · simp [Value.cells] at hcs
    obtain ⟨rfl, rfl, rfl⟩ := hcs
    simp only [if_true] at hmm
    obtain rfl := hmm.symm
    rw [pcellsKy] at hcell
    haveI : Inhabited (List UInt8) := ⟨[]⟩
    obtain ⟨O, hO⟩ := choose_lt (α := List UInt8) (n := len) (p := fun i k => W.cells? 0 (ad.add (i * 32)) 32 = some (kyC k) ∧ k.length = 32) (fun i hi => by
      obtain ⟨cs', h1, h2⟩ := hcell i (by omega)
      obtain ⟨_, hl2, _⟩ := World.cells?_some h1
      obtain ⟨k, rfl, hk⟩ := open_keyP hl2 h2
      exact ⟨k, h1, hk⟩)
    have hll : ((List.range len).map O).length = len := by simp
    have hget : ∀ j, j < len → ((List.range len).map O).getD j [] = O j := fun j hj => by simp [List.getD_eq_getElem?_getD, hj]
    refine ⟨(List.range len).map O, some ad, cap, by rw [hll], by rw [hll]; omega, by simpa [maxLen] using hm, (fun e => by cases e), fun hp => ?_, fun k hk => ?_⟩
    · rw [hll] at hp
      obtain ⟨b, o, rfl, hbl⟩ := range_of (by decide) (Nat.zero_mul _) (hO 0 hp).1
      refine ⟨b, o, rfl, fun j hj => ?_⟩
      rw [hll] at hj
      have hr := range_at (hO j hj).1
      rw [hget j hj]
      exact hr
    · obtain ⟨i, hi, rfl⟩ := List.mem_map.1 hk
      exact (hO i (by simpa using hi)).2
end
end Go.Proofs.YtfhfobikbfbajaaGreatDoor
