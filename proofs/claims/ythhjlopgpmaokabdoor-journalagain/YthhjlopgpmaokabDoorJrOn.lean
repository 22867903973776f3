/- The statement's record; what a disk tells behind a write and a flush. -/
import Derived.Test.YthhjlopgpmaokabDoorJrZ
import Derived.Test.YthhjlopgpmaokabDoorShaHelp
namespace Go.Proofs.YthhjlopgpmaokabDoor
open Go.RowKit Go.Maps

def kkJ (x y : Int) : List Int := x :: y :: List.replicate 30 0
def oneR (n : Nat) : JR := ⟨(n : Int), kkJ (n : Int) 7, [⟨kkJ (n : Int) 7, 20 + (n : Int), 300⟩]⟩
theorem kkJ_len (x y : Int) : (kkJ x y).length = 32 := by simp [kkJ]
theorem kkJ_by {x y : Int} (hx : 0 ≤ x ∧ x ≤ 255) (hy : 0 ≤ y ∧ y ≤ 255) : By8 (kkJ x y) := by
  intro z hz
  unfold kkJ at hz
  rcases List.mem_cons.1 hz with rfl | hz
  · exact hx
  · rcases List.mem_cons.1 hz with rfl | hz
    · exact hy
    · exact By8.zero 30 z hz
theorem oneR_ok {n : Nat} (h : n ≤ 99) : (oneR n).Ok := by
  refine ⟨kkJ_len _ _, kkJ_by (by omega) (by omega), ⟨?_, ?_⟩, fun x hx => ?_⟩
  · show -9223372036854775808 ≤ (n : Int); omega
  · show (n : Int) ≤ 9223372036854775807; omega
  · have : x = ⟨kkJ (n : Int) 7, 20 + (n : Int), 300⟩ := List.mem_singleton.1 hx
    subst this
    refine ⟨kkJ_len _ _, kkJ_by (by omega) (by omega), ⟨?_, ?_⟩, ⟨(by show (-9223372036854775808 : Int) ≤ 300; decide), (by show (300 : Int) ≤ 9223372036854775807; decide)⟩⟩
    · show -9223372036854775808 ≤ 20 + (n : Int); omega
    · show 20 + (n : Int) ≤ 9223372036854775807; omega
theorem oneR_may {n : Nat} (h : n ≤ 99) : mayRs (oneR n).rs = true := by
  unfold mayRs oneR
  simp only [List.length_singleton, List.all_cons, List.all_nil, Bool.and_true]
  rw [decide_eq_true (by omega), Bool.true_and]
  show decide (0 ≤ 20 + (n : Int) ∧ 20 + (n : Int) < 65536 ∧ (0 : Int) ≤ 300 ∧ (300 : Int) ≤ 262144) = true
  rw [decide_eq_true_iff]
  omega
theorem oneR_enc {n : Nat} (h : n ≤ 99) : encE (oneR n) = 0 := encE_zero (by show ¬ ((n : Int) < 0 ∨ 1099511627776 < (n : Int)); omega) (oneR_may h)
theorem flush_now {D : AD} {i : Nat} (hi : i < D.la.length) (hw : (D.wr i).length < 9223372036854775807) : D.flush.now i = D.now i := by
  have h1 := AD.flush_at D hi hw
  show (D.flush.wr i).getLast?.getD (D.flush.la.getD i zsec) = D.now i
  rw [show D.flush.wr i = [] from rfl]
  exact h1
theorem write_same (D : AD) (i : Nat) (s : List Int) : (D.write i s).now i = s := by
  show ((updF D.wr i (D.wr i ++ [s])) i).getLast?.getD _ = s
  rw [updF_same]
  simp
theorem write_other (D : AD) {i j : Nat} (s : List Int) (h : j ≠ i) : (D.write i s).now j = D.now j := by
  show ((updF D.wr i (D.wr i ++ [s])) j).getLast?.getD _ = _
  rw [updF_other _ _ h]
  rfl
theorem zero_now (n i : Nat) : (zeroD n).now i = zsec := by
  show (List.replicate n zsec).getD i zsec = zsec
  rw [List.getD_eq_getElem?_getD, List.getElem?_replicate]
  split <;> rfl
theorem flush_len (D : AD) : D.flush.la.length = D.la.length := AD.laAfter_len D _ _
theorem write_len (D : AD) (i : Nat) (s : List Int) : (D.write i s).la.length = D.la.length := rfl
theorem zero_rep (n fr m k s : Nat) : repL (zeroD n).now fr m k s = [] := repL_none (recAt_no (by rw [zero_now]; exact zsec_none))
/-- What is found of the first record. -/
theorem told_rep {m : Nat} : repL (((zeroD 24).rds m).write (2 + 0 % 8) (encL (oneR 0))).flush.now 2 8 8 0 = [oneR 0] := by
  have hl : (((zeroD 24).rds m).write (2 + 0 % 8) (encL (oneR 0))).la.length = 24 := by simp [AD.write, AD.rds, zeroD]
  have hw : ∀ i, ((((zeroD 24).rds m).write (2 + 0 % 8) (encL (oneR 0))).wr i).length ≤ 1 := fun i => by
    show ((updF (fun _ => []) (2 + 0 % 8) ([] ++ [encL (oneR 0)])) i).length ≤ 1
    unfold updF
    split <;> simp
  refine repL_is [oneR 0] 8 0 (by decide) (fun j hj => ?_) (fun _ => ?_)
  · have hj0 : j = 0 := by simpa using hj
    subst hj0
    refine recAt_of ?_ rfl
    rw [flush_now (by rw [hl]; decide) (by have := hw (2 + (0 + 0) % 8); omega)]
    show decO ((((zeroD 24).rds m).write 2 (encL (oneR 0))).now 2) = _
    rw [write_same]
    exact dec_enc (oneR_ok (by decide)) (oneR_enc (by decide))
  · refine recAt_no ?_
    show decO ((((zeroD 24).rds m).write (2 + 0 % 8) (encL (oneR 0))).flush.now (2 + (0 + 1) % 8)) = none
    rw [flush_now (by rw [hl]; decide) (by have := hw (2 + (0 + 1) % 8); omega)]
    show decO ((((zeroD 24).rds m).write 2 (encL (oneR 0))).now 3) = none
    rw [write_other _ _ (by decide), AD.rds_now, zero_now]
    exact zsec_none
theorem bKk (x y : Int) (W : World) : (Instr.build 33 #[(0, .int .u8 x), (1, .int .u8 y)]).run Tryd.prog W = .ok (.agg ((kkJ x y).map (Value.int .u8)).toArray) W := by kernel_rfl
def z32J : List Value := List.replicate 32 (.int .u8 0)
theorem infoKf : (Tryd.prog.info? 33).map (fun i => (i.zero, i.size, i.bytes)) = some (some (.agg z32J.toArray), 32, 32) := by kernel_rfl
section
variable {ops : Array Oper} {rest : List Oper} {o : Oper} {a : Act} {Q : Exit → Act → World → Prop} {w : World} {K : Act → World → Prop} {E : Prop}
theorem wpList_bld2J (hgd : o.guard = none) (t : TypeId) (i j : Nat) (x y : Operand) (ho : o.op = .build t #[(i, x), (j, y)]) {vx vy v : Value} (hx : a.eval x = vx) (hy : a.eval y = vy) (hrun : ∀ W, (Instr.build t #[(i, vx), (j, vy)]).run Tryd.prog W = .ok v W)
    (hk : wpList Tryd.prog ops Q rest (a.put o.dst v) w) : wpList Tryd.prog ops Q (o :: rest) a w := by
  refine wpList_plain hgd fun K hK => ?_
  unfold Oper.wp execOp
  simp only [ho, List.map_toArray, List.map_cons, List.map_nil, hx, hy, Sem.run_bind, hrun w, Result.andThen_ok, Sem.run_pure]
  exact hK _ _ hk
end
theorem ownJ_lit {w : World} {r : JF} (hr : r.Ok) : OwnJ (w.alloc (.cells (jfV r).toArray 73)) w.heap.size (.slice (some ⟨w.heap.size, 0, none⟩) 1 1) [r] := by
  refine ⟨fun e he => by rw [List.mem_singleton.1 he]; exact hr, ?_, Or.inr ⟨w.heap.size, 1, (jfV r).toArray, rfl, Nat.le_refl _, heap_alloc_last w _, Nat.le_refl _, by decide, ?_, ?_⟩⟩
  · simp [jfsV, jfV_len hr]
  · simp [jfV_len hr]
  · show ((jfV r).toArray.toList).take 34 = jfsV [r]
    simp only [jfsV, List.flatMap_cons, List.flatMap_nil, List.append_nil]
    exact List.take_of_length_le (by rw [jfV_len hr]; exact Nat.le_refl _)
set_option maxRecDepth 100000 in
set_option maxHeartbeats 4000000 in
theorem one_calls {w : World} {n : Nat} (hn : n ≤ 99) : Calls Tryd.prog 31 #[.int .i64 (n : Int)] w fun e w' => ∃ u, e = .returned (.agg (jrV (oneR n) u).toArray) ∧ OwnJ w' w.heap.size u (oneR n).rs ∧ Below w.heap.size w w' := by
  have hok := oneR_ok hn
  have hrk : (⟨kkJ (n : Int) 7, 20 + (n : Int), 300⟩ : JF).Ok := hok.refs _ (by simp [oneR])
  have hw8 : IntKind.u8.wrap (n : Int) = n := by rw [IntKind.wrap_u8]; omega
  have hr1 : ((n : Int)).tmod 100 = (n : Int) := by rw [Int.tmod_eq_emod_of_nonneg (by omega)]; omega
  have hr2 : (n : Int) % 100 = (n : Int) := by omega
  have hKl := kkJ_len (n : Int) 7
  have hinfK := infoKof hKl
  have hlenK : z32J.length = ((kkJ (n : Int) 7).map (Value.int .u8)).length := by rw [List.length_map, hKl]; decide
  have honeK : ∀ u ∈ (kkJ (n : Int) 7).map (Value.int .u8), u.oneCell' = true := u8_one _
  have hbk := fun W => bKk (n : Int) 7 W
  have hbr := fun W => buildRf hKl (20 + (n : Int)) 300 W
  have HBS := hide (fun W => bslRf (r := ⟨kkJ (n : Int) 7, 20 + (n : Int), 300⟩) hKl W)
  have HB3 := hide (fun g W => bR3 hKl (n : Int) (oneR n).rs (some ⟨g, 0, none⟩) 1 1 W)
  have HEQ : Hid ((⟨(n : Int), kkJ (n : Int) 7, (oneR n).rs⟩ : JR) = oneR n) := hide rfl
  have HRS : Hid ((oneR n).rs = [⟨kkJ (n : Int) 7, 20 + (n : Int), 300⟩]) := hide rfl
  have hinfR := fun u => infoRof hok.len u
  have hlenR := fun u => (show z34R.length = (jrV (oneR n) u).length by rw [jrV_len hok.len]; decide)
  rw [HEQ.out] at HB3
  have HRK := hide hrk
  have hnI : 0 ≤ (n : Int) := by omega
  have hn99 : (n : Int) ≤ 99 := by omega
  have hA1 := Arr.new w z34R 52
  have hb1 := jalloc_below w (.cells z34R.toArray 52)
  obtain ⟨w1, hw1⟩ : ∃ w1, w1 = w.alloc (.cells z34R.toArray 52) := ⟨_, rfl⟩
  rw [← hw1] at hA1 hb1
  have hA2 := Arr.new w1 z32J 33
  have hb2 := jalloc_below w1 (.cells z32J.toArray 33)
  have hlt := hA1.lt
  have HW1 := hide hw1
  obtain ⟨g2, hg2⟩ : ∃ g2, g2 = w.heap.size := ⟨_, rfl⟩
  have HG2 := hide hg2
  have HALL : Hid (∀ w3, Arr w3 w1.heap.size 33 ((kkJ (n : Int) 7).map (Value.int .u8)) → (w1.alloc (.cells z32J.toArray 33)).grownBy w3 (some w1.heap.size) → Arr w3 g2 52 z34R ∧ Below w.heap.size w w3) := hide (fun w3 _ hg => ⟨by rw [hg2]; exact arr_grown (hA1.below hb2) hg (by simp; omega), jbelow_grown (below_then hb1 hb2) hg (Nat.le_trans hb1.size hb2.size) hb1.size⟩)
  have HA2 := hide hA2
  clear hA1 hb1 hA2 hb2 hw1 hg2 hlt
  go_enter Tryd.func31, Tryd.ntmps31
  go_wp2_with (first
    | (refine wpList_allocJ rfl 52 rfl infoR ?_; rw [← HW1.out, ← HG2.out])
    | (refine wpList_bld2J rfl 33 0 1 (.tmp 5) _ rfl (vx := .int .u8 (n : Int)) (vy := .int .u8 7) rfl rfl hbk ?_)
    | (refine wpList_allocJ rfl 33 rfl infoKf ?_)
    | (refine wpList_storeJ rfl (.tmp 3) (.tmp 6) 33 rfl rfl rfl HA2.out hinfK hlenK honeK ?_; intro w3 hA3 hg3
       obtain ⟨y1, y2⟩ := unhide HALL w3 hA3 hg3
       have hrk3 := hA3.rangeJ
       have HY1 := hide y1
       have HY2 := hide y2
       clear hA3 hg3 y1 y2)
    | (refine wpList_loadJ rfl 33 (.tmp 3) rfl _ 0 rfl ((kkJ (n : Int) 7).map (Value.int .u8)) _ hrk3 Tryd.underlying33 rfl hinfK ?_)
    | (refine wpList_bld3J rfl 73 0 1 2 (.tmp 9) (.tmp 12) _ rfl (vx := .agg ((kkJ (n : Int) 7).map (Value.int .u8)).toArray) (vy := .int .i64 (20 + (n : Int))) (vz := .int .i64 300) rfl rfl rfl hbr ?_)
    | (refine wpList_bslice1 rfl 34 (.tmp 13) rfl (v := .agg (jfV ⟨kkJ (n : Int) 7, 20 + (n : Int), 300⟩).toArray) rfl (HBS.out _) ?_
       have hb4 := jalloc_below w3 (.cells (jfV ⟨kkJ (n : Int) 7, 20 + (n : Int), 300⟩).toArray 73)
       have HO4 := hide (ownJ_lit (w := w3) HRK.out)
       have HA4 := hide (HY1.out.below hb4)
       have HB4 := hide (below_then HY2.out hb4)
       have hs4 := HY2.out.size
       clear hb4)
    | (refine wpList_bld3J rfl 52 0 1 2 (.tmp 7) (.tmp 8) (.tmp 14) rfl (vx := .int .i64 (n : Int)) (vy := .agg ((kkJ (n : Int) 7).map (Value.int .u8)).toArray) (vz := .slice (some ⟨w3.heap.size, 0, none⟩) 1 1) rfl rfl rfl (HB3.out w3.heap.size) ?_)
    | (refine wpList_storeJ rfl (.tmp 2) (.tmp 15) 52 rfl rfl rfl HA4.out (hinfR _) (hlenR _) (jrV_one (oneR n) rfl) ?_; intro w5 hA5 hg5))
  have hA6 : Arr w5 g2 52 (jrV (oneR n) (.slice (some ⟨w3.heap.size, 0, none⟩) 1 1)) := hA5
  refine bodyPost_ret (results_rowJ rfl rfl hA6 Tryd.underlying52 rfl (hinfR _)) rfl ?_
  refine ⟨_, rfl, ?_, jbelow_grown HB4.out hg5 HB4.out.size (by rw [HG2.out]; exact Nat.le_refl _)⟩
  rw [HRS.out]
  exact ⟨HO4.out.1, owns_mono (HO4.out.2.kept hg5 (OwnJ.block HO4.out HA4.out (by decide))) hs4⟩
end Go.Proofs.YthhjlopgpmaokabDoor
