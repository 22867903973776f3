/- two. -/
import Derived.Test.YtpklbchbldipnabDoorNAh
namespace Go.Proofs.YtpklbchbldipnabDoor
open Go.RowKit Go.Maps

section
variable {ops : Array Oper} {rest : List Oper} {o : Oper} {a : Act} {Q : Exit → Act → World → Prop} {w : World}
theorem wpList_bld1 (hw : Region.wanted o (yielded ops a.tmps) = true) (t : TypeId) (i : Nat) (x : Operand) (ho : o.op = .build t #[(i, x)]) {v u : Value} (hx : a.eval x = v) (hrun : ∀ W, (Instr.build t #[(i, v)]).run Tryd.prog W = .ok u W)
    (hk : wpList Tryd.prog ops Q rest (a.put o.dst u) w) : wpList Tryd.prog ops Q (o :: rest) a w := by
  refine wpList_on hw fun K hK => ?_
  unfold Oper.wp execOp
  simp only [ho, List.map_toArray, List.map_cons, List.map_nil, hx, Sem.run_bind, hrun w, Result.andThen_ok, Sem.run_pure]
  exact hK _ _ hk
theorem wpList_bld2 (hw : Region.wanted o (yielded ops a.tmps) = true) (t : TypeId) (i j : Nat) (x y : Operand) (ho : o.op = .build t #[(i, x), (j, y)]) {v v2 u : Value} (hx : a.eval x = v) (hy : a.eval y = v2) (hrun : ∀ W, (Instr.build t #[(i, v), (j, v2)]).run Tryd.prog W = .ok u W)
    (hk : wpList Tryd.prog ops Q rest (a.put o.dst u) w) : wpList Tryd.prog ops Q (o :: rest) a w := by
  refine wpList_on hw fun K hK => ?_
  unfold Oper.wp execOp
  simp only [ho, List.map_toArray, List.map_cons, List.map_nil, hx, hy, Sem.run_bind, hrun w, Result.andThen_ok, Sem.run_pure]
  exact hK _ _ hk
theorem wpList_bld3 (hw : Region.wanted o (yielded ops a.tmps) = true) (t : TypeId) (i j k : Nat) (x y z : Operand) (ho : o.op = .build t #[(i, x), (j, y), (k, z)]) {v v2 v3 u : Value} (hx : a.eval x = v) (hy : a.eval y = v2) (hz : a.eval z = v3) (hrun : ∀ W, (Instr.build t #[(i, v), (j, v2), (k, v3)]).run Tryd.prog W = .ok u W)
    (hk : wpList Tryd.prog ops Q rest (a.put o.dst u) w) : wpList Tryd.prog ops Q (o :: rest) a w := by
  refine wpList_on hw fun K hK => ?_
  unfold Oper.wp execOp
  simp only [ho, List.map_toArray, List.map_cons, List.map_nil, hx, hy, hz, Sem.run_bind, hrun w, Result.andThen_ok, Sem.run_pure]
  exact hK _ _ hk
theorem wpList_bld4 (hw : Region.wanted o (yielded ops a.tmps) = true) (t : TypeId) (i j k l : Nat) (x y z s : Operand) (ho : o.op = .build t #[(i, x), (j, y), (k, z), (l, s)]) {v v2 v3 v4 u : Value} (hx : a.eval x = v) (hy : a.eval y = v2) (hz : a.eval z = v3) (hs : a.eval s = v4) (hrun : ∀ W, (Instr.build t #[(i, v), (j, v2), (k, v3), (l, v4)]).run Tryd.prog W = .ok u W)
    (hk : wpList Tryd.prog ops Q rest (a.put o.dst u) w) : wpList Tryd.prog ops Q (o :: rest) a w := by
  refine wpList_on hw fun K hK => ?_
  unfold Oper.wp execOp
  simp only [ho, List.map_toArray, List.map_cons, List.map_nil, hx, hy, hz, hs, Sem.run_bind, hrun w, Result.andThen_ok, Sem.run_pure]
  exact hK _ _ hk
theorem wpList_bls2 (hw : Region.wanted o (yielded ops a.tmps) = true) (t : TypeId) (n : Nat) (x y : Operand) (ho : o.op = .buildSlice t n #[(0, x), (1, y)]) {v v2 u : Value} {w' : World} (hx : a.eval x = v) (hy : a.eval y = v2) (hrun : (Instr.buildSlice t n #[(0, v), (1, v2)]).run Tryd.prog w = .ok u w')
    (hk : wpList Tryd.prog ops Q rest (a.put o.dst u) w') : wpList Tryd.prog ops Q (o :: rest) a w := by
  refine wpList_on hw fun K hK => ?_
  unfold Oper.wp execOp
  simp only [ho, List.map_toArray, List.map_cons, List.map_nil, hx, hy, Sem.run_bind, hrun, Result.andThen_ok, Sem.run_pure]
  exact hK _ _ hk
theorem wpList_bls3 (hw : Region.wanted o (yielded ops a.tmps) = true) (t : TypeId) (n : Nat) (x y z : Operand) (ho : o.op = .buildSlice t n #[(0, x), (1, y), (2, z)]) {v v2 v3 u : Value} {w' : World} (hx : a.eval x = v) (hy : a.eval y = v2) (hz : a.eval z = v3) (hrun : (Instr.buildSlice t n #[(0, v), (1, v2), (2, v3)]).run Tryd.prog w = .ok u w')
    (hk : wpList Tryd.prog ops Q rest (a.put o.dst u) w') : wpList Tryd.prog ops Q (o :: rest) a w := by
  refine wpList_on hw fun K hK => ?_
  unfold Oper.wp execOp
  simp only [ho, List.map_toArray, List.map_cons, List.map_nil, hx, hy, hz, Sem.run_bind, hrun, Result.andThen_ok, Sem.run_pure]
  exact hK _ _ hk
end
def k7 : List Int := 7 :: (List.replicate 30 0 ++ [7])
def e2d : Ent := ⟨[100], true, k7, List.replicate 32 0, 10, 2⟩
def e2f : Ent := ⟨[102], false, k7, k7, 9, 300⟩
def twoL : List Ent := [e2d, e2f]
theorem e2d_ok : EnOk e2d := ⟨⟨by decide, ⟨by decide, by decide⟩, ⟨by decide, by decide⟩⟩, by decide, by decide, by decide⟩
theorem e2f_ok : EnOk e2f := ⟨⟨by decide, ⟨by decide, by decide⟩, ⟨by decide, by decide⟩⟩, by decide, by decide, by decide⟩
theorem twoL_ok : ∀ e ∈ twoL, EnOk e := by
  intro e he
  unfold twoL at he
  simp only [List.mem_cons, List.not_mem_nil, or_false] at he
  rcases he with rfl | rfl
  · exact e2d_ok
  · exact e2f_ok
def r2d : List Value := (List.replicate 32 (0 : Int)).map (Value.int .u8) ++ [.int .i64 10, .int .i64 2]
def r2f : List Value := k7.map (Value.int .u8) ++ [.int .i64 9, .int .i64 300]
theorem bK7 (W : World) : (Instr.build 32 #[(0, .int .u8 7), (31, .int .u8 7)]).run Tryd.prog W = .ok (.agg (k7.map (Value.int .u8)).toArray) W := by kernel_rfl
theorem bR2d (W : World) : (Instr.build 36 #[(1, .int .i64 10), (2, .int .i64 2)]).run Tryd.prog W = .ok (.agg r2d.toArray) W := by kernel_rfl
theorem bR2f (W : World) : (Instr.build 36 #[(0, .agg (k7.map (Value.int .u8)).toArray), (1, .int .i64 9), (2, .int .i64 300)]).run Tryd.prog W = .ok (.agg r2f.toArray) W := by kernel_rfl
theorem bE2d (W : World) : (Instr.build 38 #[(0, .string ⟨#[100]⟩), (1, .bool true), (2, .agg (k7.map (Value.int .u8)).toArray), (3, .agg r2d.toArray)]).run Tryd.prog W = .ok (.agg (enV e2d).toArray) W := by kernel_rfl
theorem bE2f (W : World) : (Instr.build 38 #[(0, .string ⟨#[102]⟩), (2, .agg (k7.map (Value.int .u8)).toArray), (3, .agg r2f.toArray)]).run Tryd.prog W = .ok (.agg (enV e2f).toArray) W := by kernel_rfl
theorem bTwo (W : World) : (Instr.buildSlice 22 2 #[(0, .agg (enV e2d).toArray), (1, .agg (enV e2f).toArray)]).run Tryd.prog W = .ok (.slice (some ⟨W.heap.size, 0, none⟩) 2 2) (W.alloc (.cells (ensV twoL).toArray 38)) := by kernel_rfl
theorem bTwoR (W : World) : (Instr.buildSlice 22 2 #[(0, .agg (enV e2f).toArray), (1, .agg (enV e2d).toArray)]).run Tryd.prog W = .ok (.slice (some ⟨W.heap.size, 0, none⟩) 2 2) (W.alloc (.cells (ensV [e2f, e2d]).toArray 38)) := by kernel_rfl
theorem k7_len : k7.length = 32 := by decide
set_option maxRecDepth 100000 in
set_option maxHeartbeats 4000000 in
theorem two_calls (w : World) : Calls Tryd.prog 27 #[] w fun e w' => ∃ g, e = .returned (.slice (some ⟨g, 0, none⟩) 2 2) ∧ w.heap.size ≤ g ∧ IsEn w' (.slice (some ⟨g, 0, none⟩) 2 2) twoL ∧ Below w.heap.size w w' := by
  have HI7 := hide (infoKof k7_len)
  have HL7 : Hid (z32.length = (k7.map (Value.int .u8)).length) := by show _ = _; rw [z32_len, List.length_map, k7_len]
  go_enter Tryd.func27, Tryd.ntmps27
  go_wp2_with (first
    | (refine wpList_allocZ rfl 32 rfl infoK ?_)
    | (refine wpList_storeArr2 (cs' := k7.map (Value.int .u8)) rfl (.tmp 1) (.tmp 2) 32 rfl rfl rfl (Arr.new w z32 32) HI7.out HL7.out (u8_one k7) ?_; intro w1 hA1 hw1; have HA1 := hide hA1; clear hA1)
    | (refine wpList_load_mid rfl 32 (.tmp 1) rfl w.heap.size 0 rfl (k7.map (Value.int .u8)) _ HA1.out.range Tryd.underlying32 rfl HI7.out ?_)
    | (refine wpList_bld4 rfl 38 0 1 2 3 (.const (.string ⟨#[100]⟩)) (.const (.bool true)) (.tmp 3) (.tmp 4) rfl (v := .string ⟨#[100]⟩) (v2 := .bool true) (v3 := .agg (k7.map (Value.int .u8)).toArray) (v4 := .agg r2d.toArray) (u := .agg (enV e2d).toArray) rfl rfl rfl rfl bE2d ?_)
    | (refine wpList_bld3 rfl 38 0 2 3 (.const (.string ⟨#[102]⟩)) (.tmp 6) (.tmp 8) rfl (v := .string ⟨#[102]⟩) (v2 := .agg (k7.map (Value.int .u8)).toArray) (v3 := .agg r2f.toArray) (u := .agg (enV e2f).toArray) rfl rfl rfl bE2f ?_)
    | (refine wpList_bls2 rfl 22 2 (.tmp 5) (.tmp 9) rfl (v := .agg (enV e2d).toArray) (v2 := .agg (enV e2f).toArray) (u := .slice (some ⟨w1.heap.size, 0, none⟩) 2 2) (w' := w1.alloc (.cells (ensV twoL).toArray 38)) rfl rfl (bTwo w1) ?_))
  go_ret
  have hb1 : Below w.heap.size w w1 := hw1.below _ _ (lit_blw _ _) (Nat.le_refl _)
  refine ⟨w1.heap.size, rfl, hb1.size, isEn_lit w1 twoL twoL_ok (by decide), below_then hb1 (lit_blw _ _)⟩
end Go.Proofs.YtpklbchbldipnabDoor
