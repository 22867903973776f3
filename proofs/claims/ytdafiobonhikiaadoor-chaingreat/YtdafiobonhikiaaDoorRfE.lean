/- Refs and acts held against one another; what is read behind a guard. -/
import Derived.Test.YtdafiobonhikiaaDoorRJ
import Derived.Test.YtdafiobonhikiaaDoorQH
namespace Go.Proofs.YtdafiobonhikiaaDoor
open Go.RowKit Go.Maps

theorem part_row6 {t : TypeId} {d : TypeDesc} {cs : List Value} {o n : Nat} (hu : Tryd.prog.underlying t = some d) (hd : d.isRow = true) (hi : (Tryd.prog.info? t).map (·.size) = some n) (W : World) : (part t cs.toArray o).run Tryd.prog W = .ok (.agg ((cs.drop o).take n).toArray) W := by
  have hagg : (isAgg t).run Tryd.prog W = .ok true W := by
    unfold isAgg
    rw [Sem.run_bind, run_underlying hu W]
    cases d <;> simp_all
  cases hq : Tryd.prog.info? t with
  | none => simp [hq] at hi
  | some i =>
    have hs : i.size = n := by simpa [hq] using hi
    simp [part, Sem.run_bind, hagg, sizeOf, typeInfo, hq, hs]
theorem part_cell6 {t : TypeId} {d : TypeDesc} {cs : List Value} {o : Nat} {v : Value} (hu : Tryd.prog.underlying t = some d) (hd : d.isRow = false) (hc : cs[o]? = some v) (W : World) : (part t cs.toArray o).run Tryd.prog W = .ok v W := by
  have hagg : (isAgg t).run Tryd.prog W = .ok false W := by
    unfold isAgg
    rw [Sem.run_bind, run_underlying hu W]
    cases d <;> simp_all
  simp [part, Sem.run_bind, hagg, hc]
theorem infoK6 : (Tryd.prog.info? 24).map (·.size) = some 32 := by kernel_rfl
theorem ref_equal6 {hs hs' : List Int} {fi le fi' le' : Int} (lx : hs.length = 32) (ly : hs'.length = 32) (W : World) : (Op.equalIn 10000 26 (.agg (refV hs fi le).toArray) (.agg (refV hs' fi' le').toArray)).run Tryd.prog W = .ok (decide (hs = hs') && decide (fi = fi') && decide (le = le')) W := by
  have ui := Tryd.underlying3
  have uk := Tryd.underlying24
  rw [run_equalIn_struct W 9999 26 _ _ (by kernel_rfl) (by kernel_rfl)]
  have q1 : ∀ (a b : Int) (W : World), (Op.equalIn 9999 3 (.int .i64 a) (.int .i64 b)).run Tryd.prog W = .ok (a == b) W := fun a b W => run_equalIn_int W 9998 3 .i64 .i64 a b ui
  have q2 := fun W => run_equalIn_ints (P := Tryd.prog) W 9997 .u8 24 5 32 uk Tryd.underlying5 size8 hs hs' lx ly
  have px0 := fun W => part_row6 (cs := refV hs fi le) (o := 0) uk rfl infoK6 W
  have py0 := fun W => part_row6 (cs := refV hs' fi' le') (o := 0) uk rfl infoK6 W
  have ex : ((refV hs fi le).drop 0).take 32 = hs.map (Value.int .u8) := by unfold refV; rw [List.drop_zero]; exact List.take_left' (by simp [lx])
  have ey : ((refV hs' fi' le').drop 0).take 32 = hs'.map (Value.int .u8) := by unfold refV; rw [List.drop_zero]; exact List.take_left' (by simp [ly])
  rw [ex] at px0
  rw [ey] at py0
  have px1 := fun W => part_cell6 (cs := refV hs fi le) (o := 32) (v := .int .i64 fi) ui rfl (by unfold refV; rw [List.getElem?_append_right (by simp [lx])]; simp [lx]) W
  have py1 := fun W => part_cell6 (cs := refV hs' fi' le') (o := 32) (v := .int .i64 fi') ui rfl (by unfold refV; rw [List.getElem?_append_right (by simp [ly])]; simp [ly]) W
  have px2 := fun W => part_cell6 (cs := refV hs fi le) (o := 33) (v := .int .i64 le) ui rfl (by unfold refV; rw [List.getElem?_append_right (by simp [lx])]; simp [lx]) W
  have py2 := fun W => part_cell6 (cs := refV hs' fi' le') (o := 33) (v := .int .i64 le') ui rfl (by unfold refV; rw [List.getElem?_append_right (by simp [ly])]; simp [ly]) W
  simp only [Program.fieldsOf, Tryd.underlying26]
  generalize (refV hs fi le).toArray = cx at *
  generalize (refV hs' fi' le').toArray = cy at *
  generalize hk : decide (hs = hs') = bk at *
  by_cases h2 : fi = fi' <;> by_cases h3 : le = le' <;> cases bk <;> simp [Op.eqFields, px0, py0, px1, py1, px2, py2, q1, q2, h2, h3]
theorem ref_eql6 {hs : List Int} {fi le : Int} (lx : hs.length = 32) (W : World) : (binOp .eql 26 (.agg (refV hs fi le).toArray) (.agg (refV hs fi le).toArray)).run Tryd.prog W = .ok (.bool true) W := by
  rw [run_eql_struct, ref_equal6 lx lx]; simp
theorem ref_neq6 {hs : List Int} {fi le : Int} (lx : hs.length = 32) (W : World) : (binOp .neq 26 (.agg (refV hs fi le).toArray) (.agg (refV hs fi le).toArray)).run Tryd.prog W = .ok (.bool false) W := by
  rw [run_neq_struct, ref_equal6 lx lx]; simp
theorem ref_guardE (op : BinOp) (x y : Operand) (xs ys : Array Value) (w : World) : (eqGuard op 26 x y (.agg xs) (.agg ys)).run Tryd.prog w = .ok () w := run_eqGuard_agg w op 26 x y xs ys (by kernel_rfl)
section
variable {ops : Array Oper} {rest : List Oper} {o : Oper} {a : Act} {Q : Exit → Act → World → Prop} {w : World} {K : Act → World → Prop} {E : Prop}
/-- A struct or an array read behind a guard that holds. -/
theorem wpList_load6On (hw : Region.wanted o (yielded ops a.tmps) = true) (ty : TypeId) (x : Operand) (ho : o.op = .load ty x) (b f : Nat) (hx : a.eval x = .pointer (some ⟨b, f, none⟩)) (cs : List Value) (d : TypeDesc) (hc : w.rangeAt b f cs)
    (hu : Tryd.prog.underlying ty = some d) (hd : d.isRow = true) (hi : (Tryd.prog.info? ty).map (·.size) = some cs.length) (h : wpList Tryd.prog ops Q rest (a.put o.dst (.agg cs.toArray)) w) : wpList Tryd.prog ops Q (o :: rest) a w :=
  wpList_on hw fun _ hK => wp_load_mid ty x ho b f hx cs d hc hu hd hi (hK _ _ h)
theorem step_call4GC (hw : Region.wanted o (yielded ops a.tmps) = true) (f : Nat) (hf : ∀ (v u z q : Value) (W : World), (callFunc f #[v, u, z, q]).run Tryd.prog W = .ok (.enter f #[v, u, z, q]) W) (x y t s : Operand) (ts : Array TypeId) (ho : o.op = .call { callee := .value (.func f), args := #[x, y, t, s], argTypes := ts }) {v u z q : Value} (hx : a.eval x = v) (hy : a.eval y = u) (ht : a.eval t = z) (hs : a.eval s = q)
    {Post : Ending → World → Prop} (hc : Calls Tryd.prog f #[v, u, z, q] w Post) (hk : ∀ e w2, Post e w2 → ∃ r, e = .returned r ∧ K (a.put o.dst r) w2) :
    if Region.wanted o (yielded ops a.tmps) = true then Oper.wp Tryd.prog o a w K Q else E := by
  rw [if_pos hw]
  have hrun : (execOp a.eval o).run Tryd.prog w = .ok (.enter f #[v, u, z, q]) w := by
    have h1 := hf v u z q w
    unfold execOp
    have hfv : a.eval (.func f) = .func (.func f) #[] #[] := rfl
    simp [ho, hx, hy, ht, hs, hfv, resolve, invoke, Deferred.ofValue, h1]
  unfold Oper.wp
  rw [hrun]
  refine hc.mono ?_
  intro e w2 hp
  obtain ⟨r, rfl, hK⟩ := hk e w2 hp
  exact hK
end
end Go.Proofs.YtdafiobonhikiaaDoor
