/- Slots held against one another. -/
import Derived.Test.YtbgknbjpbobebaaDoorRtM
import Derived.Test.YtbgknbjpbobebaaDoorKeyEq
namespace Go.Proofs.YtbgknbjpbobebaaDoor
open Go.RowKit Go.Maps

theorem spart_row {t : TypeId} {d : TypeDesc} {cs : List Value} {o n : Nat} (hu : Tryd.prog.underlying t = some d) (hd : d.isRow = true) (hi : (Tryd.prog.info? t).map (·.size) = some n) (W : World) : (part t cs.toArray o).run Tryd.prog W = .ok (.agg ((cs.drop o).take n).toArray) W := by
  have hagg : (isAgg t).run Tryd.prog W = .ok true W := by
    unfold isAgg
    rw [Sem.run_bind, run_underlying hu W]
    cases d <;> simp_all
  cases hq : Tryd.prog.info? t with
  | none => simp [hq] at hi
  | some i =>
    have hs : i.size = n := by simpa [hq] using hi
    simp [part, Sem.run_bind, hagg, sizeOf, typeInfo, hq, hs]
theorem spart_cell {t : TypeId} {d : TypeDesc} {cs : List Value} {o : Nat} {v : Value} (hu : Tryd.prog.underlying t = some d) (hd : d.isRow = false) (hc : cs[o]? = some v) (W : World) : (part t cs.toArray o).run Tryd.prog W = .ok v W := by
  have hagg : (isAgg t).run Tryd.prog W = .ok false W := by
    unfold isAgg
    rw [Sem.run_bind, run_underlying hu W]
    cases d <;> simp_all
  simp [part, Sem.run_bind, hagg, hc]
theorem eqF_step {P : Program} {d : Nat} {xs ys : Array Value} {f : Field} {fs : List Field} {a b : Value} {r q : Bool} {w : World} (hn : f.name ≠ "_") (ha : (part f.type xs f.offset).run P w = .ok a w) (hb : (part f.type ys f.offset).run P w = .ok b w) (hr : (Op.equalIn d f.type a b).run P w = .ok r w) (hq : (Op.eqFields d xs ys fs).run P w = .ok q w) : (Op.eqFields d xs ys (f :: fs)).run P w = .ok (r && q) w := by
  rw [Op.eqFields, if_pos hn]
  simp only [Sem.run_bind, ha, hb, hr, Result.andThen_ok]
  cases r with
  | false => simp
  | true => simpa using hq
theorem sinfoKz : (Tryd.prog.info? 23).map (·.size) = some 32 := by kernel_rfl
def rfEq (x y : JF) : Bool := decide (x.h = y.h) && ((x.f == y.f) && ((x.l == y.l) && true))
theorem sref_equal {x y : JF} (lx : x.h.length = 32) (ly : y.h.length = 32) (W : World) : (Op.equalIn 9999 25 (.agg (jfV x).toArray) (.agg (jfV y).toArray)).run Tryd.prog W = .ok (rfEq x y) W := by
  have ui := Tryd.underlying3
  have uk := Tryd.underlying23
  rw [run_equalIn_struct W 9998 25 _ _ (by kernel_rfl) (by kernel_rfl)]
  have q1 : ∀ (a b : Int), (Op.equalIn 9998 3 (.int .i64 a) (.int .i64 b)).run Tryd.prog W = .ok (a == b) W := fun a b => run_equalIn_int W 9997 3 .i64 .i64 a b ui
  have q2 := run_equalIn_ints (P := Tryd.prog) W 9996 .u8 23 5 32 uk Tryd.underlying5 size8 x.h y.h lx ly
  have hp : ∀ {z : JF}, z.h.length = 32 → (part 23 (jfV z).toArray 0).run Tryd.prog W = .ok (.agg (z.h.map (Value.int .u8)).toArray) W := fun {z} lz => by
    have p0 := spart_row (cs := jfV z) (o := 0) uk rfl sinfoKz W
    have ez : ((jfV z).drop 0).take 32 = z.h.map (Value.int .u8) := by unfold jfV; rw [List.drop_zero]; exact List.take_left' (by simp [lz])
    rw [ez] at p0
    exact p0
  have hf : ∀ {z : JF}, z.h.length = 32 → (part 3 (jfV z).toArray 32).run Tryd.prog W = .ok (.int .i64 z.f) W ∧ (part 3 (jfV z).toArray 33).run Tryd.prog W = .ok (.int .i64 z.l) W := fun {z} lz => by
    obtain ⟨c1, c2⟩ := jfV_f lz
    exact ⟨spart_cell ui rfl c1 W, spart_cell ui rfl c2 W⟩
  simp only [Program.fieldsOf, Tryd.underlying25]
  unfold rfEq
  refine eqF_step (by decide) (hp lx) (hp ly) q2 ?_
  refine eqF_step (by decide) (hf lx).1 (hf ly).1 (q1 _ _) ?_
  refine eqF_step (by decide) (hf lx).2 (hf ly).2 (q1 _ _) ?_
  simp [Op.eqFields]
def slEq (x y : SL) : Bool := (x.sc == y.sc) && ((x.j == y.j) && ((x.t == y.t) && ((x.g == y.g) && ((x.s == y.s) && (decide (x.k = y.k) && (rfEq x.r y.r && (rfEq x.m y.m && true)))))))
theorem slot_equal {x y : SL} (hx : x.Ok) (hy : y.Ok) (W : World) : (Op.equalIn 10000 27 (.agg (slV x).toArray) (.agg (slV y).toArray)).run Tryd.prog W = .ok (slEq x y) W := by
  have ui := Tryd.underlying3
  have uk := Tryd.underlying23
  have ur := Tryd.underlying25
  rw [run_equalIn_struct W 9999 27 _ _ (by kernel_rfl) (by kernel_rfl)]
  have q1 : ∀ (a b : Int), (Op.equalIn 9999 3 (.int .i64 a) (.int .i64 b)).run Tryd.prog W = .ok (a == b) W := fun a b => run_equalIn_int W 9998 3 .i64 .i64 a b ui
  have q2 := run_equalIn_ints (P := Tryd.prog) W 9997 .u8 23 5 32 uk Tryd.underlying5 size8 x.k y.k hx.len hy.len
  have hc : ∀ {z : SL} {i : Nat} {v : Value}, (slV z)[i]? = some v → (part 3 (slV z).toArray i).run Tryd.prog W = .ok v W := fun {z i v} h => spart_cell ui rfl h W
  have hk : ∀ {z : SL}, z.Ok → (part 23 (slV z).toArray 5).run Tryd.prog W = .ok (.agg (z.k.map (Value.int .u8)).toArray) W := fun {z} h => by
    have p0 := spart_row (cs := slV z) (o := 5) uk rfl sinfoKz W
    have ez : ((slV z).drop 5).take 32 = z.k.map (Value.int .u8) := by
      unfold slV
      rw [List.drop_left' (by rfl)]
      exact List.take_left' (by simp [h.len])
    rw [ez] at p0
    exact p0
  have hr : ∀ {z : SL}, z.Ok → (part 25 (slV z).toArray 37).run Tryd.prog W = .ok (.agg (jfV z.r).toArray) W ∧ (part 25 (slV z).toArray 71).run Tryd.prog W = .ok (.agg (jfV z.m).toArray) W := fun {z} h => by
    have p0 := spart_row (cs := slV z) (o := 37) ur rfl infoJz W
    have p1 := spart_row (cs := slV z) (o := 71) ur rfl infoJz W
    have lk : (z.k.map (Value.int .u8)).length = 32 := by rw [List.length_map, h.len]
    have e37 : (slV z).drop 37 = jfV z.r ++ jfV z.m := by
      unfold slV
      rw [← List.append_assoc]
      exact List.drop_left' (by rw [List.length_append, lk]; rfl)
    have e71 : (slV z).drop 71 = jfV z.m := by
      rw [show 71 = 37 + 34 from rfl, ← List.drop_drop, e37]
      exact List.drop_left' (jfV_len h.r)
    rw [e37, List.take_left' (jfV_len h.r)] at p0
    rw [e71, List.take_of_length_le (by rw [jfV_len h.m]; exact Nat.le_refl _)] at p1
    exact ⟨p0, p1⟩
  simp only [Program.fieldsOf, Tryd.underlying27]
  unfold slEq
  refine eqF_step (by decide) (hc (slV_at x).1) (hc (slV_at y).1) (q1 _ _) ?_
  refine eqF_step (by decide) (hc (slV_at x).2.1) (hc (slV_at y).2.1) (q1 _ _) ?_
  refine eqF_step (by decide) (hc (slV_at x).2.2.1) (hc (slV_at y).2.2.1) (q1 _ _) ?_
  refine eqF_step (by decide) (hc (slV_at x).2.2.2.1) (hc (slV_at y).2.2.2.1) (q1 _ _) ?_
  refine eqF_step (by decide) (hc (slV_at x).2.2.2.2) (hc (slV_at y).2.2.2.2) (q1 _ _) ?_
  refine eqF_step (by decide) (hk hx) (hk hy) q2 ?_
  refine eqF_step (by decide) (hr hx).1 (hr hy).1 (sref_equal hx.r.len hy.r.len W) ?_
  refine eqF_step (by decide) (hr hx).2 (hr hy).2 (sref_equal hx.m.len hy.m.len W) ?_
  simp [Op.eqFields]
theorem rfEq_iff (x y : JF) : rfEq x y = true ↔ x = y := by
  rcases x with ⟨a, b, c⟩
  rcases y with ⟨a', b', c'⟩
  simp [rfEq]
theorem slEq_iff (x y : SL) : slEq x y = true ↔ x = y := by
  rcases x with ⟨a, b, c, d, e, f, g, h⟩
  rcases y with ⟨a', b', c', d', e', f', g', h'⟩
  simp [slEq, rfEq_iff]
theorem slEq_refl (x : SL) : slEq x x = true := (slEq_iff x x).2 rfl
theorem slEq_no {x y : SL} (h : x ≠ y) : slEq x y = false := by
  cases e : slEq x y with
  | false => rfl
  | true => exact absurd ((slEq_iff x y).1 e) h
theorem slot_eql {x y : SL} (hx : x.Ok) (hy : y.Ok) (W : World) : (binOp .eql 27 (.agg (slV x).toArray) (.agg (slV y).toArray)).run Tryd.prog W = .ok (.bool (slEq x y)) W := by
  rw [run_eql_struct, slot_equal hx hy]; simp
theorem slot_neq {x y : SL} (hx : x.Ok) (hy : y.Ok) (W : World) : (binOp .neq 27 (.agg (slV x).toArray) (.agg (slV y).toArray)).run Tryd.prog W = .ok (.bool (!slEq x y)) W := by
  rw [run_neq_struct, slot_equal hx hy]; simp
theorem slot_guard (op : BinOp) (x y : Operand) (xs ys : Array Value) (w : World) : (eqGuard op 27 x y (.agg xs) (.agg ys)).run Tryd.prog w = .ok () w := run_eqGuard_agg w op 27 x y xs ys (by kernel_rfl)
end Go.Proofs.YtbgknbjpbobebaaDoor
