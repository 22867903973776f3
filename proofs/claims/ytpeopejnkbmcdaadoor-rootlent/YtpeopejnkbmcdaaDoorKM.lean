/- Keys (arrays of bytes) held against one another. Slots held against one another. What easy and started answer. -/
import Derived.Test.YtpeopejnkbmcdaaDoorKA
import Derived.Laws.StructEq
import Derived.Test.YtpeopejnkbmcdaaDoorKI
import Derived.Test.YtpeopejnkbmcdaaDoorKL
namespace Go.Proofs.YtpeopejnkbmcdaaDoor
open Go.RowKit

theorem all_range_int : ∀ (xs ys : List Int), xs.length = ys.length → ((List.range xs.length).all fun i => decide (xs.getD i 0 = ys.getD i 0)) = decide (xs = ys)
  | [], [], _ => rfl
  | x :: xs, y :: ys, h => by
    have ih := all_range_int xs ys (by simpa using h)
    rw [List.length_cons, List.range_succ_eq_map, List.all_cons, List.all_map]
    simp only [List.getD_cons_zero, Function.comp_def, List.getD_cons_succ, ih]
    rw [Bool.eq_iff_iff]
    simp
  | [], _ :: _, h => by simp at h
  | _ :: _, [], h => by simp at h
section
variable {P : Program} (w : World)
theorem run_equalIn_ints (d : Nat) (k : IntKind) (t e : TypeId) (n : Nat) (ht : P.underlying t = some (.array n e)) (he : P.underlying e = some (.int k)) (hsz : ∀ w, (sizeOf e).run P w = .ok 1 w) (xs ys : List Int) (hx : xs.length = n) (hy : ys.length = n) :
    (Op.equalIn (d + 2) t (.agg (xs.map (Value.int k)).toArray) (.agg (ys.map (Value.int k)).toArray)).run P w = .ok (decide (xs = ys)) w := by
  rw [← all_range_int xs ys (hx.trans hy.symm), hx, List.range_eq_range', Op.equalIn]
  simp only [Sem.run_bind, run_underlying ht, Result.andThen_ok, hsz, Std.Legacy.Range.forIn_eq_forIn_range', Std.Legacy.Range.size, Nat.sub_zero, Nat.add_sub_cancel, Nat.div_one]
  have hl : ∀ i ∈ List.range' 0 n 1, i < n := fun i hi => by simpa using (List.mem_range'_1.1 hi).2
  generalize List.range' 0 n 1 = l at hl ⊢
  induction l with
  | nil => simp
  | cons i l ih =>
    have hi : i < n := hl i (by simp)
    have px : (part e (xs.map (Value.int k)).toArray (i * 1)).run P w = .ok (.int k (xs.getD i 0)) w := by
      simp [part, isAgg, run_underlying he, List.getD, List.getElem?_eq_getElem (show i < xs.length by omega)]
    have py : (part e (ys.map (Value.int k)).toArray (i * 1)).run P w = .ok (.int k (ys.getD i 0)) w := by
      simp [part, isAgg, run_underlying he, List.getD, List.getElem?_eq_getElem (show i < ys.length by omega)]
    have pe : (Op.equalIn (d + 1) e (.int k (xs.getD i 0)) (.int k (ys.getD i 0))).run P w = .ok (decide (xs.getD i 0 = ys.getD i 0)) w := by
      rw [run_equalIn_int w d e k k _ _ he]
      congr 1
    simp only [List.forIn_cons, Sem.run_bind, px, py, pe, Result.andThen_ok, List.all_cons]
    cases hb : decide (xs.getD i 0 = ys.getD i 0)
    · simp
    · simp only [Bool.not_true, Bool.false_eq_true, if_false, Sem.run_pure, Result.andThen_ok, Bool.true_and]
      exact ih fun j hj => hl j (by simp [hj])
end
theorem size8 (w : World) : (sizeOf 5).run Tryd.prog w = .ok 1 w := by kernel_rfl
theorem key_eql (xs ys : List Int) (hx : xs.length = 32) (hy : ys.length = 32) (w : World) : (binOp .eql 28 (.agg (xs.map (Value.int .u8)).toArray) (.agg (ys.map (Value.int .u8)).toArray)).run Tryd.prog w = .ok (.bool (decide (xs = ys))) w := by
  rw [run_eql_struct, run_equalIn_ints w 9998 .u8 28 5 32 Tryd.underlying28 Tryd.underlying5 size8 xs ys hx hy]
  rfl
theorem key_neq (xs ys : List Int) (hx : xs.length = 32) (hy : ys.length = 32) (w : World) : (binOp .neq 28 (.agg (xs.map (Value.int .u8)).toArray) (.agg (ys.map (Value.int .u8)).toArray)).run Tryd.prog w = .ok (.bool (!decide (xs = ys))) w := by
  rw [run_neq_struct, run_equalIn_ints w 9998 .u8 28 5 32 Tryd.underlying28 Tryd.underlying5 size8 xs ys hx hy]
  rfl
theorem key_guard (op : BinOp) (x y : Operand) (xs ys : Array Value) (w : World) : (eqGuard op 28 x y (.agg xs) (.agg ys)).run Tryd.prog w = .ok () w := run_eqGuard_agg w op 28 x y xs ys (by kernel_rfl)
end Go.Proofs.YtpeopejnkbmcdaaDoor

namespace Go.Proofs.YtpeopejnkbmcdaaDoor
open Go.RowKit Go.Maps

theorem spart_row {t : TypeId} {d : TypeDesc} {cs : List Value} {o n : Nat} (hu : Tryd.prog.underlying t = some d) (hd : d.isRow = true) (hi : (Tryd.prog.info? t).map (·.size) = some n) (W : World) : (part t cs.toArray o).run Tryd.prog W = .ok (.agg ((cs.drop o).take n).toArray) W := by
  have hagg : (isAgg t).run Tryd.prog W = .ok true W := by
    unfold isAgg
    rw [Sem.run_bind, run_underlying hu W]
    cases d <;> simp_all
  cases hq : Tryd.prog.info? t with
  | none => simp [hq] at hi
  | some i =>
    have hs : i.size = n := by simpa [hq] using hi
    simp [part, Sem.run_bind, hagg, sizeOf, typeInfo, hq, hs]
theorem spart_cell {t : TypeId} {d : TypeDesc} {cs : List Value} {o : Nat} {v : Value} (hu : Tryd.prog.underlying t = some d) (hd : d.isRow = false) (hc : cs[o]? = some v) (W : World) : (part t cs.toArray o).run Tryd.prog W = .ok v W := by
  have hagg : (isAgg t).run Tryd.prog W = .ok false W := by
    unfold isAgg
    rw [Sem.run_bind, run_underlying hu W]
    cases d <;> simp_all
  simp [part, Sem.run_bind, hagg, hc]
theorem eqF_step {P : Program} {d : Nat} {xs ys : Array Value} {f : Field} {fs : List Field} {a b : Value} {r q : Bool} {w : World} (hn : f.name ≠ "_") (ha : (part f.type xs f.offset).run P w = .ok a w) (hb : (part f.type ys f.offset).run P w = .ok b w) (hr : (Op.equalIn d f.type a b).run P w = .ok r w) (hq : (Op.eqFields d xs ys fs).run P w = .ok q w) : (Op.eqFields d xs ys (f :: fs)).run P w = .ok (r && q) w := by
  rw [Op.eqFields, if_pos hn]
  simp only [Sem.run_bind, ha, hb, hr, Result.andThen_ok]
  cases r with
  | false => simp
  | true => simpa using hq
theorem sinfoKz : (Tryd.prog.info? 28).map (·.size) = some 32 := by kernel_rfl
def rfEq (x y : JF) : Bool := decide (x.h = y.h) && ((x.f == y.f) && ((x.l == y.l) && true))
theorem sref_equal {x y : JF} (lx : x.h.length = 32) (ly : y.h.length = 32) (W : World) : (Op.equalIn 9999 30 (.agg (jfV x).toArray) (.agg (jfV y).toArray)).run Tryd.prog W = .ok (rfEq x y) W := by
  have ui := Tryd.underlying3
  have uk := Tryd.underlying28
  rw [run_equalIn_struct W 9998 30 _ _ (by kernel_rfl) (by kernel_rfl)]
  have q1 : ∀ (a b : Int), (Op.equalIn 9998 3 (.int .i64 a) (.int .i64 b)).run Tryd.prog W = .ok (a == b) W := fun a b => run_equalIn_int W 9997 3 .i64 .i64 a b ui
  have q2 := run_equalIn_ints (P := Tryd.prog) W 9996 .u8 28 5 32 uk Tryd.underlying5 size8 x.h y.h lx ly
  have hp : ∀ {z : JF}, z.h.length = 32 → (part 28 (jfV z).toArray 0).run Tryd.prog W = .ok (.agg (z.h.map (Value.int .u8)).toArray) W := fun {z} lz => by
    have p0 := spart_row (cs := jfV z) (o := 0) uk rfl sinfoKz W
    have ez : ((jfV z).drop 0).take 32 = z.h.map (Value.int .u8) := by unfold jfV; rw [List.drop_zero]; exact List.take_left' (by simp [lz])
    rw [ez] at p0
    exact p0
  have hf : ∀ {z : JF}, z.h.length = 32 → (part 3 (jfV z).toArray 32).run Tryd.prog W = .ok (.int .i64 z.f) W ∧ (part 3 (jfV z).toArray 33).run Tryd.prog W = .ok (.int .i64 z.l) W := fun {z} lz => by
    obtain ⟨c1, c2⟩ := jfV_f lz
    exact ⟨spart_cell ui rfl c1 W, spart_cell ui rfl c2 W⟩
  simp only [Program.fieldsOf, Tryd.underlying30]
  unfold rfEq
  refine eqF_step (by decide) (hp lx) (hp ly) q2 ?_
  refine eqF_step (by decide) (hf lx).1 (hf ly).1 (q1 _ _) ?_
  refine eqF_step (by decide) (hf lx).2 (hf ly).2 (q1 _ _) ?_
  simp [Op.eqFields]
def slEq (x y : SL) : Bool := (x.sc == y.sc) && ((x.j == y.j) && ((x.t == y.t) && ((x.g == y.g) && ((x.s == y.s) && (decide (x.k = y.k) && (rfEq x.r y.r && (rfEq x.m y.m && true)))))))
theorem slot_equal {x y : SL} (hx : x.Ok) (hy : y.Ok) (W : World) : (Op.equalIn 10000 32 (.agg (slV x).toArray) (.agg (slV y).toArray)).run Tryd.prog W = .ok (slEq x y) W := by
  have ui := Tryd.underlying3
  have uk := Tryd.underlying28
  have ur := Tryd.underlying30
  rw [run_equalIn_struct W 9999 32 _ _ (by kernel_rfl) (by kernel_rfl)]
  have q1 : ∀ (a b : Int), (Op.equalIn 9999 3 (.int .i64 a) (.int .i64 b)).run Tryd.prog W = .ok (a == b) W := fun a b => run_equalIn_int W 9998 3 .i64 .i64 a b ui
  have q2 := run_equalIn_ints (P := Tryd.prog) W 9997 .u8 28 5 32 uk Tryd.underlying5 size8 x.k y.k hx.len hy.len
  have hc : ∀ {z : SL} {i : Nat} {v : Value}, (slV z)[i]? = some v → (part 3 (slV z).toArray i).run Tryd.prog W = .ok v W := fun {z i v} h => spart_cell ui rfl h W
  have hk : ∀ {z : SL}, z.Ok → (part 28 (slV z).toArray 5).run Tryd.prog W = .ok (.agg (z.k.map (Value.int .u8)).toArray) W := fun {z} h => by
    have p0 := spart_row (cs := slV z) (o := 5) uk rfl sinfoKz W
    have ez : ((slV z).drop 5).take 32 = z.k.map (Value.int .u8) := by
      unfold slV
      rw [List.drop_left' (by rfl)]
      exact List.take_left' (by simp [h.len])
    rw [ez] at p0
    exact p0
  have hr : ∀ {z : SL}, z.Ok → (part 30 (slV z).toArray 37).run Tryd.prog W = .ok (.agg (jfV z.r).toArray) W ∧ (part 30 (slV z).toArray 71).run Tryd.prog W = .ok (.agg (jfV z.m).toArray) W := fun {z} h => by
    have p0 := spart_row (cs := slV z) (o := 37) ur rfl infoJz W
    have p1 := spart_row (cs := slV z) (o := 71) ur rfl infoJz W
    have lk : (z.k.map (Value.int .u8)).length = 32 := by rw [List.length_map, h.len]
    have e37 : (slV z).drop 37 = jfV z.r ++ jfV z.m := by
      unfold slV
      rw [← List.append_assoc]
      exact List.drop_left' (by rw [List.length_append, lk]; rfl)
    have e71 : (slV z).drop 71 = jfV z.m := by
      rw [show 71 = 37 + 34 from rfl, ← List.drop_drop, e37]
      exact List.drop_left' (jfV_len h.r)
    rw [e37, List.take_left' (jfV_len h.r)] at p0
    rw [e71, List.take_of_length_le (by rw [jfV_len h.m]; exact Nat.le_refl _)] at p1
    exact ⟨p0, p1⟩
  simp only [Program.fieldsOf, Tryd.underlying32]
  unfold slEq
  refine eqF_step (by decide) (hc (slV_at x).1) (hc (slV_at y).1) (q1 _ _) ?_
  refine eqF_step (by decide) (hc (slV_at x).2.1) (hc (slV_at y).2.1) (q1 _ _) ?_
  refine eqF_step (by decide) (hc (slV_at x).2.2.1) (hc (slV_at y).2.2.1) (q1 _ _) ?_
  refine eqF_step (by decide) (hc (slV_at x).2.2.2.1) (hc (slV_at y).2.2.2.1) (q1 _ _) ?_
  refine eqF_step (by decide) (hc (slV_at x).2.2.2.2) (hc (slV_at y).2.2.2.2) (q1 _ _) ?_
  refine eqF_step (by decide) (hk hx) (hk hy) q2 ?_
  refine eqF_step (by decide) (hr hx).1 (hr hy).1 (sref_equal hx.r.len hy.r.len W) ?_
  refine eqF_step (by decide) (hr hx).2 (hr hy).2 (sref_equal hx.m.len hy.m.len W) ?_
  simp [Op.eqFields]
theorem rfEq_iff (x y : JF) : rfEq x y = true ↔ x = y := by
  rcases x with ⟨a, b, c⟩
  rcases y with ⟨a', b', c'⟩
  simp [rfEq]
theorem slEq_iff (x y : SL) : slEq x y = true ↔ x = y := by
  rcases x with ⟨a, b, c, d, e, f, g, h⟩
  rcases y with ⟨a', b', c', d', e', f', g', h'⟩
  simp [slEq, rfEq_iff]
theorem slEq_refl (x : SL) : slEq x x = true := (slEq_iff x x).2 rfl
theorem slEq_no {x y : SL} (h : x ≠ y) : slEq x y = false := by
  cases e : slEq x y with
  | false => rfl
  | true => exact absurd ((slEq_iff x y).1 e) h
theorem slot_eql {x y : SL} (hx : x.Ok) (hy : y.Ok) (W : World) : (binOp .eql 32 (.agg (slV x).toArray) (.agg (slV y).toArray)).run Tryd.prog W = .ok (.bool (slEq x y)) W := by
  rw [run_eql_struct, slot_equal hx hy]; simp
theorem slot_neq {x y : SL} (hx : x.Ok) (hy : y.Ok) (W : World) : (binOp .neq 32 (.agg (slV x).toArray) (.agg (slV y).toArray)).run Tryd.prog W = .ok (.bool (!slEq x y)) W := by
  rw [run_neq_struct, slot_equal hx hy]; simp
theorem slot_guard (op : BinOp) (x y : Operand) (xs ys : Array Value) (w : World) : (eqGuard op 32 x y (.agg xs) (.agg ys)).run Tryd.prog w = .ok () w := run_eqGuard_agg w op 32 x y xs ys (by kernel_rfl)
end Go.Proofs.YtpeopejnkbmcdaaDoor

namespace Go.Proofs.YtpeopejnkbmcdaaDoor
open Go.RowKit Go.Maps

/-- The slot that started writes. -/
def ez : SL := ⟨40, 8, 0, 0, 0, List.replicate 32 0, ⟨List.replicate 32 0, 10, 0⟩, ⟨List.replicate 32 0, 11, 2⟩⟩
theorem ez_ok : ez.Ok := ⟨⟨by decide, by decide⟩, ⟨by decide, by decide⟩, ⟨by decide, by decide⟩, ⟨by decide, by decide⟩, ⟨by decide, by decide⟩, by simp [ez], By8.zero 32, ⟨by simp [ez], By8.zero 32, ⟨by decide, by decide⟩, ⟨by decide, by decide⟩⟩, ⟨by simp [ez], By8.zero 32, ⟨by decide, by decide⟩, ⟨by decide, by decide⟩⟩⟩
theorem ez_may : ez.May := ⟨by decide, by decide, by decide, by decide, by decide, ⟨by decide, by decide⟩, ⟨by decide, by decide⟩, ⟨by decide, by decide⟩, ⟨by decide, by decide, by decide, by decide⟩, ⟨by decide, by decide, by decide, by decide⟩⟩
def rf0 (a b : Int) : JF := ⟨List.replicate 32 0, a, b⟩
theorem bldE1 (a b : Int) (W : World) : (Instr.build 30 #[(1, .int .i64 a), (2, .int .i64 b)]).run Tryd.prog W = .ok (.agg (jfV (rf0 a b)).toArray) W := by kernel_rfl
theorem bldE2 (W : World) : (Instr.build 32 #[(0, .int .i64 40), (1, .int .i64 8), (2, .int .i64 0), (3, .int .i64 0), (4, .int .i64 0), (6, .agg (jfV (rf0 10 0)).toArray), (7, .agg (jfV (rf0 11 2)).toArray)]).run Tryd.prog W = .ok (.agg (slV ez).toArray) W := by kernel_rfl
section
variable {ops : Array Oper} {rest : List Oper} {o : Oper} {a : Act} {Q : Exit → Act → World → Prop} {w : World}
theorem wpList_bldE1 (hgd : o.guard = none) (x y : Operand) (ho : o.op = .build 30 #[(1, x), (2, y)]) {vx vy : Int} (hx : a.eval x = .int .i64 vx) (hy : a.eval y = .int .i64 vy)
    (hk : wpList Tryd.prog ops Q rest (a.put o.dst (.agg (jfV (rf0 vx vy)).toArray)) w) : wpList Tryd.prog ops Q (o :: rest) a w := by
  refine wpList_plain hgd fun K hK => ?_
  unfold Oper.wp execOp
  simp only [ho, List.map_toArray, List.map_cons, List.map_nil, hx, hy, Sem.run_bind, bldE1, Result.andThen_ok, Sem.run_pure]
  exact hK _ _ hk
theorem wpList_bldE2 (hgd : o.guard = none) (x0 x1 x2 x3 x4 x6 x7 : Operand) (ho : o.op = .build 32 #[(0, x0), (1, x1), (2, x2), (3, x3), (4, x4), (6, x6), (7, x7)]) (h0 : a.eval x0 = .int .i64 40) (h1 : a.eval x1 = .int .i64 8) (h2 : a.eval x2 = .int .i64 0) (h3 : a.eval x3 = .int .i64 0) (h4 : a.eval x4 = .int .i64 0) (h6 : a.eval x6 = .agg (jfV (rf0 10 0)).toArray) (h7 : a.eval x7 = .agg (jfV (rf0 11 2)).toArray)
    (hk : wpList Tryd.prog ops Q rest (a.put o.dst (.agg (slV ez).toArray)) w) : wpList Tryd.prog ops Q (o :: rest) a w := by
  refine wpList_plain hgd fun K hK => ?_
  unfold Oper.wp execOp
  simp only [ho, List.map_toArray, List.map_cons, List.map_nil, h0, h1, h2, h3, h4, h6, h7, Sem.run_bind, bldE2, Result.andThen_ok, Sem.run_pure]
  exact hK _ _ hk
end
theorem wpList_loadOnS {ops : Array Oper} {rest : List Oper} {o : Oper} {a : Act} {Q : Exit → Act → World → Prop} {w : World} (hw : Region.wanted o (yielded ops a.tmps) = true) (ty : TypeId) (x : Operand) (ho : o.op = .load ty x) (b f : Nat) (hx : a.eval x = .pointer (some ⟨b, f, none⟩)) (cs : List Value) (d : TypeDesc) (hc : w.rangeAt b f cs)
    (hu : Tryd.prog.underlying ty = some d) (hd : d.isRow = true) (hi : (Tryd.prog.info? ty).map (·.size) = some cs.length) (h : wpList Tryd.prog ops Q rest (a.put o.dst (.agg cs.toArray)) w) : wpList Tryd.prog ops Q (o :: rest) a w :=
  wpList_on hw fun _ hK => wp_load_mid ty x ho b f hx cs d hc hu hd hi (hK _ _ h)
set_option maxRecDepth 100000 in
set_option maxHeartbeats 1000000 in
theorem easy_calls (w : World) : Calls Tryd.prog 31 #[.int .i64 0] w fun e w' => e = .returned (.agg (slV ez).toArray) ∧ Below w.heap.size w w' := by
  have hinf := infoSof ez_ok
  have hlen : z105.length = (slV ez).length := by rw [slV_len ez_ok]; rfl
  have hone := slV_one ez
  have HB1 := hide (jalloc_below w (.cells z105.toArray 32))
  go_enter Tryd.func31, Tryd.ntmps31
  go_wp2_with (first
    | (refine wpList_allocJ rfl 32 rfl infoSlo ?_)
    | (refine wpList_bldE1 rfl (.tmp 10) (.tmp 12) rfl (vx := 10) (vy := 0) rfl rfl ?_)
    | (refine wpList_bldE1 rfl _ _ rfl (vx := 11) (vy := 2) rfl rfl ?_)
    | (refine wpList_bldE2 rfl _ _ _ _ _ _ _ rfl rfl rfl rfl rfl rfl rfl rfl ?_; generalize jfV (rf0 10 0) = j1; generalize jfV (rf0 11 2) = j2)
    | (refine wpList_storeJ rfl (.tmp 2) (.tmp 15) 32 rfl rfl rfl (Arr.new w z105 32) hinf hlen hone ?_; intro w2 hA2 hg2)
    | fail)
  have HB2 := hide (jbelow_grown HB1.out hg2 HB1.out.size (Nat.le_refl _))
  have hA3 : Arr w2 w.heap.size 32 (slV ez) := hA2
  refine bodyPost_ret (results_rowJ rfl rfl hA3 Tryd.underlying32 rfl hinf) rfl ?_
  exact ⟨rfl, HB2.out⟩
theorem flush_nowS {D : AD} {i : Nat} (hi : i < D.la.length) (hw : (D.wr i).length < 9223372036854775807) : D.flush.now i = D.now i := by
  rw [← AD.flush_at D hi hw]
  rfl
theorem write_nowS (D : AD) (i : Nat) (s : List Int) : (D.write i s).now i = s := by
  simp [AD.now, AD.write, updF]
theorem write_nowO (D : AD) {i j : Nat} (s : List Int) (h : j ≠ i) : (D.write i s).now j = D.now j := by
  simp [AD.now, AD.write, updF, h]
def D40 : AD := (zeroD 40).write 0 (slL ez)
theorem d40_la : D40.la.length = 40 := by simp [D40, AD.write, zeroD]
theorem d40_wr (i : Nat) : (D40.wr i).length ≤ 1 := by
  simp only [D40, AD.write, updF, zeroD]
  split <;> simp
theorem zeroD_now (n i : Nat) : (zeroD n).now i = zsec := by
  simp only [AD.now, zeroD]
  rw [List.getD_eq_getElem?_getD, List.getElem?_replicate]
  split <;> rfl
theorem zsec_noneS : decS zsec = none := decS_head (by
  unfold zsec
  rw [List.getElem?_replicate, if_pos (by decide)]
  decide)
theorem ez_counts : cntS 40 D40.flush.now = some ez := by
  have h0 : D40.flush.now 0 = slL ez := by
    rw [flush_nowS (by rw [d40_la]; decide) (by have := d40_wr 0; omega)]
    exact write_nowS _ _ _
  have h1 : D40.flush.now 1 = zsec := by
    rw [flush_nowS (by rw [d40_la]; decide) (by have := d40_wr 1; omega)]
    exact (write_nowO _ _ (by decide)).trans (zeroD_now 40 1)
  show newer (newer none (sndO 40 (D40.flush.now 0) 0)) (sndO 40 (D40.flush.now 1) 1) = some ez
  have q0 : sndO 40 (slL ez) 0 = some ez := sndO_yes (decS_sl ez_ok ez_may) rfl rfl
  rw [h0, h1, sndO_none zsec_noneS, q0]
  rfl
set_option maxRecDepth 100000 in
set_option maxHeartbeats 4000000 in
theorem started_calls18 {w : World} (ht : Tab w) : Calls Tryd.prog 13 #[] w fun e w' => e = .returned (.bool true) ∧ Below w.heap.size w w' := by
  have HNW := hide (sn_new (n := 40) (Below.refl w.heap.size w) (by decide) (by decide))
  have HEZ := hide easy_calls
  have HWN : Hid (∀ W p, Sn w W p (zeroD 40) → Calls Tryd.prog 16 #[.pointer (some ⟨p, 0, none⟩), .agg (slV ez).toArray] W fun e w' => ∃ pw, e = .returned (.tuple #[.pointer (some ⟨pw, 0, none⟩), .int .i64 0]) ∧ Rw w w' p (zeroD 40) pw ez 0 ∧ Below W.heap.size W w') := hide (fun W p hS => (newW_calls hS ez_ok).mono fun e w' ⟨h1, h2⟩ => by
    rcases h1 with ⟨hn, _⟩ | ⟨_, _, pw, rfl, hlo, hA⟩
    · exact absurd ⟨ez_may, by simp [zeroD, ez]⟩ hn
    · exact ⟨pw, rfl, ⟨hS.below h2, hA, Nat.le_trans hS.be.size hlo⟩, h2⟩)
  have HS1 : Hid (∀ W p pw, Rw w W p (zeroD 40) pw ez 0 → Calls Tryd.prog 17 #[.pointer (some ⟨pw, 0, none⟩)] W fun e w' => e = .returned (.tuple #[.bool false, .int .i64 0]) ∧ Rw w w' p D40 pw ez 1 ∧ Cj TWr W w') := hide (fun W p pw h => wstep_zero (i := 0) ez_ok ez_may ht h rfl (by simp [zeroD]) (by decide) (by decide) (by simp [zeroD]))
  have HS2 : Hid (∀ W p pw, Rw w W p D40 pw ez 1 → Calls Tryd.prog 17 #[.pointer (some ⟨pw, 0, none⟩)] W fun e w' => e = .returned (.tuple #[.bool true, .int .i64 0]) ∧ Rw w w' p D40.flush pw ez 2 ∧ Cj TWr W w') := hide (fun W p pw h => wstep_one ez_ok h (fun i => by have := d40_wr i; omega) (by decide) (by decide))
  have HRD : Hid (∀ W p, Sn w W p D40.flush → Calls Tryd.prog 10 #[.pointer (some ⟨p, 0, none⟩)] W fun e w' => e = .returned (.tuple #[.agg (slV ez).toArray, .int .i64 0]) ∧ Sn w w' p (D40.flush.sds 2) ∧ Cj TDk W w') := hide (fun W p h => by
    have := sread_calls h ht (by decide) (by decide)
    rw [show D40.flush.la.length = 40 from (AD.laAfter_len D40 _ _).trans d40_la, ez_counts] at this
    exact this)
  have hinf := infoSof ez_ok
  have hlen : z105.length = (slV ez).length := by rw [slV_len ez_ok]; rfl
  have hone := slV_one ez
  have heq : ∀ W, (binOp .eql 32 (.agg (slV ez).toArray) (.agg (slV ez).toArray)).run Tryd.prog W = .ok (.bool true) W := fun W => by rw [slot_eql ez_ok ez_ok, slEq_refl]
  have hgd := fun op x y xs ys W => slot_guard op x y xs ys W
  generalize slV ez = cs1 at *
  generalize D40 = DD at *
  generalize zeroD 40 = D0 at *
  clear ht
  go_enter Tryd.func13, Tryd.ntmps13
  go_wp2_with fail
  refine (unhide HNW).mono ?_
  rintro e w1 ⟨p, rfl, hS1, _⟩
  have HSN1 := hide hS1
  clear HNW hS1
  go_wp2_with fail
  refine (unhide HEZ _).mono ?_
  rintro e w2 ⟨rfl, hb2⟩
  have HSN2 := hide (HSN1.out.below hb2)
  have HX : Hid (∀ w3, (w2.alloc (.cells z105.toArray 32)).grownBy w3 (some w2.heap.size) → Sn w w3 p D0) := hide (fun w3 hg3 => by
    have hba := jalloc_below w2 (.cells z105.toArray 32)
    exact HSN2.out.below (jbelow_grown hba hg3 hba.size (Nat.le_refl _)))
  clear HEZ hb2 HSN1
  go_wp2_with (first
    | (refine wpList_allocJ rfl 32 rfl infoSlo ?_)
    | (refine wpList_storeJ rfl (.tmp 3) (.tmp 12) 32 rfl rfl rfl (Arr.new w2 z105 32) hinf hlen hone ?_; intro w3 hA3 hg3
       have HSN3 := hide (unhide HX w3 hg3)
       have hrg := hA3.rangeJ
       have HA3 := hide hA3
       clear hA3 hg3 HX)
    | (refine wpList_loadJ rfl 32 (.tmp 3) rfl _ 0 rfl cs1 _ hrg Tryd.underlying32 rfl hinf ?_)
    | fail)
  generalize w2.heap.size = g3 at *
  refine (unhide HWN _ _ HSN3.out).mono ?_
  rintro e w4 ⟨pw, rfl, hR4, hb4⟩
  have HA4 := hide (HA3.out.below hb4)
  have HR4 := hide hR4
  clear HWN HSN3 hrg HA3 hR4 hb4 HSN2
  go_wp2_with fail
  refine (unhide HS1 _ _ _ HR4.out).mono ?_
  rintro e w5 ⟨rfl, hR5, hC5⟩
  have HA5 := hide (HA4.out.cj hC5 twr_slot)
  have HR5 := hide hR5
  clear HS1 HR4 hR5 HA4 hC5
  go_wp2_with fail
  refine (unhide HS2 _ _ _ HR5.out).mono ?_
  rintro e w6 ⟨rfl, hR6, hC6⟩
  have HA6 := hide (HA5.out.cj hC6 twr_slot)
  have HR6 := hide hR6
  clear HS2 HR5 hR6 HA5 hC6
  go_wp2_with fail
  refine (unhide HRD _ _ HR6.out.sn).mono ?_
  rintro e w7 ⟨rfl, hS7, hC7⟩
  have hA7 := HA6.out.cj hC7 tdk_slot
  have HBW := hide hS7.be
  have HX : Hid (∀ w8, Arr w8 w7.heap.size 32 cs1 → (w7.alloc (.cells z105.toArray 32)).grownBy w8 (some w7.heap.size) → w8.rangeAt w7.heap.size 0 cs1 ∧ w8.rangeAt g3 0 cs1 ∧ Below w.heap.size w w8) := hide (fun w8 hA8 hg8 => by
    have hba := jalloc_below w7 (.cells z105.toArray 32)
    have hb8 := jbelow_grown hba hg8 hba.size (Nat.le_refl _)
    exact ⟨hA8.rangeJ, (hA7.below hb8).rangeJ, below_then HBW.out hb8⟩)
  clear HRD HR6 hS7 hC7 HA6 hA7
  go_wp2_with (first
    | (refine wpList_allocJ rfl 32 rfl infoSlo ?_)
    | (refine wpList_storeJ rfl (.tmp 6) (.tmp 36) 32 rfl rfl rfl (Arr.new w7 z105 32) hinf hlen hone ?_; intro w8 hA8 hg8
       obtain ⟨hr1, hr2, hb8⟩ := unhide HX w8 hA8 hg8
       have HB8 := hide hb8
       clear hA8 hg8 hb8 HX)
    | (refine wpList_loadOnS (by rfl) 32 (.tmp 6) rfl _ 0 rfl cs1 _ hr1 Tryd.underlying32 rfl hinf ?_)
    | (refine wpList_loadOnS (by rfl) 32 (.tmp 3) rfl _ 0 rfl cs1 _ hr2 Tryd.underlying32 rfl hinf ?_)
    | fail)
  go_ret
  exact ⟨rfl, HB8.out⟩
end Go.Proofs.YtpeopejnkbmcdaaDoor
