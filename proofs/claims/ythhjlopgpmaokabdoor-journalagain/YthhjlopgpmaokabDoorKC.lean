/- Parts of a slice of bytes, wherever it lies: what the expression yields, as one equation. Steps of regions that draw their order: calls, one cell read or written. What wire.Uint answers: the number's groups of seven bits, in new memory. What same, num, outside answer. What wire.Fixed answers. What wire.ReadFixed answers. What refsMayBe, addNumber and numberIn answer. What wire.Sum answers. -/
import Derived.Test.YthhjlopgpmaokabDoorKA
import Derived.Test.YthhjlopgpmaokabDoorKB
import Derived.Deep.RegionHeld3
import Derived.Test.YthhjlopgpmaokabDoorProg
import Derived.WalkKit
import Derived.WalkSpells
namespace Go.Proofs.YthhjlopgpmaokabDoor
open Go.RowKit

theorem elemSl : Tryd.prog.underlying 48 = some (.slice (Tryd.prog.elem 48)) := by kernel_rfl
theorem sizeSl (W : World) : (sizeOf (Tryd.prog.elem 48)).run Tryd.prog W = .ok 1 W := by kernel_rfl
/-- Where a part of a slice lies. -/
def subA (a : Option Addr) (cap q : Nat) : Option Addr := if cap = q then a else a.map (·.add q)
theorem IsB.sub {w : World} {a : Option Addr} {n cap : Nat} {xs : List Int} (h : IsB w (.slice a n cap) xs) {q t : Nat} (hq : q ≤ t) (ht : t ≤ n) : IsB w (.slice (subA a cap q) (t - q) (cap - q)) ((xs.drop q).take (t - q)) := by
  have hn := h.lenEq
  obtain ⟨hb, a', cp, hv, hl, hm, hz, hc⟩ := h
  injection hv with e1 e2 e3
  subst e1 e3
  have hlen : ((xs.drop q).take (t - q)).length = t - q := by simp; omega
  have hg : ∀ j, j < t - q → ((xs.drop q).take (t - q))[j]? = xs[q + j]? := fun j hj => by rw [List.getElem?_take_of_lt hj, List.getElem?_drop]
  refine ⟨fun j => ?_, subA a cap q, cap - q, by rw [hlen], by omega, by omega, fun h => ?_, fun hp => ?_⟩
  · by_cases hj : j < t - q
    · rw [hg j hj]; exact hb (q + j)
    · rw [List.getElem?_eq_none (by omega)]; simp
  · unfold subA at h
    by_cases e : cap = q
    · omega
    · rw [if_neg e] at h
      have : a = none := by simpa using h
      have := hz this
      omega
  · obtain ⟨b, off, ha, hcell⟩ := hc (by omega)
    refine ⟨b, off + q, ?_, fun j hj => ?_⟩
    · unfold subA
      rw [if_neg (by omega), ha, Option.map_some, Addr.add_lit]
    · rw [hlen] at hj
      rw [Nat.add_assoc, hcell (q + j) (by omega), List.getD_eq_getElem?_getD, List.getD_eq_getElem?_getD, hg j hj]
theorem sub_block {a : Option Addr} {cap q B : Nat} (h : ∀ ad, a = some ad → ad.block < B) : ∀ ad, subA a cap q = some ad → ad.block < B := by
  intro ad had
  unfold subA at had
  by_cases e : cap = q
  · rw [if_pos e] at had; exact h ad had
  · rw [if_neg e] at had
    cases a with
    | none => simp at had
    | some ad0 =>
      simp only [Option.map_some, Option.some.injEq] at had
      have e : (ad0.add q).block = ad0.block := by unfold Addr.add; split <;> rfl
      rw [← had, e]
      exact h ad0 rfl
theorem slice_lh (a : Option Addr) (n cap q t : Nat) (hq : q ≤ t) (ht : t ≤ cap) (W : World) : (Instr.sliceAt 48 (.slice a n cap) (some (.int .i64 (q : Int))) (some (.int .i64 (t : Int))) none).run Tryd.prog W = .ok (.slice (subA a cap q) (t - q) (cap - q)) W := by
  rw [run_sliceAt_slice W _ _ _ _ _ elemSl, run_slice_lh W _ a n cap elemSl .i64 .i64 q t (by omega) (by omega) (by omega), sizeSl]
  simp [Result.andThen, sliced, subA]
theorem slice_h (a : Option Addr) (n cap t : Nat) (ht : t ≤ cap) (W : World) : (Instr.sliceAt 48 (.slice a n cap) none (some (.int .i64 (t : Int))) none).run Tryd.prog W = .ok (.slice (subA a cap 0) t cap) W := by
  rw [run_sliceAt_slice W _ _ _ _ _ elemSl, run_slice_h W _ a n cap elemSl .i64 t (by omega) (by omega), sizeSl]
  simp [Result.andThen, sliced, subA]
theorem slice_l (a : Option Addr) (n cap q : Nat) (hq : q ≤ n) (W : World) : (Instr.sliceAt 48 (.slice a n cap) (some (.int .i64 (q : Int))) none none).run Tryd.prog W = .ok (.slice (subA a cap q) (n - q) (cap - q)) W := by
  rw [run_sliceAt_slice W _ _ _ _ _ elemSl, run_slice_l W _ a n cap elemSl .i64 q (by omega) (by omega), sizeSl]
  simp [Result.andThen, sliced, subA]
end Go.Proofs.YthhjlopgpmaokabDoor

namespace Go.Proofs.YthhjlopgpmaokabDoor
open Go.RowKit Go.Maps

section
variable {ops : Array Oper} {rest : List Oper} {o : Oper} {a : Act} {Q : Exit → Act → World → Prop} {w : World} {K : Act → World → Prop} {E : Prop}
theorem step_call1J (hw : Region.wanted o (yielded ops a.tmps) = true) (f : Nat) (hf : ∀ (v : Value) (W : World), (callFunc f #[v]).run Tryd.prog W = .ok (.enter f #[v]) W) (x : Operand) (ts : Array TypeId) (ho : o.op = .call { callee := .value (.func f), args := #[x], argTypes := ts }) {v : Value} (hx : a.eval x = v)
    {Post : Ending → World → Prop} (hc : Calls Tryd.prog f #[v] w Post) (hk : ∀ e w2, Post e w2 → ∃ r, e = .returned r ∧ K (a.put o.dst r) w2) :
    if Region.wanted o (yielded ops a.tmps) = true then Oper.wp Tryd.prog o a w K Q else E := by
  rw [if_pos hw]
  have hrun : (execOp a.eval o).run Tryd.prog w = .ok (.enter f #[v]) w := by
    have h1 := hf v w
    unfold execOp
    have hfv : a.eval (.func f) = .func (.func f) #[] #[] := rfl
    simp [ho, hx, hfv, resolve, invoke, Deferred.ofValue, h1]
  unfold Oper.wp
  rw [hrun]
  refine hc.mono ?_
  intro e w2 hp
  obtain ⟨r, rfl, hK⟩ := hk e w2 hp
  exact hK
theorem step_call2J (hw : Region.wanted o (yielded ops a.tmps) = true) (f : Nat) (hf : ∀ (v u : Value) (W : World), (callFunc f #[v, u]).run Tryd.prog W = .ok (.enter f #[v, u]) W) (x y : Operand) (ts : Array TypeId) (ho : o.op = .call { callee := .value (.func f), args := #[x, y], argTypes := ts }) {v u : Value} (hx : a.eval x = v) (hy : a.eval y = u)
    {Post : Ending → World → Prop} (hc : Calls Tryd.prog f #[v, u] w Post) (hk : ∀ e w2, Post e w2 → ∃ r, e = .returned r ∧ K (a.put o.dst r) w2) :
    if Region.wanted o (yielded ops a.tmps) = true then Oper.wp Tryd.prog o a w K Q else E := by
  rw [if_pos hw]
  have hrun : (execOp a.eval o).run Tryd.prog w = .ok (.enter f #[v, u]) w := by
    have h1 := hf v u w
    unfold execOp
    have hfv : a.eval (.func f) = .func (.func f) #[] #[] := rfl
    simp [ho, hx, hy, hfv, resolve, invoke, Deferred.ofValue, h1]
  unfold Oper.wp
  rw [hrun]
  refine hc.mono ?_
  intro e w2 hp
  obtain ⟨r, rfl, hK⟩ := hk e w2 hp
  exact hK
theorem step_call3J (hw : Region.wanted o (yielded ops a.tmps) = true) (f : Nat) (hf : ∀ (v u z : Value) (W : World), (callFunc f #[v, u, z]).run Tryd.prog W = .ok (.enter f #[v, u, z]) W) (x y t : Operand) (ts : Array TypeId) (ho : o.op = .call { callee := .value (.func f), args := #[x, y, t], argTypes := ts }) {v u z : Value} (hx : a.eval x = v) (hy : a.eval y = u) (ht : a.eval t = z)
    {Post : Ending → World → Prop} (hc : Calls Tryd.prog f #[v, u, z] w Post) (hk : ∀ e w2, Post e w2 → ∃ r, e = .returned r ∧ K (a.put o.dst r) w2) :
    if Region.wanted o (yielded ops a.tmps) = true then Oper.wp Tryd.prog o a w K Q else E := by
  rw [if_pos hw]
  have hrun : (execOp a.eval o).run Tryd.prog w = .ok (.enter f #[v, u, z]) w := by
    have h1 := hf v u z w
    unfold execOp
    have hfv : a.eval (.func f) = .func (.func f) #[] #[] := rfl
    simp [ho, hx, hy, ht, hfv, resolve, invoke, Deferred.ofValue, h1]
  unfold Oper.wp
  rw [hrun]
  refine hc.mono ?_
  intro e w2 hp
  obtain ⟨r, rfl, hK⟩ := hk e w2 hp
  exact hK
/-- One cell read, its run known. -/
theorem step_load1 (hw : Region.wanted o (yielded ops a.tmps) = true) (t : TypeId) (x : Operand) (ho : o.op = .load t x) {p v : Value} (hx : a.eval x = p) (hr : (Instr.loadAt t p).run Tryd.prog w = .ok v w) (hk : K (a.put o.dst v) w) : if Region.wanted o (yielded ops a.tmps) = true then Oper.wp Tryd.prog o a w K Q else E := by
  rw [if_pos hw]
  unfold Oper.wp execOp
  simp only [ho, hx, Sem.run_bind, hr, Result.andThen_ok, Sem.run_pure]
  exact hk
theorem step_store1 (hw : Region.wanted o (yielded ops a.tmps) = true) (t : TypeId) (x y : Operand) (ho : o.op = .store t x y) {p v : Value} {w' : World} (hx : a.eval x = p) (hy : a.eval y = v) (hr : (Instr.storeAt t p v).run Tryd.prog w = .ok () w') (hk : K (a.put o.dst undef) w') : if Region.wanted o (yielded ops a.tmps) = true then Oper.wp Tryd.prog o a w K Q else E := by
  rw [if_pos hw]
  unfold Oper.wp execOp
  simp only [ho, hx, hy, Sem.run_bind, hr, Result.andThen_ok, Sem.run_pure]
  exact hk
theorem step_bslice1 (hw : Region.wanted o (yielded ops a.tmps) = true) (t : TypeId) (x : Operand) (ho : o.op = .buildSlice t 1 #[(0, x)]) {v r : Value} {w' : World} (hx : a.eval x = v) (hr : (Instr.buildSlice t 1 #[(0, v)]).run Tryd.prog w = .ok r w') (hk : K (a.put o.dst r) w') : if Region.wanted o (yielded ops a.tmps) = true then Oper.wp Tryd.prog o a w K Q else E := by
  rw [if_pos hw]
  unfold Oper.wp execOp
  simp only [ho, List.map_toArray, List.map_cons, List.map_nil, hx, Sem.run_bind, hr, Result.andThen_ok, Sem.run_pure]
  exact hk
theorem yields_bld3J {S : World → Prop} (hw : Region.wanted o (yielded ops a.tmps) = true) (t : TypeId) (i j k : Nat) (x y z : Operand) (ho : o.op = .build t #[(i, x), (j, y), (k, z)]) {vx vy vz v : Value} (hx : a.eval x = vx) (hy : a.eval y = vy) (hz : a.eval z = vz) (hrun : ∀ W, (Instr.build t #[(i, vx), (j, vy), (k, vz)]).run Tryd.prog W = .ok v W) : YieldsIf Tryd.prog ops S o v a :=
  .inl ⟨hw, fun w _ => by
    unfold execOp
    simp only [ho, List.map_toArray, List.map_cons, List.map_nil, hx, hy, hz, Sem.run_bind, hrun w, Result.andThen_ok, Sem.run_pure]⟩
theorem yields_bld2J {S : World → Prop} (hw : Region.wanted o (yielded ops a.tmps) = true) (t : TypeId) (i j : Nat) (x y : Operand) (ho : o.op = .build t #[(i, x), (j, y)]) {vx vy v : Value} (hx : a.eval x = vx) (hy : a.eval y = vy) (hrun : ∀ W, (Instr.build t #[(i, vx), (j, vy)]).run Tryd.prog W = .ok v W) : YieldsIf Tryd.prog ops S o v a :=
  .inl ⟨hw, fun w _ => by
    unfold execOp
    simp only [ho, List.map_toArray, List.map_cons, List.map_nil, hx, hy, Sem.run_bind, hrun w, Result.andThen_ok, Sem.run_pure]⟩
theorem wpList_bslice1 (hgd : o.guard = none) (t : TypeId) (x : Operand) (ho : o.op = .buildSlice t 1 #[(0, x)]) {v r : Value} {w' : World} (hx : a.eval x = v) (hr : (Instr.buildSlice t 1 #[(0, v)]).run Tryd.prog w = .ok r w') (hk : wpList Tryd.prog ops Q rest (a.put o.dst r) w') : wpList Tryd.prog ops Q (o :: rest) a w := by
  refine wpList_plain hgd fun K hK => ?_
  unfold Oper.wp execOp
  simp only [ho, List.map_toArray, List.map_cons, List.map_nil, hx, Sem.run_bind, hr, Result.andThen_ok, Sem.run_pure]
  exact hK _ _ hk
end
theorem arr_atK (a : Option Addr) (c : Nat) (W : World) : (Instr.arrayAt 33 (.slice a 32 c)).run Tryd.prog W = .ok (.pointer a) W := by
  unfold Instr.arrayAt
  rw [Sem.run_bind, run_underlying Tryd.underlying33 W]
  rfl
theorem load24 {W : World} {ad : Addr} {v : Value} (h : W.cell? ad = some v) : (Instr.loadAt 34 (.pointer (some ad))).run Tryd.prog W = .ok v W := by
  have hu := Tryd.underlying34
  go_simp
theorem store24 {W : World} {b o : Nat} {u : Value} {aa : Option Addr} {n c : Nat} (h : W.cell? ⟨b, o, none⟩ = some u) (hf : W.frozen? ⟨b, o, none⟩ = false) : (Instr.storeAt 34 (.pointer (some ⟨b, o, none⟩)) (.slice aa n c)).run Tryd.prog W = .ok () (W.setCell ⟨b, o, none⟩ (.slice aa n c)) := by
  have hu := Tryd.underlying34
  go_simp
theorem buildRf_x (a0 a1 a2 a3 a4 a5 a6 a7 a8 a9 b0 b1 b2 b3 b4 b5 b6 b7 b8 b9 c0 c1 c2 c3 c4 c5 c6 c7 c8 c9 d0 d1 f l : Int) (W : World) :
    (Instr.build 73 #[(0, .agg ([a0, a1, a2, a3, a4, a5, a6, a7, a8, a9, b0, b1, b2, b3, b4, b5, b6, b7, b8, b9, c0, c1, c2, c3, c4, c5, c6, c7, c8, c9, d0, d1].map (Value.int .u8)).toArray), (1, .int .i64 f), (2, .int .i64 l)]).run Tryd.prog W = .ok (.agg (jfV ⟨[a0, a1, a2, a3, a4, a5, a6, a7, a8, a9, b0, b1, b2, b3, b4, b5, b6, b7, b8, b9, c0, c1, c2, c3, c4, c5, c6, c7, c8, c9, d0, d1], f, l⟩).toArray) W := by kernel_rfl
theorem buildRf {hs : List Int} (hh : hs.length = 32) (f l : Int) (W : World) : (Instr.build 73 #[(0, .agg (hs.map (Value.int .u8)).toArray), (1, .int .i64 f), (2, .int .i64 l)]).run Tryd.prog W = .ok (.agg (jfV ⟨hs, f, l⟩).toArray) W := by
  match hs, hh with
  | [a0, a1, a2, a3, a4, a5, a6, a7, a8, a9, b0, b1, b2, b3, b4, b5, b6, b7, b8, b9, c0, c1, c2, c3, c4, c5, c6, c7, c8, c9, d0, d1], _ => exact buildRf_x a0 a1 a2 a3 a4 a5 a6 a7 a8 a9 b0 b1 b2 b3 b4 b5 b6 b7 b8 b9 c0 c1 c2 c3 c4 c5 c6 c7 c8 c9 d0 d1 f l W
theorem buildRc_x (a0 a1 a2 a3 a4 a5 a6 a7 a8 a9 b0 b1 b2 b3 b4 b5 b6 b7 b8 b9 c0 c1 c2 c3 c4 c5 c6 c7 c8 c9 d0 d1 n : Int) (W : World) :
    (Instr.build 52 #[(0, .int .i64 n), (1, .agg ([a0, a1, a2, a3, a4, a5, a6, a7, a8, a9, b0, b1, b2, b3, b4, b5, b6, b7, b8, b9, c0, c1, c2, c3, c4, c5, c6, c7, c8, c9, d0, d1].map (Value.int .u8)).toArray)]).run Tryd.prog W = .ok (.agg (jrV ⟨n, [a0, a1, a2, a3, a4, a5, a6, a7, a8, a9, b0, b1, b2, b3, b4, b5, b6, b7, b8, b9, c0, c1, c2, c3, c4, c5, c6, c7, c8, c9, d0, d1], []⟩ (.slice none 0 0)).toArray) W := by kernel_rfl
theorem buildRc {hs : List Int} (hh : hs.length = 32) (n : Int) (W : World) : (Instr.build 52 #[(0, .int .i64 n), (1, .agg (hs.map (Value.int .u8)).toArray)]).run Tryd.prog W = .ok (.agg (jrV ⟨n, hs, []⟩ (.slice none 0 0)).toArray) W := by
  match hs, hh with
  | [a0, a1, a2, a3, a4, a5, a6, a7, a8, a9, b0, b1, b2, b3, b4, b5, b6, b7, b8, b9, c0, c1, c2, c3, c4, c5, c6, c7, c8, c9, d0, d1], _ => exact buildRc_x a0 a1 a2 a3 a4 a5 a6 a7 a8 a9 b0 b1 b2 b3 b4 b5 b6 b7 b8 b9 c0 c1 c2 c3 c4 c5 c6 c7 c8 c9 d0 d1 n W
/-- A slice literal of one reference. -/
theorem bslRf_x (a0 a1 a2 a3 a4 a5 a6 a7 a8 a9 b0 b1 b2 b3 b4 b5 b6 b7 b8 b9 c0 c1 c2 c3 c4 c5 c6 c7 c8 c9 d0 d1 f l : Int) (W : World) :
    (Instr.buildSlice 34 1 #[(0, .agg (jfV ⟨[a0, a1, a2, a3, a4, a5, a6, a7, a8, a9, b0, b1, b2, b3, b4, b5, b6, b7, b8, b9, c0, c1, c2, c3, c4, c5, c6, c7, c8, c9, d0, d1], f, l⟩).toArray)]).run Tryd.prog W = .ok (.slice (some ⟨W.heap.size, 0, none⟩) 1 1) (W.alloc (.cells (jfV ⟨[a0, a1, a2, a3, a4, a5, a6, a7, a8, a9, b0, b1, b2, b3, b4, b5, b6, b7, b8, b9, c0, c1, c2, c3, c4, c5, c6, c7, c8, c9, d0, d1], f, l⟩).toArray 73)) := by kernel_rfl
theorem bslRf {r : JF} (hh : r.h.length = 32) (W : World) : (Instr.buildSlice 34 1 #[(0, .agg (jfV r).toArray)]).run Tryd.prog W = .ok (.slice (some ⟨W.heap.size, 0, none⟩) 1 1) (W.alloc (.cells (jfV r).toArray 73)) := by
  match r, hh with
  | ⟨[a0, a1, a2, a3, a4, a5, a6, a7, a8, a9, b0, b1, b2, b3, b4, b5, b6, b7, b8, b9, c0, c1, c2, c3, c4, c5, c6, c7, c8, c9, d0, d1], f, l⟩, _ => exact bslRf_x a0 a1 a2 a3 a4 a5 a6 a7 a8 a9 b0 b1 b2 b3 b4 b5 b6 b7 b8 b9 c0 c1 c2 c3 c4 c5 c6 c7 c8 c9 d0 d1 f l W
theorem isJ_lit {w : World} {g : Nat} {r : JF} (h : r.Ok) (hA : Arr w g 73 (jfV r)) : IsJ w (.slice (some ⟨g, 0, none⟩) 1 1) [r] := by
  refine ⟨fun x hx => by rw [List.mem_singleton.1 hx]; exact h, some ⟨g, 0, none⟩, 1, rfl, Nat.le_refl _, by decide, (fun e => by cases e), fun _ => ⟨g, 0, rfl, fun j hj => ?_⟩⟩
  have hj0 : j = 0 := by simpa using hj
  subst hj0
  exact hA.rangeJ
theorem results_rowJ {fn : Func} {p : Tmp} {t : TypeId} {d : TypeDesc} {g : Nat} {tmps : Array Value} {w : World} {cs : List Value} (h : fn.results = #[.cell p t]) (ha : tmps.getD p undef = .pointer (some ⟨g, 0, none⟩)) (hA : Arr w g t cs) (hu : Tryd.prog.underlying t = some d) (hd : d.isRow = true) (hi : (Tryd.prog.info? t).map (·.size) = some cs.length) :
    (results fn tmps).run Tryd.prog w = .ok (.agg cs.toArray) w := by
  have h1 : (loadVar t ⟨g, 0, none⟩).run Tryd.prog w = .ok (.agg cs.toArray) w := run_loadVar_mid (P := Tryd.prog) w g 0 t cs d hA.rangeJ hu hd hi
  have ha' : tmps[p]?.getD undef = .pointer (some ⟨g, 0, none⟩) := by simpa using ha
  simp [results, h, asAddr, ha', h1]
theorem results_rowJ2 {fn : Func} {p q : Tmp} {t : TypeId} {d : TypeDesc} {g : Nat} {tmps : Array Value} {w : World} {cs : List Value} {u : Value} (h : fn.results = #[.cell p t, .tmp q]) (ha : tmps.getD p undef = .pointer (some ⟨g, 0, none⟩)) (hq : tmps.getD q undef = u) (hA : Arr w g t cs) (hu : Tryd.prog.underlying t = some d) (hd : d.isRow = true) (hi : (Tryd.prog.info? t).map (·.size) = some cs.length) :
    (results fn tmps).run Tryd.prog w = .ok (.tuple #[.agg cs.toArray, u]) w := by
  have h1 : (loadVar t ⟨g, 0, none⟩).run Tryd.prog w = .ok (.agg cs.toArray) w := run_loadVar_mid (P := Tryd.prog) w g 0 t cs d hA.rangeJ hu hd hi
  have ha' : tmps[p]?.getD undef = .pointer (some ⟨g, 0, none⟩) := by simpa using ha
  have hq' : tmps[q]?.getD undef = u := by simpa using hq
  simp [results, h, asAddr, ha', hq', h1]
end Go.Proofs.YthhjlopgpmaokabDoor

namespace Go.Proofs.YthhjlopgpmaokabDoor
open Go.RowKit

end Go.Proofs.YthhjlopgpmaokabDoor

namespace Go.Proofs.YthhjlopgpmaokabDoor
open Go.RowKit

theorem outside_calls (a : Option Addr) (n cap : Nat) (at_ : Int) (w : World) :
    Calls Tryd.prog 71 #[.slice a n cap, .int .i64 at_] w fun e w' => e = .returned (.bool (decide (at_ < 0 ∨ (n : Int) < at_))) ∧ w' = w := by
  by_cases h1 : at_ < 0
  · go_enter Tryd.func71, Tryd.ntmps71
    go_wp2
    go_ret
    exact ⟨by simp [h1], rfl⟩
  · by_cases h2 : (n : Int) < at_
    all_goals
      go_enter Tryd.func71, Tryd.ntmps71
      go_wp2
      go_ret
      exact ⟨by simp [h1, h2], rfl⟩
theorem outside_yes {a : Option Addr} {n cap : Nat} {at_ : Int} (w : World) (h : at_ < 0 ∨ (n : Int) < at_) :
    Calls Tryd.prog 71 #[.slice a n cap, .int .i64 at_] w fun e w' => e = .returned (.bool true) ∧ w' = w := by
  have := outside_calls a n cap at_ w
  rwa [decide_eq_true h] at this
theorem outside_no {a : Option Addr} {n cap : Nat} {at_ : Int} (w : World) (h : ¬ (at_ < 0 ∨ (n : Int) < at_)) :
    Calls Tryd.prog 71 #[.slice a n cap, .int .i64 at_] w fun e w' => e = .returned (.bool false) ∧ w' = w := by
  have := outside_calls a n cap at_ w
  rwa [decide_eq_false h] at this
end Go.Proofs.YthhjlopgpmaokabDoor

namespace Go.Proofs.YthhjlopgpmaokabDoor
open Go.RowKit

set_option maxRecDepth 100000 in
set_option maxHeartbeats 400000 in
theorem fixed_arg (V n : Int) (w : World) (h : n < 1 ∨ 8 < n) :
    Calls Tryd.prog 64 #[.int .u64 V, .int .i64 n] w fun e w' => e = .returned (.tuple #[.slice none 0 0, .int .i64 1]) ∧ w' = w := by
  by_cases h1 : n < 1
  · clear h
    go_enter Tryd.func64, Tryd.ntmps64
    go_wp2
    go_ret2
    exact ⟨rfl, rfl⟩
  · have h2 : 8 < n := by omega
    clear h
    go_enter Tryd.func64, Tryd.ntmps64
    go_wp2
    go_ret2
    exact ⟨rfl, rfl⟩

theorem made8 (n : Nat) : (madeCells (Value.int .u8 0).cells (n * 1)).toList = List.replicate n (.int .u8 0) := by
  have h : (Value.int .u8 0).cells = #[.int .u8 0] := rfl
  simp [madeCells, h, Nat.mod_one, List.map_const']

set_option maxRecDepth 100000 in
set_option maxHeartbeats 400000 in
theorem fixed_wide (V : Int) (n : Nat) (w : World) (_h0 : 0 ≤ V) (h1 : 1 ≤ n) (h2 : n ≤ 8) (hv : (V / 2 ^ (8 * n) != 0) = true) :
    Calls Tryd.prog 64 #[.int .u64 V, .int .i64 n] w fun e w' => e = .returned (.tuple #[.slice none 0 0, .int .i64 12]) ∧ w' = w := by
  go_enter Tryd.func64, Tryd.ntmps64
  go_wp2
  go_ret2
  exact ⟨rfl, rfl⟩

set_option maxRecDepth 100000 in
set_option maxHeartbeats 400000 in
theorem fixed_in (V : Int) (n : Nat) (w : World) (_h0 : 0 ≤ V) (h1 : 1 ≤ n) (h2 : n ≤ 8) (hv : (V / 2 ^ (8 * n) != 0) = false) :
    Calls Tryd.prog 64 #[.int .u64 V, .int .i64 n] w fun e w' => ∃ v, e = .returned (.tuple #[v, .int .i64 0]) ∧
      w'.ownsRow w.heap.size 5 1 v n ((fB V n).map (Value.int .u8)) ∧ Below w.heap.size w w' := by
  obtain ⟨i0, hi, hz0, hz1, hz2⟩ := info_parts info8
  go_enter Tryd.func64, Tryd.ntmps64
  go_wp2_with (at_make; refine wpList_make_full _ rfl _ _ 48 rfl w.heap.size 5 i0 (.int .u8 0) 1 Tryd.underlying48 hi hz0 hz1 .i64 .i64 _ _ n rfl rfl rfl rfl (by rw [hz2]; omega) (by unfold maxLen; omega) (Nat.le_refl _) ?_; intro w1 hown hgrow)
  have hown0 : w1.ownsRow w.heap.size 5 1 (.slice (some ⟨w.heap.size, 0, none⟩) n n) n ((fK V n 0).map (Value.int .u8)) := by
    rw [fK_zero, List.map_replicate]
    rw [made8] at hown
    exact hown
  have hbel := (Below.refl w.heap.size w).grown hgrow (Nat.le_refl _) (fun k hk => by cases hk)
  clear hown hgrow
  go_loopw [23] (fun i wr => ∃ k : Nat, k ≤ n ∧ i = .int .i64 k ∧ wr.ownsRow w.heap.size 5 1 (.slice (some ⟨w.heap.size, 0, none⟩) n n) n ((fK V n k).map (Value.int .u8)) ∧ Below w.heap.size w wr)
    (fun i _ => n - (intOf i).toNat)
  case atStart => exact ⟨0, Nat.zero_le _, rfl, hown0, hbel⟩
  case round =>
    clear hown0 hbel
    obtain ⟨k, hk, rfl, hown, hnx⟩ := hrel
    by_cases hlt : k < n
    · have hce := hown.cellAt k (by omega)
      have hfr := hown.frozenAt k
      have hst := hown.stored k (.int .u8 (V / 2 ^ (8 * k) % 256))
      have HST := hide hst
      have hce' : ∃ u, wr.cell? ⟨w.heap.size, k, none⟩ = some u := by rw [hce]; exact ⟨_, List.getElem?_eq_getElem (by simp [fK]; omega)⟩
      obtain ⟨u, hu⟩ := hce'
      clear hce hst
      go_wp2
      go_roundw
      case rel =>
        have h := unhide HST
        exact ⟨k + 1, by omega, by go_num, by rw [fK_step, List.map_set]; exact h.1, hnx.grown h.2 hnx.size (fun j hj => by injection hj with e; omega)⟩
      case measure => simp [intOf]; omega
    · go_wp2
      go_ret2
      obtain rfl : k = n := by omega
      exact ⟨_, rfl, by rw [← fK_all]; exact hown, hnx⟩

/-- Does the number need more than n bytes? -/
def fWide (V : Int) (n : Nat) : Bool := V / 2 ^ (8 * n) != 0
end Go.Proofs.YthhjlopgpmaokabDoor

namespace Go.Proofs.YthhjlopgpmaokabDoor
open Go.RowKit

set_option maxRecDepth 100000 in
set_option maxHeartbeats 400000 in
theorem rfixed_out (a : Option Addr) (len cap : Nat) (at_ n : Int) (w : World) (h : at_ < 0 ∨ (len : Int) < at_) :
    Calls Tryd.prog 68 #[.slice a len cap, .int .i64 at_, .int .i64 n] w fun e w' => e = .returned (.tuple #[.int .u64 0, .int .i64 0, .int .i64 1]) ∧ w' = w := by
  have H : Hid (at_ < 0 ∨ (len : Int) < at_) := h
  clear h
  go_enter Tryd.func68, Tryd.ntmps68
  go_wp2_with (go_at_call 71; refine (outside_yes _ H.out).mono ?_; rintro e w' ⟨rfl, rfl⟩)
  go_ret3
  exact ⟨rfl, rfl⟩

set_option maxRecDepth 100000 in
set_option maxHeartbeats 400000 in
theorem rfixed_arg (a : Option Addr) (len cap : Nat) (at_ n : Int) (w : World) (h : ¬ (at_ < 0 ∨ (len : Int) < at_)) (hn : n < 1 ∨ 8 < n) :
    Calls Tryd.prog 68 #[.slice a len cap, .int .i64 at_, .int .i64 n] w fun e w' => e = .returned (.tuple #[.int .u64 0, .int .i64 0, .int .i64 1]) ∧ w' = w := by
  have H : Hid (¬ (at_ < 0 ∨ (len : Int) < at_)) := h
  clear h
  by_cases h1 : n < 1
  · clear hn
    go_enter Tryd.func68, Tryd.ntmps68
    go_wp2_with (go_at_call 71; refine (outside_no _ H.out).mono ?_; rintro e w' ⟨rfl, rfl⟩)
    go_ret3
    exact ⟨rfl, rfl⟩
  · have h2 : 8 < n := by omega
    clear hn
    go_enter Tryd.func68, Tryd.ntmps68
    go_wp2_with (go_at_call 71; refine (outside_no _ H.out).mono ?_; rintro e w' ⟨rfl, rfl⟩)
    go_ret3
    exact ⟨rfl, rfl⟩

set_option maxRecDepth 100000 in
set_option maxHeartbeats 400000 in
theorem rfixed_short (a : Option Addr) (len cap at_ n : Nat) (w : World) (_hl : len ≤ 9223372036854775807) (h : at_ ≤ len) (h1 : 1 ≤ n) (h8 : n ≤ 8) (hs : len < at_ + n) :
    Calls Tryd.prog 68 #[.slice a len cap, .int .i64 at_, .int .i64 n] w fun e w' => e = .returned (.tuple #[.int .u64 0, .int .i64 0, .int .i64 10]) ∧ w' = w := by
  go_enter Tryd.func68, Tryd.ntmps68
  go_wp2_with (go_at_call 71; refine (outside_no _ (by omega)).mono ?_; rintro e w' ⟨rfl, rfl⟩)
  go_ret3
  exact ⟨rfl, rfl⟩

set_option maxRecDepth 100000 in
set_option maxHeartbeats 400000 in
theorem rfixed_in (b off len cap at_ n : Nat) (xs : List Int) (w : World) (hn : len = xs.length) (hn1 : len ≤ cap) (hc : cap ≤ 9223372036854775807) (h1 : 1 ≤ n) (h8 : n ≤ 8) (hs : at_ + n ≤ len)
    (hcell : ∀ j, j < len → w.cell? ⟨b, off + j, none⟩ = some (.int .u8 (xs.getD j 0))) (hb : ∀ j : Nat, 0 ≤ xs[j]?.getD 0 ∧ xs[j]?.getD 0 ≤ 255) :
    Calls Tryd.prog 68 #[.slice (some ⟨b, off, none⟩) len cap, .int .i64 at_, .int .i64 n] w fun e w' =>
      e = .returned (.tuple #[.int .u64 (leN ((xs.drop at_).take n)), .int .i64 (at_ + n), .int .i64 0]) ∧ w' = w := by
  have hca : ¬ cap = at_ := by omega
  have HN : Hid (len = xs.length) := hn
  clear hn
  go_enter Tryd.func68, Tryd.ntmps68
  go_wp2_with (go_at_call 71; refine (outside_no _ (by omega)).mono ?_; rintro e w' ⟨rfl, rfl⟩)
  go_loop [9, 36] (fun v i => ∃ (k : Nat) (X : Int), k ≤ n ∧ i = .int .i64 k ∧ v = .int .u64 X ∧ 0 ≤ X ∧ Hid (X < 2 ^ (8 * k)) ∧ Hid (leN ((xs.drop at_).take n) = X + 2 ^ (8 * k) * leN ((xs.drop (at_ + k)).take (n - k)))) (fun _ i => n - (intOf i).toNat)
  case atStart => exact ⟨0, 0, by omega, rfl, rfl, by omega, (by decide : (0 : Int) < 2 ^ (8 * 0)), by show _ = _; simp⟩
  case round =>
    obtain ⟨k, X, hk, rfl, rfl, hX, HX, HE⟩ := hrel
    by_cases hlt : k < n
    · obtain ⟨c, hcv⟩ : ∃ c, c = xs[at_ + k]?.getD 0 := ⟨_, rfl⟩
      have hce : w'.cell? ⟨b, off + at_ + k, none⟩ = some (.int .u8 c) := by
        have := hcell (at_ + k) (by omega)
        rw [← Nat.add_assoc] at this
        rw [this, hcv, List.getD_eq_getElem?_getD]
      have hbk := hb (at_ + k)
      rw [← hcv] at hbk
      obtain ⟨hc0, hc1⟩ := hbk
      have HR := hide (leN_at (by rw [← HN.out]; exact hs) hlt HE.out hcv)
      have hor := or_byte hX HX.out hc0 hc1 (show k ≤ 7 by omega)
      have HPS := hide (byte_step hX HX.out hc0 hc1)
      clear hcell hb hcv HE
      go_wp2
      go_round
      case rel => exact ⟨k + 1, X + c * 2 ^ (8 * k), by omega, by go_num, rfl, (unhide HPS).1, (unhide HPS).2, unhide HR⟩
      case measure => simp [intOf]; omega
    · obtain rfl : k = n := by omega
      have H : Hid (leN ((xs.drop at_).take k) = X) := by have := HE.out; simp [leN] at this; exact this
      clear HE
      go_wp2
      go_ret3
      rw [H.out]
      exact ⟨rfl, rfl⟩

/-- wire.ReadFixed, of every slice, place and width. -/
theorem rfixed_calls {w : World} {v : Value} {xs : List Int} (h : IsB w v xs) (at_ n : Int) :
    Calls Tryd.prog 68 #[v, .int .i64 at_, .int .i64 n] w fun e w' =>
      e = .returned (.tuple #[.int .u64 (rdF xs at_ n).1, .int .i64 (rdF xs at_ n).2.1, .int .i64 (rdF xs at_ n).2.2]) ∧ w' = w := by
  obtain ⟨hb, a, cap, rfl, hl, hm, _, hc⟩ := h
  by_cases ho : at_ < 0 ∨ (xs.length : Int) < at_
  · rw [rdF, if_pos ho]
    exact rfixed_out a _ cap at_ n w ho
  · rw [rdF, if_neg ho]
    by_cases hn : n < 1 ∨ 8 < n
    · rw [if_pos hn]
      exact rfixed_arg a _ cap at_ n w ho hn
    · rw [if_neg hn]
      obtain ⟨i, rfl⟩ := Int.eq_ofNat_of_zero_le (show 0 ≤ at_ by omega)
      obtain ⟨m, rfl⟩ := Int.eq_ofNat_of_zero_le (show 0 ≤ n by omega)
      by_cases hs : (xs.length : Int) - i < m
      · rw [if_pos hs]
        exact rfixed_short a _ cap i m w (by omega) (by omega) (by omega) (by omega) (by omega)
      · rw [if_neg hs]
        obtain ⟨b, off, rfl, hcell⟩ := hc (by omega)
        exact rfixed_in b off _ cap i m xs w rfl hl hm (by omega) (by omega) (by omega) hcell hb
end Go.Proofs.YthhjlopgpmaokabDoor

namespace Go.Proofs.YthhjlopgpmaokabDoor
open Go.RowKit Go.Maps

theorem mayRs_no {l : List JF} (h : l.length < 1 ∨ 8 < l.length) : mayRs l = false := by
  unfold mayRs
  rw [decide_eq_false (by omega)]
  rfl
theorem mayRs_all {l : List JF} (h1 : 1 ≤ l.length) (h2 : l.length ≤ 8) (h : (l.take l.length).all JF.may = true) : mayRs l = true := by
  unfold mayRs
  rw [decide_eq_true ⟨h1, h2⟩, ← List.take_length (l := l), h]
  rfl
theorem mayRs_bad {l : List JF} {k : Nat} (hk : k < l.length) (h : (l.getD k .nul).may = false) : mayRs l = false := by
  unfold mayRs
  rw [Bool.and_eq_false_iff]
  right
  rw [List.all_eq_false]
  refine ⟨l.getD k .nul, ?_, by rw [h]; decide⟩
  rw [List.getD_eq_getElem?_getD, List.getElem?_eq_getElem hk]
  exact List.getElem_mem hk
theorem may_take {l : List JF} {k : Nat} (hk : k < l.length) (h : (l.take k).all JF.may = true) (h1 : (l.getD k .nul).may = true) : (l.take (k + 1)).all JF.may = true := by
  rw [List.take_succ_eq_append_getElem hk, List.all_append, h]
  rw [List.getD_eq_getElem?_getD, List.getElem?_eq_getElem hk] at h1
  simpa using h1
theorem may_of {r : JF} {b : Bool} (h : decide (0 ≤ r.f ∧ r.f < 65536 ∧ 0 ≤ r.l ∧ r.l ≤ 262144) = b) : r.may = b := h
set_option maxRecDepth 100000 in
set_option maxHeartbeats 1000000 in
theorem refsMay_calls {w : World} {v : Value} {l : List JF} (h : IsJ w v l) : Calls Tryd.prog 40 #[v] w fun e w' => e = .returned (.bool (mayRs l)) ∧ Below w.heap.size w w' := by
  have hok := h.ok
  obtain ⟨_, va, c, rfl, hlc, hcm, hnil, hcell⟩ := id h
  obtain ⟨n, hn⟩ : ∃ n, n = l.length := ⟨_, rfl⟩
  rw [← hn] at hlc
  have HCELL : Hid (0 < n → ∃ b o, va = some ⟨b, o, none⟩ ∧ ∀ W, Below w.heap.size w W → ∀ j, j < n → W.rangeAt b (o + j * 34) (jfV (l.getD j .nul))) := hide (fun hp => by
    obtain ⟨b, o, ha, hr⟩ := hcell (by omega)
    exact ⟨b, o, ha, fun W hW j hj => jrange_kept (hr j (by omega)) hW⟩)
  rw [← hn]
  have HN := hide hn
  have HOK := hide hok
  clear h hn hok hcell hnil
  by_cases h0 : n = 0
  · subst h0
    have HR := hide (mayRs_no (l := l) (Or.inl (by rw [← HN.out]; decide)))
    go_enter Tryd.func40, Tryd.ntmps40
    go_wp2
    go_ret
    exact ⟨by rw [HR.out]; rfl, Below.refl _ _⟩
  · by_cases h8 : 8 < n
    · have HR := hide (mayRs_no (l := l) (Or.inr (by rw [← HN.out]; exact h8)))
      have hI : 8 < (n : Int) := by omega
      go_enter Tryd.func40, Tryd.ntmps40
      go_wp2
      go_ret
      exact ⟨by rw [HR.out]; rfl, Below.refl _ _⟩
    · obtain ⟨b, o, rfl, HC⟩ : ∃ b o, va = some ⟨b, o, none⟩ ∧ Hid (∀ W, Below w.heap.size w W → ∀ j, j < n → W.rangeAt b (o + j * 34) (jfV (l.getD j .nul))) := unhide HCELL (by omega)
      have hI : decide (8 < (n : Int)) = false := by simp; omega
      have hz : ((n : Int) == 0) = false := by simp; omega
      have HBASE := hide (Below.refl w.heap.size w)
      clear HCELL
      go_enter Tryd.func40, Tryd.ntmps40
      go_wp2_with fail
      go_loopw [15] (fun i W => ∃ k : Nat, k ≤ n ∧ i = .int .i64 k ∧ Hid ((l.take k).all JF.may = true) ∧ Hid (Below w.heap.size w W)) (fun i _ => n - (intOf i).toNat)
      case atStart => exact ⟨0, Nat.zero_le _, rfl, by simp [Hid], HBASE⟩
      case round =>
        clear HBASE
        obtain ⟨k, hk, rfl, HT, HB⟩ := hrel
        by_cases hlt : k < n
        · have hr := unhide HC wr HB.out k hlt
          have hkl : k < l.length := by rw [← HN.out]; exact hlt
          have hrok : (l.getD k .nul).Ok := jf_get (P := JF.Ok) HOK.out hkl
          have HMY := hide (fun h1 => may_take hkl HT.out h1)
          have HMN := hide (fun h1 => mayRs_bad hkl h1)
          generalize l.getD k .nul = r at *
          have hinf := infoJof hrok
          have hlen : z34J.length = (jfV r).length := by rw [jfV_len hrok]; decide
          have hone := jfV_one r
          obtain ⟨c32, c33⟩ := jfV_f hrok.len
          have HA : Hid (∀ W g, Arr W g 73 (jfV r) → W.cell? ⟨g, 32, none⟩ = some (.int .i64 r.f) ∧ W.cell? ⟨g, 33, none⟩ = some (.int .i64 r.l)) := hide (fun W g hA => ⟨(hA.cell 32).trans c32, (hA.cell 33).trans c33⟩)
          have HBX : Hid (∀ W2, (wr.alloc (.cells z34J.toArray 73)).grownBy W2 (some wr.heap.size) → Below w.heap.size w W2) := hide (fun W2 hg => by
            have h1 : Below w.heap.size w (wr.alloc (.cells z34J.toArray 73)) := HB.out.trans ((jalloc_below wr _).mono HB.out.size)
            exact jbelow_grown h1 hg h1.size HB.out.size)
          clear c32 c33
          have HMAY : Hid (∀ b, decide (0 ≤ r.f ∧ r.f < 65536 ∧ 0 ≤ r.l ∧ r.l ≤ 262144) = b → r.may = b) := hide (fun b h => h)
          clear hrok
          generalize r.f = f at *
          generalize r.l = le at *
          generalize jfV r = rc at *
          have go1 : ∀ (P : Prop), P ∨ ¬ P := fun P => Classical.em P
          rcases go1 (0 ≤ f) with hf0 | hf0
          · rcases go1 (f < 65536) with hf1 | hf1
            · rcases go1 (0 ≤ le) with hl0 | hl0
              · rcases go1 (le ≤ 262144) with hl1 | hl1
                · have HN1 := hide (unhide HMY (unhide HMAY true (by simp [hf0, hf1, hl0, hl1])))
                  have d0 : decide (f < 0) = false := by simp; omega
                  have d1 : decide (65536 ≤ f) = false := by simp; omega
                  have d2 : decide (le < 0) = false := by simp; omega
                  have d3 : decide (262144 < le) = false := by simp; omega
                  clear hf0 hf1 hl0 hl1 HMN HMAY HMY go1
                  go_wp2_with (first
                    | (refine wpList_loadJ rfl 73 (.tmp 17) rfl b (o + k * 34) rfl rc _ hr Tryd.underlying73 rfl hinf ?_)
                    | (refine wpList_allocJ rfl 73 rfl infoJ ?_)
                    | (refine wpList_storeJ rfl (.tmp 4) (.tmp 18) 73 rfl rfl rfl (Arr.new wr z34J 73) hinf hlen hone ?_; intro w2 hA2 hg2; obtain ⟨cc1, cc2⟩ := unhide HA _ _ hA2; have HB2 := hide (unhide HBX w2 hg2); clear hA2 hg2))
                  go_roundw
                  case rel => exact ⟨k + 1, by omega, by go_num, HN1, HB2⟩
                  case measure => simp [intOf]; omega
                · have HN1 := hide (unhide HMN (unhide HMAY false (by simp [hl1])))
                  have d0 : decide (f < 0) = false := by simp; omega
                  have d1 : decide (65536 ≤ f) = false := by simp; omega
                  have d2 : decide (le < 0) = false := by simp; omega
                  have d3 : decide (262144 < le) = true := by simp; omega
                  clear hf0 hf1 hl0 hl1 HMN HMAY HMY go1
                  go_wp2_with (first
                    | (refine wpList_loadJ rfl 73 (.tmp 17) rfl b (o + k * 34) rfl rc _ hr Tryd.underlying73 rfl hinf ?_)
                    | (refine wpList_allocJ rfl 73 rfl infoJ ?_)
                    | (refine wpList_storeJ rfl (.tmp 4) (.tmp 18) 73 rfl rfl rfl (Arr.new wr z34J 73) hinf hlen hone ?_; intro w2 hA2 hg2; obtain ⟨cc1, cc2⟩ := unhide HA _ _ hA2; have HB2 := hide (unhide HBX w2 hg2); clear hA2 hg2))
                  go_ret
                  exact ⟨by rw [HN1.out]; rfl, HB2.out⟩
              · have HN1 := hide (unhide HMN (unhide HMAY false (by simp [hl0])))
                have d0 : decide (f < 0) = false := by simp; omega
                have d1 : decide (65536 ≤ f) = false := by simp; omega
                have d2 : decide (le < 0) = true := by simp; omega
                clear hf0 hf1 hl0 HMN HMAY HMY go1
                go_wp2_with (first
                  | (refine wpList_loadJ rfl 73 (.tmp 17) rfl b (o + k * 34) rfl rc _ hr Tryd.underlying73 rfl hinf ?_)
                  | (refine wpList_allocJ rfl 73 rfl infoJ ?_)
                  | (refine wpList_storeJ rfl (.tmp 4) (.tmp 18) 73 rfl rfl rfl (Arr.new wr z34J 73) hinf hlen hone ?_; intro w2 hA2 hg2; obtain ⟨cc1, cc2⟩ := unhide HA _ _ hA2; have HB2 := hide (unhide HBX w2 hg2); clear hA2 hg2))
                go_ret
                exact ⟨by rw [HN1.out]; rfl, HB2.out⟩
            · have HN1 := hide (unhide HMN (unhide HMAY false (by simp [hf1])))
              have d0 : decide (f < 0) = false := by simp; omega
              have d1 : decide (65536 ≤ f) = true := by simp; omega
              clear hf0 hf1 HMN HMAY HMY go1
              go_wp2_with (first
                | (refine wpList_loadJ rfl 73 (.tmp 17) rfl b (o + k * 34) rfl rc _ hr Tryd.underlying73 rfl hinf ?_)
                | (refine wpList_allocJ rfl 73 rfl infoJ ?_)
                | (refine wpList_storeJ rfl (.tmp 4) (.tmp 18) 73 rfl rfl rfl (Arr.new wr z34J 73) hinf hlen hone ?_; intro w2 hA2 hg2; obtain ⟨cc1, cc2⟩ := unhide HA _ _ hA2; have HB2 := hide (unhide HBX w2 hg2); clear hA2 hg2))
              go_ret
              exact ⟨by rw [HN1.out]; rfl, HB2.out⟩
          · have HN1 := hide (unhide HMN (unhide HMAY false (by simp [hf0])))
            have d0 : decide (f < 0) = true := by simp; omega
            clear hf0 HMN HMAY HMY go1
            go_wp2_with (first
              | (refine wpList_loadJ rfl 73 (.tmp 17) rfl b (o + k * 34) rfl rc _ hr Tryd.underlying73 rfl hinf ?_)
              | (refine wpList_allocJ rfl 73 rfl infoJ ?_)
              | (refine wpList_storeJ rfl (.tmp 4) (.tmp 18) 73 rfl rfl rfl (Arr.new wr z34J 73) hinf hlen hone ?_; intro w2 hA2 hg2; obtain ⟨cc1, cc2⟩ := unhide HA _ _ hA2; have HB2 := hide (unhide HBX w2 hg2); clear hA2 hg2))
            go_ret
            exact ⟨by rw [HN1.out]; rfl, HB2.out⟩
        · have HR : Hid (mayRs l = true) := by
            obtain rfl : k = n := by omega
            have := HT.out
            rw [HN.out] at this
            exact mayRs_all (by rw [← HN.out]; omega) (by rw [← HN.out]; omega) this
          go_wp2
          go_ret
          exact ⟨by rw [HR.out]; rfl, HB.out⟩
set_option maxRecDepth 100000 in
set_option maxHeartbeats 1000000 in
theorem addNum_calls {w : World} {B n : Nat} {v : Value} {xs : List Int} {V : Int} (h : Own8 w B v xs) (hB : B ≤ w.heap.size) (h0 : 0 ≤ V) (h1 : 1 ≤ n) (h8 : n ≤ 8) (hv : (V / 2 ^ (8 * n) != 0) = false) (hl : xs.length ≤ 100000) :
    Calls Tryd.prog 53 #[v, .int .u64 V, .int .i64 (n : Int)] w fun e w' => ∃ v', e = .returned v' ∧ Own8 w' B v' (xs ++ fB V n) ∧ w.grownBy w' v.ownBlock := by
  have HF := hide (fixed_in V n w h0 h1 h8 hv)
  obtain ⟨va, vn, vc, rfl⟩ := h.shape
  have HO := hide h
  clear h hv
  go_enter Tryd.func53, Tryd.ntmps53
  go_wp2_with fail
  refine (unhide HF).mono ?_
  rintro e w1 ⟨u, rfl, hr, hb⟩
  have ho1 : Own8 w1 w.heap.size u (fB V n) := ⟨by rw [fB_len]; exact hr, fun x hx => fB_bytes V n x hx⟩
  have hi1 := ho1.isB
  obtain ⟨ua, un, uc, rfl⟩ := ho1.shape
  have ho2 := HO.out.below hb
  have hs1 : B ≤ w1.heap.size := Nat.le_trans hB hb.size
  have HI := hide hi1
  have HO2 := hide ho2
  have HB1 : Hid (∀ w3 row, w1.grownBy w3 row → w.grownBy w3 row) := hide (fun w3 row hg => ⟨hg.os.trans hb.os, hg.tape.trans hb.tape, hg.output.trans hb.output, Nat.le_trans hb.size hg.size, fun k hk hne => (hg.block k (Nat.lt_of_lt_of_le hk hb.size) hne).trans (hb.block k hk)⟩)
  have hll : xs.length + (fB V n).length ≤ 140737488355328 := by rw [fB_len]; omega
  clear HF hr hb ho1 hi1 ho2 HO
  go_wp2_with (first
    | (at_builtin; refine wpList_appB rfl (.tmp 15) (.tmp 16) rfl rfl HO2.out rfl HI.out hll hs1 ?_; intro v3 w3 ho3 hg3
       have HO3 := hide ho3
       have HBB := hide (unhide HB1 _ _ hg3)
       clear ho3 hg3))
  go_ret
  exact ⟨_, rfl, HO3.out, HBB.out⟩
set_option maxRecDepth 100000 in
set_option maxHeartbeats 1000000 in
theorem numberIn_calls {w : World} {v : Value} {b : List Int} (h : IsB w v b) {k n : Nat} (h1 : 1 ≤ n) (h8 : n ≤ 8) (hs : k + n ≤ b.length) :
    Calls Tryd.prog 62 #[v, .int .i64 (k : Int), .int .i64 (n : Int)] w fun e w' => e = .returned (.int .i64 (IntKind.i64.wrap (leN ((b.drop k).take n)))) ∧ w' = w := by
  have HF := hide (rfixed_calls h (k : Int) (n : Int))
  have e1 : rdF b (k : Int) (n : Int) = (leN ((b.drop k).take n), (k : Int) + n, 0) := by
    unfold rdF
    rw [if_neg (by omega), if_neg (by omega), if_neg (by omega), Int.toNat_natCast, Int.toNat_natCast]
  rw [e1] at HF
  generalize leN ((b.drop k).take n) = L at *
  obtain ⟨va, vn, vc, rfl⟩ := h.shape
  clear h e1
  go_enter Tryd.func62, Tryd.ntmps62
  go_wp2_with fail
  refine (unhide HF).mono ?_
  rintro e w1 ⟨rfl, rfl⟩
  clear HF
  go_wp2
  go_ret
  exact ⟨by rw [IntWalk.i64_left]; rfl, rfl⟩
end Go.Proofs.YthhjlopgpmaokabDoor

namespace Go.Proofs.YthhjlopgpmaokabDoor
open Go.RowKit

/-- The table lies in memory as it was laid. -/
def Tab (w : World) : Prop := ∀ i, i < 16 → w.cell? ⟨0, i, none⟩ = some (.int .u32 ((tab4.getD i 0 : Nat) : Int))

theorem Tab.below {w w' : World} (h : Tab w) (hb : Below w.heap.size w w') : Tab w' := fun i hi =>
  (hb.cell (p := ⟨0, i, none⟩) (World.block_lt_of_cell? w _ (h i hi))).trans (h i hi)

set_option maxHeartbeats 1000000 in
theorem sum_in (b off n cap : Nat) (xss : List (List Int)) (w : World) (hn : n = xss.length) (hn1 : n ≤ cap) (hc : cap ≤ 9223372036854775807) (ht : Tab w)
    (hcell : ∀ j, j < n → ∃ u, w.cell? ⟨b, off + j, none⟩ = some u ∧ IsB w u (xss.getD j [])) :
    Calls Tryd.prog 54 #[.slice (some ⟨b, off, none⟩) n cap] w fun e w' => e = .returned (.int .u32 (sumOf xss)) ∧ w' = w := by
  have HN : Hid (n = xss.length) := hn
  have HT := hide ht
  have HC := hide hcell
  clear hn ht hcell
  go_enter Tryd.func54, Tryd.ntmps54
  go_wp2
  go_loop [3, 10] (fun r i => ∃ (k R : Nat), k ≤ n ∧ i = .int .i64 k ∧ r = .int .u32 R ∧ Hid (R < 2 ^ 32) ∧ Hid (R = crcAll 4294967295 (xss.take k))) (fun _ i => n - (intOf i).toNat)
  case atStart => exact ⟨0, 4294967295, by omega, rfl, rfl, (by decide : (4294967295 : Nat) < 2 ^ 32), rfl⟩
  case round =>
    obtain ⟨k, R, hk, rfl, rfl, HR, HE⟩ := hrel
    by_cases hlt : k < n
    · obtain ⟨u, hu, hb⟩ := unhide HC k hlt
      obtain ⟨hby, a, cp, rfl, hl, hm, _, hcl⟩ := hb
      generalize hxs : xss.getD k [] = xs at *
      have HXS := hide hxs
      have HCL := hide hcl
      have HBY := hide hby
      obtain ⟨m, hm'⟩ : ∃ m, m = xs.length := ⟨_, rfl⟩
      rw [← hm'] at hu hl
      have HM := hide hm'
      clear hxs hcl hby hm'
      by_cases hm0 : 0 < m
      · obtain ⟨b2, off2, rfl, hcl⟩ := unhide HCL (by rw [← HM.out]; exact hm0)
        have HCL2 := hide hcl
        clear hcl HCL
        go_wp2
        go_loop [3, 16] (fun r i => ∃ (j S : Nat), j ≤ m ∧ i = .int .i64 j ∧ r = .int .u32 S ∧ Hid (S < 2 ^ 32) ∧ Hid (S = crcN R (xs.take j))) (fun _ i => m - (intOf i).toNat)
        case atStart => exact ⟨0, R, by omega, rfl, rfl, HR, rfl⟩
        case round =>
          obtain ⟨j, S, hj, rfl, rfl, HS, HES⟩ := hrel
          by_cases hjt : j < m
          · have hbj := unhide HBY j
            obtain ⟨c, hcv⟩ : ∃ c : Nat, (c : Int) = xs[j]?.getD 0 := ⟨(xs[j]?.getD 0).toNat, by omega⟩
            have hce : w.cell? ⟨b2, off2 + j, none⟩ = some (.int .u8 (c : Int)) := by
              rw [unhide HCL2 j (by rw [← HM.out]; exact hjt), hcv, List.getD_eq_getElem?_getD]
            have hc1 : c ≤ 255 := by omega
            have H1 := hide (Nat.xor_lt_two_pow HS.out (show c < 2 ^ 32 by omega))
            have hx1 := xor_reg HS.out (show c < 2 ^ 32 by omega)
            obtain ⟨r1, hr1⟩ : ∃ r1, r1 = S ^^^ c := ⟨_, rfl⟩
            rw [← hr1] at hx1 H1
            have ht1 : w.cell? ⟨0, r1 % 16, none⟩ = some (.int .u32 ((tab4.getD (r1 % 16) 0 : Nat) : Int)) := unhide HT _ (Nat.mod_lt _ (by decide))
            have hk1 := mask15 H1.out
            have hq1 := xor_quarter H1.out (tab4_lt (r1 % 16) (Nat.mod_lt _ (by decide)))
            obtain ⟨t1, ht1e⟩ : ∃ t1, t1 = tab4.getD (r1 % 16) 0 := ⟨_, rfl⟩
            rw [← ht1e] at ht1 hq1
            have H2 : Hid (s4 r1 < 2 ^ 32) := s4_lt H1.out
            obtain ⟨r2, hr2⟩ : ∃ r2, r2 = r1 / 16 ^^^ t1 := ⟨_, rfl⟩
            rw [← hr2] at hq1
            have E2 : Hid (s4 r1 = r2) := by show _ = _; rw [hr2, ht1e]; rfl
            rw [E2.out] at H2
            have ht2 : w.cell? ⟨0, r2 % 16, none⟩ = some (.int .u32 ((tab4.getD (r2 % 16) 0 : Nat) : Int)) := unhide HT _ (Nat.mod_lt _ (by decide))
            have hk2 := mask15 H2.out
            have hq2 := xor_quarter H2.out (tab4_lt (r2 % 16) (Nat.mod_lt _ (by decide)))
            obtain ⟨t2, ht2e⟩ : ∃ t2, t2 = tab4.getD (r2 % 16) 0 := ⟨_, rfl⟩
            rw [← ht2e] at ht2 hq2
            have H3 : Hid (s4 r2 < 2 ^ 32) := s4_lt H2.out
            have E3 : Hid (s4 r2 = r2 / 16 ^^^ t2) := by show _ = _; rw [ht2e]; rfl
            have HF : Hid (s4 r2 = crcN R (xs.take (j + 1))) := by
              show _ = _
              rw [take_snoc' (by rw [← HM.out]; exact hjt), crcN_snoc, ← HES.out, sB, ← E2.out, hr1, ← hcv, Int.toNat_natCast]
            rw [← E3.out] at hq2
            clear hbj hcv hr1 ht1e hr2 ht2e
            go_wp2
            go_round
            case rel => exact ⟨j + 1, s4 r2, by omega, by go_num, rfl, H3, HF⟩
            case measure => simp [intOf]; omega
          · go_wp2
            go_round
            case rel =>
              obtain rfl : j = m := by omega
              exact ⟨k + 1, S, by omega, by go_num, rfl, HS, by show _ = _; rw [take_all (by rw [← HN.out]; exact hlt), crcAll_snoc, ← HE.out, HXS.out, HES.out, List.take_of_length_le (by rw [← HM.out]; exact Nat.le_refl _)]⟩
            case measure => simp [intOf]; omega
      · obtain rfl : m = 0 := by omega
        clear HCL
        go_wp2
        refine wp_loop_rounds 1 ?_
        rw [rounds_succ]
        go_wp2
        go_round
        case rel =>
          have h0 : xs = [] := List.eq_nil_of_length_eq_zero HM.out.symm
          exact ⟨k + 1, R, by omega, by go_num, rfl, HR, by show _ = _; rw [take_all (by rw [← HN.out]; exact hlt), crcAll_snoc, ← HE.out, HXS.out, h0]; rfl⟩
        case measure => simp [intOf]; omega
    · obtain rfl : k = n := by omega
      have hmx := xor_max HR.out
      have HF : Hid (sumOf xss = ((4294967295 ^^^ R : Nat) : Int)) := by
        show _ = _
        rw [sumOf, HE.out, List.take_of_length_le (by rw [← HN.out]; exact Nat.le_refl _)]
      go_wp2
      go_ret
      rw [HF.out]
      exact ⟨rfl, rfl⟩

set_option maxHeartbeats 400000 in
theorem sum_none (a : Option Addr) (cap : Nat) (w : World) :
    Calls Tryd.prog 54 #[.slice a 0 cap] w fun e w' => e = .returned (.int .u32 (sumOf [])) ∧ w' = w := by
  have hmx := xor_max (r := 4294967295) (by decide)
  have hmx' : bits .xor .u32 IntKind.u32.max 4294967295 = 0 := by decide
  go_enter Tryd.func54, Tryd.ntmps54
  go_wp2
  refine wp_loop_rounds 1 ?_
  rw [rounds_succ]
  go_wp2
  go_ret
  exact ⟨by first | rfl | decide, rfl⟩

/-- wire.Sum, of all parts. -/
theorem sum_calls {w : World} {v : Value} {xss : List (List Int)} (h : IsBB w v xss) (ht : Tab w) :
    Calls Tryd.prog 54 #[v] w fun e w' => e = .returned (.int .u32 (sumOf xss)) ∧ w' = w := by
  obtain ⟨a, cap, rfl, hl, hm, hc⟩ := h
  by_cases h0 : 0 < xss.length
  · obtain ⟨b, off, rfl, hcell⟩ := hc h0
    exact sum_in b off _ cap xss w rfl hl hm ht hcell
  · obtain rfl : xss = [] := List.eq_nil_of_length_eq_zero (by omega)
    exact sum_none a cap w
end Go.Proofs.YthhjlopgpmaokabDoor
