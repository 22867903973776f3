/- The same, line by line: as the document says it. Nothing of a program. What is printed is read; what is read can be printed. Nothing of a program. Tokens in memory. Structs made, read and written; calls in regions that draw their order. -/
import Derived.Test.YtfhfobikbfbajaaGreatDoorTAA
import Derived.Test.YtfhfobikbfbajaaGreatDoorTAC
import Derived.Deep.MidRow
import Derived.Laws.CopyOwn
import Derived.Laws.AppendOwnNone
import Derived.Maps.AppendAt
import Derived.Deep.RegionHeld3
namespace Go.Proofs.YtfhfobikbfbajaaGreatDoor

/-- With these tokens ahead. -/
def pre (o : List Tok) (s : St) : St := ⟨o ++ s.out, s.n, s.p, s.b, s.md⟩
end Go.Proofs.YtfhfobikbfbajaaGreatDoor

namespace Go.Proofs.YtfhfobikbfbajaaGreatDoor

end Go.Proofs.YtfhfobikbfbajaaGreatDoor

namespace Go.Proofs.YtfhfobikbfbajaaGreatDoor
open Go.RowKit Go.Maps

section
variable {ops : Array Oper} {rest : List Oper} {o : Oper} {a : Act} {Q : Exit → Act → World → Prop} {w : World} {K : Act → World → Prop} {E : Prop}
/-- One operation whose run is known. -/
theorem step_run (hw : Region.wanted o (yielded ops a.tmps) = true) {v : Value} {w' : World} (hrun : (execOp a.eval o).run Tryz.prog w = .ok (.value v) w') (hk : K (a.put o.dst v) w') : if Region.wanted o (yielded ops a.tmps) = true then Oper.wp Tryz.prog o a w K Q else E := by
  rw [if_pos hw]
  unfold Oper.wp
  rw [hrun]
  exact hk
end
theorem below_app {B : Nat} {a w w' : World} {v : Value} (h : Below B a w) (hg : w.grownBy w' v.ownBlock) (hB : B ≤ w.heap.size) (hv : v.ownBlock = none ∨ ∃ b, v.ownBlock = some b ∧ B ≤ b) : Below B a w' :=
  h.grown hg hB (fun j hj => by
    rcases hv with hv | ⟨b, hv, hb⟩
    · rw [hv] at hj; cases hj
    · rw [hv] at hj; injection hj with hj; omega)
end Go.Proofs.YtfhfobikbfbajaaGreatDoor

namespace Go.Proofs.YtfhfobikbfbajaaGreatDoor
open Go.RowKit Go.Maps

section
variable {ops : Array Oper} {rest : List Oper} {o : Oper} {a : Act} {Q : Exit → Act → World → Prop} {w : World} {K : Act → World → Prop} {E : Prop}
/-- A struct or an array read behind a guard that holds. -/
theorem wpList_loadJ (hw : Region.wanted o (yielded ops a.tmps) = true) (ty : TypeId) (x : Operand) (ho : o.op = .load ty x) (b f : Nat) (hx : a.eval x = .pointer (some ⟨b, f, none⟩)) (cs : List Value) (d : TypeDesc) (hc : w.rangeAt b f cs)
    (hu : Tryz.prog.underlying ty = some d) (hd : d.isRow = true) (hi : (Tryz.prog.info? ty).map (·.size) = some cs.length) (h : wpList Tryz.prog ops Q rest (a.put o.dst (.agg cs.toArray)) w) : wpList Tryz.prog ops Q (o :: rest) a w :=
  wpList_on hw fun _ hK => wp_load_mid ty x ho b f hx cs d hc hu hd hi (hK _ _ h)
end
/-- Cells written one behind the other. -/
def jputs : List Value → Nat → List Value → List Value
  | xs, _, [] => xs
  | xs, k, c :: cs => jputs (xs.set k c) (k + 1) cs
theorem jputs_len : ∀ (cs xs : List Value) (k : Nat), (jputs xs k cs).length = xs.length
  | [], _, _ => rfl
  | c :: cs, xs, k => by rw [jputs, jputs_len cs, List.length_set]
theorem jputs_app : ∀ (cs a x b : List Value) (j : Nat), j + cs.length ≤ x.length → jputs (a ++ (x ++ b)) (a.length + j) cs = a ++ (jputs x j cs ++ b)
  | [], a, x, b, j, _ => rfl
  | c :: cs, a, x, b, j, h => by
    rw [List.length_cons] at h
    rw [jputs, jputs, List.set_append_right _ _ (by omega), Nat.add_sub_cancel_left, List.set_append_left _ _ (by omega), Nat.add_assoc]
    exact jputs_app cs a (x.set j c) b (j + 1) (by rw [List.length_set]; omega)
theorem jputs_all : ∀ (cs x : List Value), cs.length = x.length → jputs x 0 cs = cs := by
  have : ∀ (cs a x : List Value), cs.length = x.length → jputs (a ++ x) a.length cs = a ++ cs := by
    intro cs
    induction cs with
    | nil => intro a x h; have : x = [] := List.eq_nil_of_length_eq_zero h.symm; subst this; rfl
    | cons c cs ih =>
      intro a x h
      cases x with
      | nil => simp at h
      | cons y x =>
        rw [jputs, List.set_append_right _ _ (Nat.le_refl _), Nat.sub_self, List.set_cons_zero]
        have := ih (a ++ [c]) x (by simpa using h)
        rw [List.length_append, List.append_assoc, List.append_assoc] at this
        exact this
  intro cs x h
  exact this cs [] x h
theorem jarr_puts {g : Nat} {t : TypeId} : ∀ (ds cs : List Value) (k : Nat) (w : World), Arr w g t cs → Arr (w.setCells g k ds) g t (jputs cs k ds) ∧ w.grownBy (w.setCells g k ds) (some g)
  | [], cs, k, w, h => ⟨h, rfl, rfl, rfl, Nat.le_refl _, fun _ _ _ => rfl⟩
  | u :: ds, cs, k, w, h => by
    have a1 : Arr (w.setCell ⟨g, k, none⟩ u) g t (cs.set k u) := by
      have := heap_setCell_same w g k cs.toArray t u h
      rw [List.setIfInBounds_toArray] at this
      exact this
    obtain ⟨a2, b2⟩ := jarr_puts ds (cs.set k u) (k + 1) _ a1
    exact ⟨a2, b2.os, b2.tape, b2.output, Nat.le_trans (by simp) b2.size, fun j hj hne => (b2.block j (by simpa using hj) hne).trans (heap_setCell_other w ⟨g, k, none⟩ j u (fun e => hne (by simp [e])))⟩
theorem jarr_there {g : Nat} {t : TypeId} {cs : List Value} {w : World} (h : Arr w g t cs) {k m : Nat} (hk : k + m ≤ cs.length) : w.there g k m := by
  intro i hi
  refine ⟨?_, h.frozen _⟩
  rw [h.cell, List.getElem?_eq_getElem (by omega)]
  rfl
theorem Arr.rangeJ {w : World} {g : Nat} {t : TypeId} {cs : List Value} (h : Arr w g t cs) : w.rangeAt g 0 cs := fun j v hv => by
  rw [Nat.zero_add, h.cell j]; exact hv
theorem jalloc_zero {t : TypeId} {z : List Value} {n b : Nat} (hi : (Tryz.prog.info? t).map (fun i => (i.zero, i.size, i.bytes)) = some (some (.agg z.toArray), n, b)) (W : World) : (Instr.alloc t true (.tuple #[])).run Tryz.prog W = .ok (.pointer (some ⟨W.heap.size, 0, none⟩)) (W.alloc (.cells z.toArray t)) := by
  obtain ⟨i0, hi0, hz0, hz1, hz2⟩ := info_parts hi
  have hzero : (zeroValue t).run Tryz.prog W = .ok (.agg z.toArray) W := by
    generalize z.toArray = zz at hz0
    simp [zeroValue, typeInfo, hi0, hz0]
  unfold Instr.alloc
  rw [Sem.run_bind, hzero]
  rfl
theorem jbox_run (t : TypeId) (cs : List Value) (W : World) : (Instr.box t (.agg cs.toArray)).run Tryz.prog W = .ok (.pointer (some ⟨W.heap.size, 0, none⟩)) (W.alloc (.cells cs.toArray t)) := rfl
section
variable {ops : Array Oper} {rest : List Oper} {o : Oper} {a : Act} {Q : Exit → Act → World → Prop} {w : World} {K : Act → World → Prop} {E : Prop}
theorem wpList_allocJ (hgd : o.guard = none) (t : TypeId) (ho : o.op = .alloc t) {z : List Value} {n b : Nat} (hi : (Tryz.prog.info? t).map (fun i => (i.zero, i.size, i.bytes)) = some (some (.agg z.toArray), n, b))
    (hk : wpList Tryz.prog ops Q rest (a.put o.dst (.pointer (some ⟨w.heap.size, 0, none⟩))) (w.alloc (.cells z.toArray t))) : wpList Tryz.prog ops Q (o :: rest) a w := by
  refine wpList_plain hgd fun K hK => ?_
  unfold Oper.wp execOp
  simp only [ho, Sem.run_bind, jalloc_zero hi w, Result.andThen_ok, Sem.run_pure]
  exact hK _ _ hk
/-- A struct is written into a block that it fills. -/
theorem wpList_storeJ (hgd : o.guard = none) (x y : Operand) (t : TypeId) (ho : o.op = .store t x y) {g : Nat} {t0 : TypeId} {cs ds : List Value} (hx : a.eval x = .pointer (some ⟨g, 0, none⟩)) (hy : a.eval y = .agg ds.toArray) (h : Arr w g t0 cs) (hi : (Tryz.prog.info? t).map (·.size) = some ds.length) (hl : cs.length = ds.length) (h1 : ∀ u ∈ ds, u.oneCell' = true)
    (hk : ∀ w', Arr w' g t0 ds → w.grownBy w' (some g) → wpList Tryz.prog ops Q rest (a.put o.dst undef) w') : wpList Tryz.prog ops Q (o :: rest) a w := by
  obtain ⟨a1, b1⟩ := jarr_puts ds cs 0 w h
  rw [jputs_all ds cs hl.symm] at a1
  exact wpList_store_mid hgd t x y ho g 0 ds.toArray hx hy (jarr_there h (by simp [hl])) (by simpa using hi) (all_oneCell_toArray h1) (hk _ (by simpa using a1) (by simpa using b1))
/-- A struct that is handed in is laid into a block of its own. -/
theorem wpList_boxJ (hgd : o.guard = none) (t : TypeId) (x : Operand) (ho : o.op = .box t x) {cs : List Value} (hx : a.eval x = .agg cs.toArray)
    (hk : ∀ w', Arr w' w.heap.size t cs → Below w.heap.size w w' → w'.heap.size = w.heap.size + 1 → wpList Tryz.prog ops Q rest (a.put o.dst (.pointer (some ⟨w.heap.size, 0, none⟩))) w') : wpList Tryz.prog ops Q (o :: rest) a w := by
  refine wpList_plain hgd fun K hK => ?_
  unfold Oper.wp execOp
  simp only [ho, Sem.run_bind, hx, jbox_run, Result.andThen_ok, Sem.run_pure]
  exact hK _ _ (hk _ (Arr.new w cs t) ((Below.refl _ _).alloc (Nat.le_refl _) _) (by simp))
end
theorem jbelow_grown {B g : Nat} {a w w' : World} (h : Below B a w) (hg : w.grownBy w' (some g)) (hB : B ≤ w.heap.size) (hb : B ≤ g) : Below B a w' :=
  h.grown hg hB (fun j hj => by injection hj with hj; omega)
theorem jalloc_below (w : World) (o : Obj) : Below w.heap.size w (w.alloc o) := (Below.refl _ _).alloc (Nat.le_refl _) o
section
variable {ops : Array Oper} {rest : List Oper} {o : Oper} {a : Act} {Q : Exit → Act → World → Prop} {w : World} {K : Act → World → Prop} {E : Prop}
theorem step_call1J (hw : Region.wanted o (yielded ops a.tmps) = true) (f : Nat) (hf : ∀ (v : Value) (W : World), (callFunc f #[v]).run Tryz.prog W = .ok (.enter f #[v]) W) (x : Operand) (ts : Array TypeId) (ho : o.op = .call { callee := .value (.func f), args := #[x], argTypes := ts }) {v : Value} (hx : a.eval x = v)
    {Post : Ending → World → Prop} (hc : Calls Tryz.prog f #[v] w Post) (hk : ∀ e w2, Post e w2 → ∃ r, e = .returned r ∧ K (a.put o.dst r) w2) :
    if Region.wanted o (yielded ops a.tmps) = true then Oper.wp Tryz.prog o a w K Q else E := by
  rw [if_pos hw]
  have hrun : (execOp a.eval o).run Tryz.prog w = .ok (.enter f #[v]) w := by
    have h1 := hf v w
    unfold execOp
    have hfv : a.eval (.func f) = .func (.func f) #[] #[] := rfl
    simp [ho, hx, hfv, resolve, invoke, Deferred.ofValue, h1]
  unfold Oper.wp
  rw [hrun]
  refine hc.mono ?_
  intro e w2 hp
  obtain ⟨r, rfl, hK⟩ := hk e w2 hp
  exact hK
theorem step_call2J (hw : Region.wanted o (yielded ops a.tmps) = true) (f : Nat) (hf : ∀ (v u : Value) (W : World), (callFunc f #[v, u]).run Tryz.prog W = .ok (.enter f #[v, u]) W) (x y : Operand) (ts : Array TypeId) (ho : o.op = .call { callee := .value (.func f), args := #[x, y], argTypes := ts }) {v u : Value} (hx : a.eval x = v) (hy : a.eval y = u)
    {Post : Ending → World → Prop} (hc : Calls Tryz.prog f #[v, u] w Post) (hk : ∀ e w2, Post e w2 → ∃ r, e = .returned r ∧ K (a.put o.dst r) w2) :
    if Region.wanted o (yielded ops a.tmps) = true then Oper.wp Tryz.prog o a w K Q else E := by
  rw [if_pos hw]
  have hrun : (execOp a.eval o).run Tryz.prog w = .ok (.enter f #[v, u]) w := by
    have h1 := hf v u w
    unfold execOp
    have hfv : a.eval (.func f) = .func (.func f) #[] #[] := rfl
    simp [ho, hx, hy, hfv, resolve, invoke, Deferred.ofValue, h1]
  unfold Oper.wp
  rw [hrun]
  refine hc.mono ?_
  intro e w2 hp
  obtain ⟨r, rfl, hK⟩ := hk e w2 hp
  exact hK
theorem step_call3J (hw : Region.wanted o (yielded ops a.tmps) = true) (f : Nat) (hf : ∀ (v u z : Value) (W : World), (callFunc f #[v, u, z]).run Tryz.prog W = .ok (.enter f #[v, u, z]) W) (x y t : Operand) (ts : Array TypeId) (ho : o.op = .call { callee := .value (.func f), args := #[x, y, t], argTypes := ts }) {v u z : Value} (hx : a.eval x = v) (hy : a.eval y = u) (ht : a.eval t = z)
    {Post : Ending → World → Prop} (hc : Calls Tryz.prog f #[v, u, z] w Post) (hk : ∀ e w2, Post e w2 → ∃ r, e = .returned r ∧ K (a.put o.dst r) w2) :
    if Region.wanted o (yielded ops a.tmps) = true then Oper.wp Tryz.prog o a w K Q else E := by
  rw [if_pos hw]
  have hrun : (execOp a.eval o).run Tryz.prog w = .ok (.enter f #[v, u, z]) w := by
    have h1 := hf v u z w
    unfold execOp
    have hfv : a.eval (.func f) = .func (.func f) #[] #[] := rfl
    simp [ho, hx, hy, ht, hfv, resolve, invoke, Deferred.ofValue, h1]
  unfold Oper.wp
  rw [hrun]
  refine hc.mono ?_
  intro e w2 hp
  obtain ⟨r, rfl, hK⟩ := hk e w2 hp
  exact hK
end
end Go.Proofs.YtfhfobikbfbajaaGreatDoor
