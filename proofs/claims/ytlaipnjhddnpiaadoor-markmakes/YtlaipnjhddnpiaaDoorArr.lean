/- A block of memory that holds just these cells. -/
import Derived.Test.YtlaipnjhddnpiaaDoorBs
import Derived.Deep.WholeRow
import Derived.Laws.OwnMore
import Derived.Laws.CopyOwn
namespace Go.Proofs.YtlaipnjhddnpiaaDoor
open Go.RowKit

theorem below_then {w a b : World} (h1 : Below w.heap.size w a) (h2 : Below a.heap.size a b) : Below w.heap.size w b := h1.trans (h2.mono h1.size)
def Arr (w : World) (g : Nat) (t : TypeId) (cs : List Value) : Prop := w.heap[g]? = some (.cells cs.toArray t)
theorem Arr.new (w : World) (cs : List Value) (t : TypeId) : Arr (w.alloc (.cells cs.toArray t)) w.heap.size t cs := heap_alloc_last w _
theorem Arr.lt {w : World} {g : Nat} {t : TypeId} {cs : List Value} (h : Arr w g t cs) : g < w.heap.size := (Array.getElem?_eq_some_iff.1 h).1
theorem Arr.cell {w : World} {g : Nat} {t : TypeId} {cs : List Value} (h : Arr w g t cs) (j : Nat) : w.cell? ⟨g, j, none⟩ = cs[j]? := by
  rw [cell_of_row w g j cs.toArray t (0, 0) h]
  simp
theorem Arr.frozen {w : World} {g : Nat} {t : TypeId} {cs : List Value} (h : Arr w g t cs) (j : Nat) : w.frozen? ⟨g, j, none⟩ = false := by
  unfold World.frozen?
  rw [h]
  simp
theorem Arr.keep {w w' : World} {g : Nat} {t : TypeId} {cs : List Value} (h : Arr w g t cs) (e : w'.heap[g]? = w.heap[g]?) : Arr w' g t cs := e.trans h
theorem Arr.below {w w' : World} {g : Nat} {t : TypeId} {cs : List Value} (h : Arr w g t cs) (hb : Below w.heap.size w w') : Arr w' g t cs := h.keep (hb.block g h.lt)
theorem Arr.alloc {w : World} {g : Nat} {t : TypeId} {cs : List Value} (h : Arr w g t cs) (o : Obj) : Arr (w.alloc o) g t cs := h.below ((Below.refl _ _).alloc (Nat.le_refl _) _)
theorem Arr.drew {w : World} {g : Nat} {t : TypeId} {cs : List Value} (h : Arr w g t cs) : Arr w.drew g t cs := h
theorem Arr.set {w : World} {g : Nat} {t : TypeId} {cs : List Value} (h : Arr w g t cs) (j : Nat) (u : Value) : Arr (w.setCell ⟨g, j, none⟩ u) g t (cs.set j u) := by
  have := heap_setCell_same w g j cs.toArray t u h
  unfold Arr
  rw [this]
  simp
theorem Arr.other {w : World} {g : Nat} {t : TypeId} {cs : List Value} (h : Arr w g t cs) (p : Addr) (u : Value) (hne : g ≠ p.block) : Arr (w.setCell p u) g t cs := h.keep (Below.heap_setCell w p u g hne)
theorem Arr.load {w : World} {g : Nat} {t e : TypeId} {n : Nat} {cs : List Value} (h : Arr w g t cs) (hu : Tryd.prog.underlying t = some (.array n e)) (hi : (Tryd.prog.info? t).map (·.size) = some cs.length) :
    (loadVar t ⟨g, 0, none⟩).run Tryd.prog w = .ok (.agg cs.toArray) w :=
  run_loadVar_row _ _ t t cs.toArray (0, 0) _ h hu rfl (by simpa using hi)
/-- The whole array read and written, as the walk meets it: opened down to the cells. -/
theorem Arr.loadFrom {w : World} {g : Nat} {t : TypeId} {cs : List Value} (h : Arr w g t cs) (n : Nat) (hn : cs.length = n) : (loadCellsFrom ⟨g, 0, none⟩ 0 n #[]).run Tryd.prog w = .ok cs.toArray w := by
  subst hn
  have := run_loadCells_list (P := Tryd.prog) w ⟨g, 0, none⟩ cs (fun j v hv => by rw [Addr.add_lit, h.cell]; simpa using hv)
  simpa [loadCells] using this
theorem Arr.loadAt {w : World} {g : Nat} {t e : TypeId} {n : Nat} {cs : List Value} (h : Arr w g t cs) (hu : Tryd.prog.underlying t = some (.array n e)) (hi : (Tryd.prog.info? t).map (·.size) = some cs.length) :
    (Instr.loadAt t (.pointer (some ⟨g, 0, none⟩))).run Tryd.prog w = .ok (.agg cs.toArray) w := by
  simp only [Instr.loadAt, Instr.sureAddr, Sem.run_bind, Sem.run_pure, Result.andThen]
  exact h.load hu hi
theorem Arr.storeVar {w : World} {g : Nat} {t : TypeId} {cs cs' : List Value} (h : Arr w g t cs) (hi : (Tryd.prog.info? t).map (·.size) = some cs'.length) (hl : cs.length = cs'.length) (h1 : ∀ u ∈ cs', u.oneCell' = true) :
    (Go.storeVar t ⟨g, 0, none⟩ (.agg cs'.toArray)).run Tryd.prog w = .ok () (w.setRow g cs'.toArray) :=
  run_storeVar_row _ _ t t cs.toArray cs'.toArray h (by simpa using hi) (by simpa using hl) (by simpa using h1)
theorem Arr.storeAt {w : World} {g : Nat} {t : TypeId} {cs cs' : List Value} (h : Arr w g t cs) (hi : (Tryd.prog.info? t).map (·.size) = some cs'.length) (hl : cs.length = cs'.length) (h1 : ∀ u ∈ cs', u.oneCell' = true) :
    (Instr.storeAt t (.pointer (some ⟨g, 0, none⟩)) (.agg cs'.toArray)).run Tryd.prog w = .ok () (w.setRow g cs'.toArray) := by
  simp only [Instr.storeAt, Instr.sureAddr, Sem.run_bind, Sem.run_pure, Result.andThen]
  exact h.storeVar hi hl h1
section
variable {ops : Array Oper} {rest : List Oper} {o : Oper} {a : Act} {Q : Exit → Act → World → Prop} {w : World}
/-- A whole array is read. -/
theorem wpList_loadArr (hgd : o.guard = none) (x : Operand) (t : TypeId) (ho : o.op = .load t x) {g n : Nat} {e : TypeId} {cs : List Value} (hx : a.eval x = .pointer (some ⟨g, 0, none⟩)) (h : Arr w g t cs) (hu : Tryd.prog.underlying t = some (.array n e)) (hi : (Tryd.prog.info? t).map (·.size) = some cs.length)
    (hk : wpList Tryd.prog ops Q rest (a.put o.dst (.agg cs.toArray)) w) : wpList Tryd.prog ops Q (o :: rest) a w := by
  refine wpList_plain hgd fun K hK => ?_
  have h1 := h.loadAt hu hi
  unfold Oper.wp execOp
  simp only [ho, hx, Sem.run_bind, h1, Result.andThen_ok, Sem.run_pure]
  exact hK _ _ hk
/-- A whole array is written. -/
theorem wpList_storeArr (hgd : o.guard = none) (x y : Operand) (t : TypeId) (ho : o.op = .store t x y) {g : Nat} {cs cs' : List Value} (hx : a.eval x = .pointer (some ⟨g, 0, none⟩)) (hy : a.eval y = .agg cs'.toArray) (h : Arr w g t cs) (hi : (Tryd.prog.info? t).map (·.size) = some cs'.length)
    (hl : cs.length = cs'.length) (h1 : ∀ u ∈ cs', u.oneCell' = true) (hk : wpList Tryd.prog ops Q rest (a.put o.dst undef) (w.setRow g cs'.toArray)) : wpList Tryd.prog ops Q (o :: rest) a w := by
  refine wpList_plain hgd fun K hK => ?_
  have h2 := h.storeAt hi hl h1
  unfold Oper.wp execOp
  simp only [ho, hx, hy, Sem.run_bind, h2, Result.andThen_ok, Sem.run_pure]
  exact hK _ _ hk
end
/-- What a world is behind a block was written. -/
structure Wrote (w w' : World) (g : Nat) : Prop where
  other : ∀ k, k ≠ g → w'.heap[k]? = w.heap[k]?
  size : w'.heap.size = w.heap.size
  below : ∀ (B : Nat) (a : World), Below B a w → B ≤ g → Below B a w'
theorem Arr.wrote {w w' : World} {g g' : Nat} {t : TypeId} {cs : List Value} (h : Arr w g t cs) (hw : Wrote w w' g') (hne : g ≠ g') : Arr w' g t cs := h.keep (hw.other g hne)
theorem wpList_storeArr2 {ops : Array Oper} {rest : List Oper} {o : Oper} {a : Act} {Q : Exit → Act → World → Prop} {w : World} (hgd : o.guard = none) (x y : Operand) (t : TypeId) (ho : o.op = .store t x y) {g : Nat} {cs cs' : List Value} (hx : a.eval x = .pointer (some ⟨g, 0, none⟩)) (hy : a.eval y = .agg cs'.toArray) (h : Arr w g t cs)
    (hi : (Tryd.prog.info? t).map (·.size) = some cs'.length) (hl : cs.length = cs'.length) (h1 : ∀ u ∈ cs', u.oneCell' = true) (hk : ∀ w', Arr w' g t cs' → Wrote w w' g → wpList Tryd.prog ops Q rest (a.put o.dst undef) w') : wpList Tryd.prog ops Q (o :: rest) a w :=
  wpList_storeArr hgd x y t ho hx hy h hi hl h1 (hk _ (setRow_heap w g _ _ t _ h) ⟨fun k hk => Go.setRow_other w g k _ hk, by simp, fun _ _ hb hB => below_setRow hb hB _⟩)

/-- A result that lies in a block. -/
theorem results_arr {fn : Func} {p : Tmp} {t e : TypeId} {n g : Nat} {tmps : Array Value} {w : World} {cs : List Value} (h : fn.results = #[.cell p t]) (ha : tmps.getD p undef = .pointer (some ⟨g, 0, none⟩)) (hA : Arr w g t cs) (hu : Tryd.prog.underlying t = some (.array n e)) (hi : (Tryd.prog.info? t).map (·.size) = some cs.length) :
    (results fn tmps).run Tryd.prog w = .ok (.agg cs.toArray) w := by
  have h1 := hA.load hu hi
  have ha' : tmps[p]?.getD undef = .pointer (some ⟨g, 0, none⟩) := by simpa using ha
  simp [results, h, asAddr, ha', h1]
theorem Arr.setRow {w : World} {g : Nat} {t : TypeId} {cs : List Value} (h : Arr w g t cs) (cs' : List Value) : Arr (w.setRow g cs'.toArray) g t cs' := setRow_heap w g _ _ t _ h
theorem Arr.setRow_other {w : World} {g g' : Nat} {t : TypeId} {cs : List Value} (h : Arr w g t cs) (c : Array Value) (hne : g ≠ g') : Arr (w.setRow g' c) g t cs := h.keep (Go.setRow_other w g' g c hne)
end Go.Proofs.YtlaipnjhddnpiaaDoor
