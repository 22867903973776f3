/- Slices of bytes of the call's own: what holds of them in any seat. Slices of slices of bytes. A block of memory that holds just these cells. Bytes and slices appended, wherever the source lies: one law for slices of bytes. Parts of a slice of bytes, wherever it lies: what the expression yields, as one equation. append onto a row of the call's own: where the new slice lies, and which other slices of the same row still read what they read. -/
import Derived.Test.YtfhfobikbfbajaaGreatDoorTAA
import Derived.Deep.WholeRow
import Derived.Laws.OwnMore
import Derived.Laws.CopyOwn
import Derived.Laws.AppendOwnNone
import Derived.Maps.AppendAt
import Derived.WalkKit
import Derived.Below
namespace Go.Proofs.YtfhfobikbfbajaaGreatDoor
open Go.RowKit

theorem info8 : (Tryz.prog.info? 5).map (fun i => (i.zero, i.size, i.bytes)) = some (some (.int .u8 0), 1, 1) := by kernel_rfl
theorem one_u8 (x : Int) : ∀ u ∈ [Value.int .u8 x], u.oneCell' = true := by intro u hu; simp at hu; subst hu; rfl
theorem u8_one (xs : List Int) : ∀ u ∈ xs.map (Value.int .u8), u.oneCell' = true := by
  intro u hu
  obtain ⟨x, _, rfl⟩ := List.mem_map.1 hu
  rfl
/-- The first bytes of a slice. -/
theorem IsB.first {w : World} {b off n cap k : Nat} {ys : List Int} (h : IsB w (.slice (some ⟨b, off, none⟩) n cap) ys) (hk : k ≤ n) (hn : 0 < n) : IsB w (.slice (some ⟨b, off, none⟩) k cap) (ys.take k) := by
  obtain ⟨hb, a, cp, hv, hl, hm, hz, hc⟩ := h
  injection hv with e1 e2 e3
  subst e1 e2 e3
  obtain ⟨b', off', ha, hcell⟩ := hc hn
  injection ha with ha
  injection ha with hb1 ho1
  subst hb1 ho1
  have hlen : (ys.take k).length = k := by simp; omega
  refine ⟨fun j => ?_, some ⟨b, off, none⟩, cap, by rw [hlen], by omega, hm, (fun h => by cases h), fun _ => ⟨b, off, rfl, fun j hj => ?_⟩⟩
  · by_cases hj : j < k
    · rw [List.getElem?_take_of_lt hj]; exact hb j
    · rw [List.getElem?_eq_none (by omega)]; simp
  · rw [hcell j (by omega), List.getD_eq_getElem?_getD, List.getD_eq_getElem?_getD, List.getElem?_take_of_lt (by omega)]
/-- The same answers, with the slice's shape in sight. -/
theorem IsB.shape {w : World} {v : Value} {xs : List Int} (h : IsB w v xs) : ∃ a n c, v = .slice a n c := by
  obtain ⟨_, a, cap, rfl, _⟩ := h
  exact ⟨a, _, cap, rfl⟩
theorem IsB.lenEq {w : World} {a : Option Addr} {n c : Nat} {xs : List Int} (h : IsB w (.slice a n c) xs) : n = xs.length := by
  obtain ⟨_, a', cap, hv, _⟩ := h
  injection hv
/-- A slice of bytes of the call's own. -/
def Own8 (w : World) (B : Nat) (v : Value) (xs : List Int) : Prop := w.ownsRow B 5 1 v xs.length (xs.map (Value.int .u8)) ∧ ∀ x ∈ xs, 0 ≤ x ∧ x ≤ 255
theorem Own8.isB {w : World} {B : Nat} {v : Value} {xs : List Int} (h : Own8 w B v xs) : IsB w v xs := isB_owns h.1 h.2
theorem owns_below {w w' : World} {base : Nat} {t : TypeId} {size : Nat} {v : Value} {n : Nat} {cs : List Value} (h : w.ownsRow base t size v n cs) (hb : Below w.heap.size w w') : w'.ownsRow base t size v n cs :=
  h.kept (row := none) (show w.grownBy w' none from ⟨hb.os, hb.tape, hb.output, hb.size, fun k hk _ => hb.block k hk⟩) (by cases v.ownBlock <;> simp)
theorem owns_mono {w : World} {base base' : Nat} {t : TypeId} {size : Nat} {v : Value} {n : Nat} {cs : List Value} (h : w.ownsRow base t size v n cs) (hb : base' ≤ base) : w.ownsRow base' t size v n cs := by
  obtain ⟨h1, h2⟩ := h
  refine ⟨h1, ?_⟩
  rcases h2 with h2 | ⟨g, cap, cur, hv, hg, rest⟩
  · exact Or.inl h2
  · exact Or.inr ⟨g, cap, cur, hv, by omega, rest⟩
theorem Own8.below {w w' : World} {B : Nat} {v : Value} {xs : List Int} (h : Own8 w B v xs) (hb : Below w.heap.size w w') : Own8 w' B v xs := ⟨owns_below h.1 hb, h.2⟩
theorem Own8.mono {w : World} {B B' : Nat} {v : Value} {xs : List Int} (h : Own8 w B v xs) (hb : B' ≤ B) : Own8 w B' v xs := ⟨owns_mono h.1 hb, h.2⟩
/-- A new slice that is not empty lies at the head of its block. -/
theorem Own8.head {w : World} {B : Nat} {v : Value} {xs : List Int} (h : Own8 w B v xs) (hp : 0 < xs.length) : ∃ g c, v = .slice (some ⟨g, 0, none⟩) xs.length c ∧ B ≤ g ∧ ∀ j u, (xs.map (Value.int .u8))[j]? = some u → w.cell? ((⟨g, 0, none⟩ : Addr).add j) = some u := by
  rcases h.1.2 with ⟨rfl, h0⟩ | ⟨g, cap, cur, rfl, hb, _⟩
  · omega
  · exact ⟨g, cap, rfl, hb, fun j u hu => h.1.cells rfl j u hu⟩
theorem owns_shape {w : World} {B : Nat} {t : TypeId} {s : Nat} {v : Value} {n : Nat} {cs : List Value} (h : w.ownsRow B t s v n cs) (hn : 0 < n) : ∃ g cap, v = .slice (some ⟨g, 0, none⟩) n cap ∧ n ≤ cap ∧ cap ≤ 9223372036854775807 ∧ B ≤ g ∧ ∀ j, j < n * s → w.cell? ⟨g, j, none⟩ = cs[j]? := by
  have h' := h
  rcases h.2 with ⟨rfl, h0⟩ | ⟨g, cap, cur, rfl, hb, hg, hc, hm, _⟩
  · omega
  · exact ⟨g, cap, rfl, hc, by simpa [maxLen] using hm, hb, fun j hj => h'.cellAt j hj⟩
theorem below_drew {w w' : World} (h : Below w.drew.heap.size w.drew w') : Below w.heap.size w w' := ⟨h.os, h.tape, h.output, h.size, h.block⟩
theorem IsB.cut {w : World} {a : Option Addr} {n cap k : Nat} {ys : List Int} (h : IsB w (.slice a n cap) ys) (hk : k ≤ n) : IsB w (.slice a k cap) (ys.take k) := by
  have hl := h.lenEq
  obtain ⟨hb, a', cp, hv, hlc, hm, hz, hc⟩ := h
  injection hv with e1 e2 e3
  subst e1 e3
  have hlen : (ys.take k).length = k := by simp; omega
  refine ⟨fun j => ?_, a, cap, by rw [hlen], by omega, hm, hz, fun hp => ?_⟩
  · by_cases hj : j < k
    · rw [List.getElem?_take_of_lt hj]; exact hb j
    · rw [List.getElem?_eq_none (by omega)]; simp
  · obtain ⟨b, off, ha, hcell⟩ := hc (by omega)
    refine ⟨b, off, ha, fun j hj => ?_⟩
    rw [hcell j (by omega), List.getD_eq_getElem?_getD, List.getD_eq_getElem?_getD, List.getElem?_take_of_lt (by omega)]
theorem IsB.room {w : World} {a : Option Addr} {n cap : Nat} {ys : List Int} (h : IsB w (.slice a n cap) ys) : n ≤ cap := by
  have hl := h.lenEq
  obtain ⟨hb, a', cp, hv, hlc, hm, hz, hc⟩ := h
  injection hv with e1 e2 e3
  omega
theorem cells_lit (w : World) (cs : List Value) (t : TypeId) : ∀ j u, cs[j]? = some u → (w.alloc (.cells cs.toArray t)).cell? ((⟨w.heap.size, 0, none⟩ : Addr).add j) = some u := by
  intro j u hu
  rw [Addr.add_lit, cell_of_row _ w.heap.size (0 + j) cs.toArray t (0, 0) (heap_alloc_new w _)]
  simpa using hu
end Go.Proofs.YtfhfobikbfbajaaGreatDoor

namespace Go.Proofs.YtfhfobikbfbajaaGreatDoor
open Go.RowKit

/-- The value is a slice of slices of bytes; in this world it reads the lists. -/
structure IsBB (w : World) (v : Value) (xss : List (List Int)) : Prop where
  val : ∃ a cap, v = .slice a xss.length cap ∧ xss.length ≤ cap ∧ cap ≤ 9223372036854775807 ∧
    (0 < xss.length → ∃ b off, a = some ⟨b, off, none⟩ ∧ ∀ j, j < xss.length → ∃ u, w.cell? ⟨b, off + j, none⟩ = some u ∧ IsB w u (xss.getD j []))
theorem take_all {xs : List (List Int)} {k : Nat} (h : k < xs.length) : xs.take (k + 1) = xs.take k ++ [xs.getD k []] := by
  rw [List.take_succ_eq_append_getElem h, List.getD_eq_getElem?_getD, List.getElem?_eq_getElem h]
  rfl
theorem flatten_take {xss : List (List Int)} {k : Nat} (h : k < xss.length) : (xss.take (k + 1)).flatten = (xss.take k).flatten ++ xss.getD k [] := by
  rw [take_all h]; simp
theorem flatten_le {xss : List (List Int)} (k : Nat) : ((xss.take k).flatten).length ≤ xss.flatten.length := by
  have h := congrArg List.flatten (List.take_append_drop k xss)
  rw [List.flatten_append] at h
  have := congrArg List.length h
  rw [List.length_append] at this
  omega
theorem IsBB.below {w w' : World} {v : Value} {xss : List (List Int)} (h : IsBB w v xss) (hb : Below w.heap.size w w') : IsBB w' v xss := by
  obtain ⟨a, cap, rfl, hl, hm, hc⟩ := h
  refine ⟨a, cap, rfl, hl, hm, fun hp => ?_⟩
  obtain ⟨b, off, ha, hcell⟩ := hc hp
  refine ⟨b, off, ha, fun j hj => ?_⟩
  obtain ⟨u, hu, hi⟩ := hcell j hj
  exact ⟨u, (hb.cell (p := ⟨b, off + j, none⟩) (World.block_lt_of_cell? w _ hu)).trans hu, hi.below hb⟩
end Go.Proofs.YtfhfobikbfbajaaGreatDoor

namespace Go.Proofs.YtfhfobikbfbajaaGreatDoor
open Go.RowKit

theorem below_then {w a b : World} (h1 : Below w.heap.size w a) (h2 : Below a.heap.size a b) : Below w.heap.size w b := h1.trans (h2.mono h1.size)
def Arr (w : World) (g : Nat) (t : TypeId) (cs : List Value) : Prop := w.heap[g]? = some (.cells cs.toArray t)
theorem Arr.new (w : World) (cs : List Value) (t : TypeId) : Arr (w.alloc (.cells cs.toArray t)) w.heap.size t cs := heap_alloc_last w _
theorem Arr.lt {w : World} {g : Nat} {t : TypeId} {cs : List Value} (h : Arr w g t cs) : g < w.heap.size := (Array.getElem?_eq_some_iff.1 h).1
theorem Arr.cell {w : World} {g : Nat} {t : TypeId} {cs : List Value} (h : Arr w g t cs) (j : Nat) : w.cell? ⟨g, j, none⟩ = cs[j]? := by
  rw [cell_of_row w g j cs.toArray t (0, 0) h]
  simp
theorem Arr.frozen {w : World} {g : Nat} {t : TypeId} {cs : List Value} (h : Arr w g t cs) (j : Nat) : w.frozen? ⟨g, j, none⟩ = false := by
  unfold World.frozen?
  rw [h]
  simp
theorem Arr.keep {w w' : World} {g : Nat} {t : TypeId} {cs : List Value} (h : Arr w g t cs) (e : w'.heap[g]? = w.heap[g]?) : Arr w' g t cs := e.trans h
theorem Arr.below {w w' : World} {g : Nat} {t : TypeId} {cs : List Value} (h : Arr w g t cs) (hb : Below w.heap.size w w') : Arr w' g t cs := h.keep (hb.block g h.lt)
theorem Arr.alloc {w : World} {g : Nat} {t : TypeId} {cs : List Value} (h : Arr w g t cs) (o : Obj) : Arr (w.alloc o) g t cs := h.below ((Below.refl _ _).alloc (Nat.le_refl _) _)
theorem Arr.drew {w : World} {g : Nat} {t : TypeId} {cs : List Value} (h : Arr w g t cs) : Arr w.drew g t cs := h
theorem Arr.set {w : World} {g : Nat} {t : TypeId} {cs : List Value} (h : Arr w g t cs) (j : Nat) (u : Value) : Arr (w.setCell ⟨g, j, none⟩ u) g t (cs.set j u) := by
  have := heap_setCell_same w g j cs.toArray t u h
  unfold Arr
  rw [this]
  simp
theorem Arr.other {w : World} {g : Nat} {t : TypeId} {cs : List Value} (h : Arr w g t cs) (p : Addr) (u : Value) (hne : g ≠ p.block) : Arr (w.setCell p u) g t cs := h.keep (Below.heap_setCell w p u g hne)
theorem Arr.load {w : World} {g : Nat} {t e : TypeId} {n : Nat} {cs : List Value} (h : Arr w g t cs) (hu : Tryz.prog.underlying t = some (.array n e)) (hi : (Tryz.prog.info? t).map (·.size) = some cs.length) :
    (loadVar t ⟨g, 0, none⟩).run Tryz.prog w = .ok (.agg cs.toArray) w :=
  run_loadVar_row _ _ t t cs.toArray (0, 0) _ h hu rfl (by simpa using hi)
theorem Arr.loadAt {w : World} {g : Nat} {t e : TypeId} {n : Nat} {cs : List Value} (h : Arr w g t cs) (hu : Tryz.prog.underlying t = some (.array n e)) (hi : (Tryz.prog.info? t).map (·.size) = some cs.length) :
    (Instr.loadAt t (.pointer (some ⟨g, 0, none⟩))).run Tryz.prog w = .ok (.agg cs.toArray) w := by
  simp only [Instr.loadAt, Instr.sureAddr, Sem.run_bind, Sem.run_pure, Result.andThen]
  exact h.load hu hi
theorem Arr.storeVar {w : World} {g : Nat} {t : TypeId} {cs cs' : List Value} (h : Arr w g t cs) (hi : (Tryz.prog.info? t).map (·.size) = some cs'.length) (hl : cs.length = cs'.length) (h1 : ∀ u ∈ cs', u.oneCell' = true) :
    (Go.storeVar t ⟨g, 0, none⟩ (.agg cs'.toArray)).run Tryz.prog w = .ok () (w.setRow g cs'.toArray) :=
  run_storeVar_row _ _ t t cs.toArray cs'.toArray h (by simpa using hi) (by simpa using hl) (by simpa using h1)
theorem Arr.storeAt {w : World} {g : Nat} {t : TypeId} {cs cs' : List Value} (h : Arr w g t cs) (hi : (Tryz.prog.info? t).map (·.size) = some cs'.length) (hl : cs.length = cs'.length) (h1 : ∀ u ∈ cs', u.oneCell' = true) :
    (Instr.storeAt t (.pointer (some ⟨g, 0, none⟩)) (.agg cs'.toArray)).run Tryz.prog w = .ok () (w.setRow g cs'.toArray) := by
  simp only [Instr.storeAt, Instr.sureAddr, Sem.run_bind, Sem.run_pure, Result.andThen]
  exact h.storeVar hi hl h1
section
variable {ops : Array Oper} {rest : List Oper} {o : Oper} {a : Act} {Q : Exit → Act → World → Prop} {w : World}
/-- A whole array is read. -/
theorem wpList_loadArr (hgd : o.guard = none) (x : Operand) (t : TypeId) (ho : o.op = .load t x) {g n : Nat} {e : TypeId} {cs : List Value} (hx : a.eval x = .pointer (some ⟨g, 0, none⟩)) (h : Arr w g t cs) (hu : Tryz.prog.underlying t = some (.array n e)) (hi : (Tryz.prog.info? t).map (·.size) = some cs.length)
    (hk : wpList Tryz.prog ops Q rest (a.put o.dst (.agg cs.toArray)) w) : wpList Tryz.prog ops Q (o :: rest) a w := by
  refine wpList_plain hgd fun K hK => ?_
  have h1 := h.loadAt hu hi
  unfold Oper.wp execOp
  simp only [ho, hx, Sem.run_bind, h1, Result.andThen_ok, Sem.run_pure]
  exact hK _ _ hk
/-- A whole array is written. -/
theorem wpList_storeArr (hgd : o.guard = none) (x y : Operand) (t : TypeId) (ho : o.op = .store t x y) {g : Nat} {cs cs' : List Value} (hx : a.eval x = .pointer (some ⟨g, 0, none⟩)) (hy : a.eval y = .agg cs'.toArray) (h : Arr w g t cs) (hi : (Tryz.prog.info? t).map (·.size) = some cs'.length)
    (hl : cs.length = cs'.length) (h1 : ∀ u ∈ cs', u.oneCell' = true) (hk : wpList Tryz.prog ops Q rest (a.put o.dst undef) (w.setRow g cs'.toArray)) : wpList Tryz.prog ops Q (o :: rest) a w := by
  refine wpList_plain hgd fun K hK => ?_
  have h2 := h.storeAt hi hl h1
  unfold Oper.wp execOp
  simp only [ho, hx, hy, Sem.run_bind, h2, Result.andThen_ok, Sem.run_pure]
  exact hK _ _ hk
end
/-- What a world is behind a block was written. -/
structure Wrote (w w' : World) (g : Nat) : Prop where
  other : ∀ k, k ≠ g → w'.heap[k]? = w.heap[k]?
  size : w'.heap.size = w.heap.size
  below : ∀ (B : Nat) (a : World), Below B a w → B ≤ g → Below B a w'
theorem Arr.wrote {w w' : World} {g g' : Nat} {t : TypeId} {cs : List Value} (h : Arr w g t cs) (hw : Wrote w w' g') (hne : g ≠ g') : Arr w' g t cs := h.keep (hw.other g hne)
theorem wpList_storeArr2 {ops : Array Oper} {rest : List Oper} {o : Oper} {a : Act} {Q : Exit → Act → World → Prop} {w : World} (hgd : o.guard = none) (x y : Operand) (t : TypeId) (ho : o.op = .store t x y) {g : Nat} {cs cs' : List Value} (hx : a.eval x = .pointer (some ⟨g, 0, none⟩)) (hy : a.eval y = .agg cs'.toArray) (h : Arr w g t cs)
    (hi : (Tryz.prog.info? t).map (·.size) = some cs'.length) (hl : cs.length = cs'.length) (h1 : ∀ u ∈ cs', u.oneCell' = true) (hk : ∀ w', Arr w' g t cs' → Wrote w w' g → wpList Tryz.prog ops Q rest (a.put o.dst undef) w') : wpList Tryz.prog ops Q (o :: rest) a w :=
  wpList_storeArr hgd x y t ho hx hy h hi hl h1 (hk _ (setRow_heap w g _ _ t _ h) ⟨fun k hk => Go.setRow_other w g k _ hk, by simp, fun _ _ hb hB => below_setRow hb hB _⟩)

/-- A result that lies in a block. -/
theorem results_arr {fn : Func} {p : Tmp} {t e : TypeId} {n g : Nat} {tmps : Array Value} {w : World} {cs : List Value} (h : fn.results = #[.cell p t]) (ha : tmps.getD p undef = .pointer (some ⟨g, 0, none⟩)) (hA : Arr w g t cs) (hu : Tryz.prog.underlying t = some (.array n e)) (hi : (Tryz.prog.info? t).map (·.size) = some cs.length) :
    (results fn tmps).run Tryz.prog w = .ok (.agg cs.toArray) w := by
  have h1 := hA.load hu hi
  have ha' : tmps[p]?.getD undef = .pointer (some ⟨g, 0, none⟩) := by simpa using ha
  simp [results, h, asAddr, ha', h1]
theorem Arr.setRow {w : World} {g : Nat} {t : TypeId} {cs : List Value} (h : Arr w g t cs) (cs' : List Value) : Arr (w.setRow g cs'.toArray) g t cs' := setRow_heap w g _ _ t _ h
theorem Arr.setRow_other {w : World} {g g' : Nat} {t : TypeId} {cs : List Value} (h : Arr w g t cs) (c : Array Value) (hne : g ≠ g') : Arr (w.setRow g' c) g t cs := h.keep (Go.setRow_other w g' g c hne)
end Go.Proofs.YtfhfobikbfbajaaGreatDoor

namespace Go.Proofs.YtfhfobikbfbajaaGreatDoor
open Go.RowKit

section
variable {ops : Array Oper} {rest : List Oper} {o : Oper} {a : Act} {Q : Exit → Act → World → Prop} {w : World} {K : Act → World → Prop}
/-- The operation comes. -/
theorem wpList_on (hw : Region.wanted o (yielded ops a.tmps) = true) (h : ∀ K : Act → World → Prop, (∀ a w, wpList Tryz.prog ops Q rest a w → K a w) → o.wp Tryz.prog a w K Q) : wpList Tryz.prog ops Q (o :: rest) a w :=
  wpList_step fun K hK => by rw [if_pos hw]; exact h K hK
theorem Own8.shape {B : Nat} {v : Value} {xs : List Int} (h : Own8 w B v xs) : ∃ a n c, v = .slice a n c := h.isB.shape
theorem Own8.nil (w : World) (B : Nat) : Own8 w B (.slice none 0 0) [] := ⟨World.ownsRow_nil _ _ _ _, by simp⟩
theorem Own8.kept {w' : World} {B : Nat} {v : Value} {xs : List Int} {row : Option Nat} (h : Own8 w B v xs) (hg : w.grownBy w' row) (hne : v.ownBlock = none ∨ v.ownBlock ≠ row) : Own8 w' B v xs := ⟨h.1.kept hg hne, h.2⟩
/-- Bytes appended to a row of bytes of the call's own. -/
theorem wp_appB (x y : Operand) (ho : o.op = .call { callee := .builtin .append, args := #[x, y], argTypes := #[65, 65] }) {B : Nat} {v u : Value} {xs ys : List Int} (hx : a.eval x = v) (hown : Own8 w B v xs) (hy : a.eval y = u) (hys : IsB w u ys)
    (hl : xs.length + ys.length ≤ 140737488355328) (hB : B ≤ w.heap.size) (hk : ∀ v' w', Own8 w' B v' (xs ++ ys) → w.grownBy w' v.ownBlock → K (a.put o.dst v') w') : o.wp Tryz.prog a w K Q := by
  obtain ⟨i0, hi, hz0, hz1, hz2⟩ := info_parts info8
  have hys' := hys
  obtain ⟨_, ad, cap, rfl, _, _, hz, hc⟩ := hys
  cases ad with
  | none =>
    have h0 : ys = [] := by
      by_cases hp : 0 < ys.length
      · obtain ⟨b2, off2, ha, _⟩ := hc hp
        cases ha
      · exact List.eq_nil_of_length_eq_zero (by omega)
    subst h0
    obtain rfl := hz rfl
    have hrun := run_append_owned_none (P := Tryz.prog) (w := w) B 65 o.type 5 i0 1 Tryz.underlying65 hi v _ _ hown.1
    have := hk v w (by rw [List.append_nil]; exact hown) ⟨rfl, rfl, rfl, Nat.le_refl _, fun _ _ _ => rfl⟩
    unfold Oper.wp
    simp [execOp, ho, resolve, invoke, builtin, hx, hy, hrun, Result.andThen]
    exact this
  | some ad =>
    refine wp_append_own w x y 65 ho B 5 i0 (.int .u8 0) 1 1 Tryz.underlying65 hi hz0 hz1 hz2 rfl (by decide) v xs.length (xs.map (Value.int .u8)) hx hown.1 ad ys.length cap (ys.map (Value.int .u8)) hy (by simp) hys'.cells (u8_one ys) (by unfold maxLen; omega) (by omega) hB ?_
    intro v' w' h2 h3 _
    refine hk v' w' ⟨?_, fun x hx => ?_⟩ h3
    · rw [List.length_append, List.map_append]; exact h2
    · rcases List.mem_append.1 hx with hx | hx
      · exact hown.2 x hx
      · exact hys'.mem x hx
theorem wpList_appB (hw : Region.wanted o (yielded ops a.tmps) = true) (x y : Operand) (ho : o.op = .call { callee := .builtin .append, args := #[x, y], argTypes := #[65, 65] }) {B : Nat} {v u : Value} {xs ys : List Int} (hx : a.eval x = v) (hown : Own8 w B v xs) (hy : a.eval y = u) (hys : IsB w u ys)
    (hl : xs.length + ys.length ≤ 140737488355328) (hB : B ≤ w.heap.size) (hk : ∀ v' w', Own8 w' B v' (xs ++ ys) → w.grownBy w' v.ownBlock → wpList Tryz.prog ops Q rest (a.put o.dst v') w') : wpList Tryz.prog ops Q (o :: rest) a w :=
  wpList_on hw fun _ hK => wp_appB x y ho hx hown hy hys hl hB fun v' w' h1 h2 => hK _ _ (hk v' w' h1 h2)
end
theorem isB_lit (w : World) (xs : List Int) (hb : ∀ x ∈ xs, 0 ≤ x ∧ x ≤ 255) (hl : xs.length ≤ 1000) : IsB (w.alloc (.cells (xs.map (Value.int .u8)).toArray 5)) (.slice (some ⟨w.heap.size, 0, none⟩) xs.length xs.length) xs := by
  refine ⟨bytes_mem hb, some ⟨w.heap.size, 0, none⟩, xs.length, rfl, Nat.le_refl _, by omega, (fun h => by cases h), fun _ => ⟨w.heap.size, 0, rfl, fun j hj => ?_⟩⟩
  have h := (Arr.new w (xs.map (Value.int .u8)) 5).cell (0 + j)
  rw [h, Nat.zero_add, List.getElem?_map, List.getElem?_eq_getElem hj, List.getD_eq_getElem?_getD, List.getElem?_eq_getElem hj]
  rfl
end Go.Proofs.YtfhfobikbfbajaaGreatDoor

namespace Go.Proofs.YtfhfobikbfbajaaGreatDoor
open Go.RowKit

end Go.Proofs.YtfhfobikbfbajaaGreatDoor

namespace Go.Proofs.YtfhfobikbfbajaaGreatDoor
open Go.RowKit

/-- A row of cells of the call's own. -/
def Row (w : World) (B : Nat) (t : TypeId) (v : Value) (xs : List Value) : Prop := w.ownsRow B t 1 v xs.length xs
theorem Row.kept {w w' : World} {B : Nat} {t : TypeId} {v : Value} {xs : List Value} {row : Option Nat} (h : Row w B t v xs) (hg : w.grownBy w' row) (hne : v.ownBlock = none ∨ v.ownBlock ≠ row) : Row w' B t v xs := World.ownsRow.kept h hg hne
theorem Row.grown {w w' : World} {B : Nat} {t : TypeId} {v : Value} {xs : List Value} (h : Row w B t v xs) (hg : w.grownBy w' none) : Row w' B t v xs := h.kept hg (by cases v.ownBlock <;> simp)
theorem Row.nil (w : World) (B : Nat) (t : TypeId) : Row w B t (.slice none 0 0) [] := World.ownsRow_nil _ _ _ _
theorem Row.shape {w : World} {B : Nat} {t : TypeId} {v : Value} {xs : List Value} (h : Row w B t v xs) : ∃ a c, v = .slice a xs.length c := by
  rcases h.2 with ⟨rfl, h0⟩ | ⟨g, cap, cur, rfl, _⟩
  · exact ⟨none, 0, by rw [h0]⟩
  · exact ⟨_, cap, rfl⟩
theorem Row.head {w : World} {B : Nat} {t : TypeId} {v : Value} {xs : List Value} (h : Row w B t v xs) (hp : 0 < xs.length) : ∃ g c, v = .slice (some ⟨g, 0, none⟩) xs.length c ∧ xs.length ≤ c ∧ c ≤ 9223372036854775807 ∧ B ≤ g ∧ g < w.heap.size := by
  rcases h.2 with ⟨rfl, h0⟩ | ⟨g, cap, cur, rfl, hb, hg, hle, hm, _⟩
  · omega
  · exact ⟨g, cap, rfl, hle, by simpa [maxLen] using hm, hb, (Array.getElem?_eq_some_iff.1 hg).1⟩
theorem Row.lt {w : World} {B : Nat} {t : TypeId} {v : Value} {xs : List Value} (h : Row w B t v xs) : ∀ k, v.ownBlock = some k → B ≤ k ∧ k < w.heap.size := World.ownsRow.lt h
theorem Row.mono {w : World} {B B' : Nat} {t : TypeId} {v : Value} {xs : List Value} (h : Row w B t v xs) (hb : B' ≤ B) : Row w B' t v xs := by
  obtain ⟨h1, h2⟩ := h
  refine ⟨h1, ?_⟩
  rcases h2 with h2 | ⟨g, cap, cur, hv, hg, rest⟩
  · exact Or.inl h2
  · exact Or.inr ⟨g, cap, cur, hv, by omega, rest⟩
theorem Row.apart {w : World} {b1 b2 : Nat} {t1 t2 : TypeId} {v1 v2 : Value} {c1 c2 : List Value} (h1 : Row w b1 t1 v1 c1) (h2 : Row w b2 t2 v2 c2) (ht : t1 ≠ t2) :
    v1.ownBlock = none ∨ v1.ownBlock ≠ v2.ownBlock := by
  rcases h1.2 with ⟨rfl, _⟩ | ⟨g, cap, cur, rfl, _, hg, _⟩
  · exact Or.inl rfl
  · rcases h2.2 with ⟨rfl, _⟩ | ⟨g', cap', cur', rfl, _, hg', _⟩
    · exact Or.inr (by simp [Value.ownBlock])
    · refine Or.inr fun e => ht ?_
      simp only [Value.ownBlock, Option.some.injEq] at e
      subst e
      rw [hg] at hg'
      simp only [Option.some.injEq, Obj.cells.injEq] at hg'
      exact hg'.2.1
end Go.Proofs.YtfhfobikbfbajaaGreatDoor
