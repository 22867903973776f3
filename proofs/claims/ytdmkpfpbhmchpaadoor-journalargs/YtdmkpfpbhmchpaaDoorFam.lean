/- Many rows of the call's own beside one another: what changes some of them alone. -/
import Derived.Test.YtdmkpfpbhmchpaaDoorShare
namespace Go.Proofs.YtdmkpfpbhmchpaaDoor
open Go.RowKit

/-- Nothing is changed but blocks from B on and below S, and new ones. -/
structure Out (B S : Nat) (w w' : World) : Prop where
  os : w'.os = w.os
  tape : w'.tape = w.tape
  output : w'.output = w.output
  size : w.heap.size ≤ w'.heap.size
  block : ∀ k, k < w.heap.size → (k < B ∨ S ≤ k) → w'.heap[k]? = w.heap[k]?
theorem Out.refl (B S : Nat) (w : World) : Out B S w w := ⟨rfl, rfl, rfl, Nat.le_refl _, fun _ _ _ => rfl⟩
theorem Out.trans {B S : Nat} {a b c : World} (h : Out B S a b) (k : Out B S b c) : Out B S a c :=
  ⟨k.os.trans h.os, k.tape.trans h.tape, k.output.trans h.output, Nat.le_trans h.size k.size, fun i hi ho => (k.block i (Nat.lt_of_lt_of_le hi h.size) ho).trans (h.block i hi ho)⟩
theorem Out.of_below {B S : Nat} {w w' : World} (h : Below w.heap.size w w') : Out B S w w' := ⟨h.os, h.tape, h.output, h.size, fun k hk _ => h.block k hk⟩
theorem Out.then_below {B S : Nat} {a w w' : World} (h : Out B S a w) (k : Below w.heap.size w w') : Out B S a w' := h.trans (Out.of_below k)
theorem Out.below {B S k : Nat} {w w' : World} (h : Out B S w w') (h1 : k ≤ B) (h2 : k ≤ w.heap.size) : Below k w w' := ⟨h.os, h.tape, h.output, h.size, fun i hi => h.block i (by omega) (Or.inl (by omega))⟩
theorem Out.grown {B S : Nat} {a w w' : World} {row : Option Nat} (h : Out B S a w) (hg : w.grownBy w' row) (hr : ∀ k, row = some k → (B ≤ k ∧ k < S) ∨ a.heap.size ≤ k) : Out B S a w' :=
  ⟨hg.os.trans h.os, hg.tape.trans h.tape, hg.output.trans h.output, Nat.le_trans h.size hg.size, fun k hk ho => (hg.block k (Nat.lt_of_lt_of_le hk h.size) (fun e => by have := hr k e.symm; omega)).trans (h.block k hk ho)⟩
theorem grown_new {a w w' : World} {row : Option Nat} {v : Value} (h : a.grownBy w row) (hg : w.grownBy w' v.ownBlock) (hr : v.ownBlock = row ∨ ∀ k, v.ownBlock = some k → a.heap.size ≤ k) : a.grownBy w' row :=
  ⟨hg.os.trans h.os, hg.tape.trans h.tape, hg.output.trans h.output, Nat.le_trans h.size hg.size, fun k hk ho => (hg.block k (Nat.lt_of_lt_of_le hk h.size) (fun e => by
    rcases hr with hr | hr
    · exact ho (e.trans hr)
    · have := hr k e.symm; omega)).trans (h.block k hk ho)⟩
theorem grown_below {a w w' : World} {row : Option Nat} (h : a.grownBy w row) (hb : Below w.heap.size w w') : a.grownBy w' row :=
  ⟨hb.os.trans h.os, hb.tape.trans h.tape, hb.output.trans h.output, Nat.le_trans h.size hb.size, fun k hk ho => (hb.block k (Nat.lt_of_lt_of_le hk h.size)).trans (h.block k hk ho)⟩
theorem Out.of_grown {B S : Nat} {w w' : World} {row : Option Nat} (hg : w.grownBy w' row) (hr : ∀ k, row = some k → B ≤ k ∧ k < S) : Out B S w w' := (Out.refl B S w).grown hg fun k hk => Or.inl (hr k hk)
theorem Row.out {w w' : World} {B S b : Nat} {t : TypeId} {v : Value} {xs : List Value} (h : Row w b t v xs) (ho : Out B S w w') (hne : ∀ k, v.ownBlock = some k → k < B ∨ S ≤ k) : Row w' b t v xs := by
  refine ⟨h.1, ?_⟩
  rcases h.2 with hn | ⟨g, cap, cur, rfl, hb, hgg, rest⟩
  · exact .inl hn
  · refine .inr ⟨g, cap, cur, rfl, hb, ?_, rest⟩
    rw [ho.block g (Array.getElem?_eq_some_iff.1 hgg).1 (hne g rfl)]
    exact hgg
theorem Out.cell {B S : Nat} {w w' : World} (h : Out B S w w') {p : Addr} (hp : p.block < w.heap.size) (ho : p.block < B ∨ S ≤ p.block) : w'.cell? p = w.cell? p := World.cell?_of_block (h.block p.block hp ho)

/-- n rows, each in a block of its own, from B on and below S. -/
structure Lines (w : World) (B S : Nat) (t : TypeId) (U : Nat → Value) (R : Nat → List Value) (n : Nat) : Prop where
  row : ∀ k, k < n → Row w B t (U k) (R k)
  hi : ∀ k, k < n → ∀ g, (U k).ownBlock = some g → g < S
  apart : ∀ j k, j < n → k < n → j ≠ k → (U j).ownBlock = none ∨ (U j).ownBlock ≠ (U k).ownBlock
def upd {α : Type} (f : Nat → α) (i : Nat) (x : α) : Nat → α := fun k => if k = i then x else f k
theorem upd_same {α : Type} (f : Nat → α) (i : Nat) (x : α) : upd f i x i = x := if_pos rfl
theorem upd_other {α : Type} (f : Nat → α) {i k : Nat} (x : α) (h : k ≠ i) : upd f i x k = f k := if_neg h
theorem Lines.step {w w' : World} {B S : Nat} {t : TypeId} {U : Nat → Value} {R : Nat → List Value} {n i : Nat} (h : Lines w B S t U R n) (hi : i < n) {ys : List Value} (hg : w.grownBy w' (U i).ownBlock) (hr : Row w' B t (U i) ys) : Lines w' B S t U (upd R i ys) n := by
  refine ⟨fun k hk => ?_, h.hi, h.apart⟩
  by_cases e : k = i
  · subst e; rw [upd_same]; exact hr
  · rw [upd_other _ _ e]
    exact (h.row k hk).kept hg (h.apart k i hk hi e)
theorem Lines.below {w w' : World} {B S : Nat} {t : TypeId} {U : Nat → Value} {R : Nat → List Value} {n : Nat} (h : Lines w B S t U R n) (hb : Below w.heap.size w w') : Lines w' B S t U R n :=
  ⟨fun k hk => (h.row k hk).out (Out.of_below (B := 0) (S := 0) hb) (fun _ _ => Or.inr (Nat.zero_le _)), h.hi, h.apart⟩
theorem Lines.out {w w' : World} {B S B1 S1 : Nat} {t : TypeId} {U : Nat → Value} {R : Nat → List Value} {n : Nat} (h : Lines w B S t U R n) (ho : Out B1 S1 w w') (hd : S ≤ B1 ∨ S1 ≤ B) : Lines w' B S t U R n :=
  ⟨fun k hk => (h.row k hk).out ho (fun g hg => by have h1 := h.hi k hk g hg; have h2 := ((h.row k hk).lt g hg).1; omega), h.hi, h.apart⟩
theorem Lines.ext {w : World} {B S : Nat} {t : TypeId} {U : Nat → Value} {R R' : Nat → List Value} {n : Nat} (h : Lines w B S t U R n) (he : ∀ k, k < n → R' k = R k) : Lines w B S t U R' n :=
  ⟨fun k hk => by rw [he k hk]; exact h.row k hk, h.hi, h.apart⟩
/-- A row whose first j cells hold the mark. -/
def marked (m : Value) (j : Nat) (xs : List Value) : List Value := List.replicate j m ++ xs.drop j
theorem marked_len {m : Value} {j : Nat} {xs : List Value} (h : j ≤ xs.length) : (marked m j xs).length = xs.length := by simp [marked]; omega
theorem marked_zero (m : Value) (xs : List Value) : marked m 0 xs = xs := by simp [marked]
theorem marked_all (m : Value) (xs : List Value) : marked m xs.length xs = List.replicate xs.length m := by simp [marked]
theorem marked_set {m : Value} {j : Nat} {xs : List Value} (h : j < xs.length) : (marked m j xs).set j m = marked m (j + 1) xs := by
  unfold marked
  apply List.ext_getElem?
  intro k
  rw [List.getElem?_set]
  by_cases hk : j = k
  · subst hk
    rw [if_pos rfl, if_pos (by simp; omega), List.getElem?_append_left (by simp), List.getElem?_replicate, if_pos (by omega)]
  · rw [if_neg hk]
    by_cases h1 : k < j
    · rw [List.getElem?_append_left (by simpa using h1), List.getElem?_append_left (by simp; omega), List.getElem?_replicate, List.getElem?_replicate, if_pos h1, if_pos (by omega)]
    · rw [List.getElem?_append_right (by simp; omega), List.getElem?_append_right (by simp; omega), List.getElem?_drop, List.getElem?_drop]
      congr 1
      simp
      omega
/-- A cell of a row is set. -/
theorem Row.set {w : World} {B : Nat} {t : TypeId} {g n c : Nat} {xs : List Value} (h : Row w B t (.slice (some ⟨g, 0, none⟩) n c) xs) (j : Nat) (u : Value) : Row (w.setCell ⟨g, j, none⟩ u) B t (.slice (some ⟨g, 0, none⟩) n c) (xs.set j u) ∧ w.grownBy (w.setCell ⟨g, j, none⟩ u) (some g) := by
  obtain ⟨a, c2, hv⟩ := h.shape
  injection hv with _ e2 _
  subst e2
  have := World.ownsRow.stored h j u
  unfold Row
  rw [List.length_set]
  exact this
theorem Row.cellAt {w : World} {B : Nat} {t : TypeId} {g n c : Nat} {xs : List Value} (h : Row w B t (.slice (some ⟨g, 0, none⟩) n c) xs) {j : Nat} (hj : j < xs.length) : w.cell? ⟨g, j, none⟩ = xs[j]? := by
  obtain ⟨a, c2, hv⟩ := h.shape
  injection hv with _ e2 _
  subst e2
  exact World.ownsRow.cellAt h j (by omega)
theorem Row.frozenAt {w : World} {B : Nat} {t : TypeId} {g n c : Nat} {xs : List Value} (h : Row w B t (.slice (some ⟨g, 0, none⟩) n c) xs) (j : Nat) : w.frozen? ⟨g, j, none⟩ = false := by
  obtain ⟨a, c2, hv⟩ := h.shape
  injection hv with _ e2 _
  subst e2
  exact World.ownsRow.frozenAt h j
/-- A row's own marks, and marks behind them: what the lengthened one reads. -/
def longer (m t : Value) (n z : Nat) : List Value := List.replicate n m ++ List.replicate z t
theorem longer_len (m t : Value) (n z : Nat) : (longer m t n z).length = n + z := by simp [longer]
theorem longer_add (m t : Value) (n z y : Nat) : longer m t n z ++ List.replicate y t = longer m t n (z + y) := by simp [longer, List.append_assoc, List.replicate_append_replicate]
theorem longer_at (m t : Value) {n z j : Nat} (h : j < n + z) : (longer m t n z)[j]? = some (if j < n then m else t) := by
  unfold longer
  by_cases h1 : j < n
  · rw [List.getElem?_append_left (by simpa using h1), List.getElem?_replicate, if_pos h1, if_pos h1]
  · rw [List.getElem?_append_right (by simp; omega), List.getElem?_replicate, if_pos (by simp; omega), if_neg h1]
theorem longer_zero (m t : Value) (n : Nat) : longer m t n 0 = List.replicate n m := by simp [longer]
/-- Behind an append of marks to such a row every such row reads what it read. -/
theorem Shares.longer {w w' : World} {e : TypeId} {v : Value} {m t : Value} {n z y : Nat} (h : Shares w w' e v (longer m t n z) (List.replicate y t)) {B2 : Nat} {v2 : Value} {x : Nat} (hr : Row w B2 e v2 (Go.Proofs.YtdmkpfpbhmchpaaDoor.longer m t n x)) : Row w' B2 e v2 (Go.Proofs.YtdmkpfpbhmchpaaDoor.longer m t n x) := by
  refine h B2 v2 _ hr fun _ j h1 h2 h3 => ?_
  rw [longer_len] at h1 h3
  rw [List.length_replicate, longer_len] at h2
  rw [longer_add, longer_at m t h3, longer_at m t (by omega)]
end Go.Proofs.YtdmkpfpbhmchpaaDoor
