/- A disk beside it: what is read, written, flushed. -/
import Derived.Test.YtbgknbjpbobebaaDoorJrD
import Derived.Test.YtbgknbjpbobebaaDoorDkFl
import Derived.Test.YtbgknbjpbobebaaDoorKG
import Derived.Test.YtbgknbjpbobebaaDoorKB
import Derived.Test.YtbgknbjpbobebaaDoorKD
namespace Go.Proofs.YtbgknbjpbobebaaDoor
open Go.RowKit Go.Maps

structure Cj (T : TypeId → Prop) (w w' : World) : Prop where
  os : w'.os = w.os
  tape : w'.tape = w.tape
  output : w'.output = w.output
  size : w.heap.size ≤ w'.heap.size
  block : ∀ (k : Nat) (cs : Array Value) (t : TypeId) (m : Nat × Nat), w.heap[k]? = some (Obj.cells cs t m) → ¬ T t → w'.heap[k]? = some (Obj.cells cs t m)
theorem Cj.refl (T : TypeId → Prop) (w : World) : Cj T w w := ⟨rfl, rfl, rfl, Nat.le_refl _, fun _ _ _ _ h _ => h⟩
theorem Cj.trans {T : TypeId → Prop} {a b c : World} (h : Cj T a b) (k : Cj T b c) : Cj T a c :=
  ⟨k.os.trans h.os, k.tape.trans h.tape, k.output.trans h.output, Nat.le_trans h.size k.size, fun i cs t m hi ht => k.block i cs t m (h.block i cs t m hi ht) ht⟩
theorem Cj.of_below {T : TypeId → Prop} {w w' : World} (h : Below w.heap.size w w') : Cj T w w' := ⟨h.os, h.tape, h.output, h.size, fun k _ _ _ hk _ => (h.block k (Array.getElem?_eq_some_iff.1 hk).1).trans hk⟩
theorem Cj.of_grown {T : TypeId → Prop} {w w' : World} {g : Nat} {t : TypeId} {cs : List Value} (hg : w.grownBy w' (some g)) (hA : Arr w g t cs) (ht : T t) : Cj T w w' :=
  ⟨hg.os, hg.tape, hg.output, hg.size, fun k ds t' m hk ht' => (hg.block k (Array.getElem?_eq_some_iff.1 hk).1 (fun e => by
    injection e with e
    subst e
    unfold Arr at hA
    rw [hA] at hk
    simp only [Option.some.injEq, Obj.cells.injEq] at hk
    exact ht' (hk.2.1 ▸ ht))).trans hk⟩
theorem Cj.mono {T T' : TypeId → Prop} {w w' : World} (h : Cj T w w') (ht : ∀ t, T t → T' t) : Cj T' w w' := ⟨h.os, h.tape, h.output, h.size, fun k cs t m hk hn => h.block k cs t m hk (fun e => hn (ht t e))⟩
theorem Arr.cj {T : TypeId → Prop} {w w' : World} {g : Nat} {t : TypeId} {cs : List Value} (h : Arr w g t cs) (hc : Cj T w w') (ht : ¬ T t) : Arr w' g t cs := hc.block g _ t (0, 0) h ht
theorem owns_cj {T : TypeId → Prop} {w w' : World} {B : Nat} {t : TypeId} {s n : Nat} {u : Value} {cs : List Value} (h : w.ownsRow B t s u n cs) (hc : Cj T w w') (ht : ¬ T t) : w'.ownsRow B t s u n cs := by
  refine ⟨h.1, ?_⟩
  rcases h.2 with hn | ⟨g, cap, cur, rfl, hb, hgg, rest⟩
  · exact .inl hn
  · exact .inr ⟨g, cap, cur, rfl, hb, hc.block g _ t (0, 0) hgg ht, rest⟩
theorem Own8.cj {T : TypeId → Prop} {w w' : World} {B : Nat} {v : Value} {xs : List Int} (h : Own8 w B v xs) (hc : Cj T w w') (ht : ¬ T 5) : Own8 w' B v xs := ⟨owns_cj h.1 hc ht, h.2⟩
def TDk (t : TypeId) : Prop := t = 89 ∨ t = 92
theorem Dk.typ {W : World} {p gl gm : Nat} {V : Nat → Value} {D : AD} (h : Dk W p gl gm V D) {b : Nat} (hb : Ft p gl gm V b) {cs : Array Value} {t : TypeId} {m : Nat × Nat} (ht : W.heap[b]? = some (Obj.cells cs t m)) : TDk t := by
  rcases hb with rfl | rfl | rfl | ⟨i, e⟩
  · have h1 := h.blk
    unfold Arr at h1
    rw [h1] at ht
    simp only [Option.some.injEq, Obj.cells.injEq] at ht
    exact Or.inl ht.2.1.symm
  · rcases h.las.2 with ⟨hv, _⟩ | ⟨g', cap', cur, hv, _, hg, _⟩
    · cases hv
    · injection hv with e1
      injection e1 with e1
      injection e1 with e1
      subst e1
      rw [hg] at ht
      simp only [Option.some.injEq, Obj.cells.injEq] at ht
      exact Or.inr ht.2.1.symm
  · obtain ⟨M, ⟨es, clock, hb, _⟩, _⟩ := h.map
    rw [hb] at ht
    cases ht
  · rcases (h.row i).2 with ⟨hv, _⟩ | ⟨g', cap', cur, hv, _, hg, _⟩
    · rw [hv] at e; cases e
    · rw [hv] at e
      simp only [Value.ownBlock, Option.some.injEq] at e
      subst e
      rw [hg] at ht
      simp only [Option.some.injEq, Obj.cells.injEq] at ht
      exact Or.inr ht.2.1.symm
theorem Cj.of_up {W W' : World} {p gl gm : Nat} {V : Nat → Value} {D : AD} (h : Dk W p gl gm V D) {F : Nat → Prop} (hu : Up F W W') (hF : ∀ b, F b → Ft p gl gm V b) : Cj TDk W W' :=
  ⟨hu.os, hu.tape, hu.output, hu.size, fun k _ _ _ hk ht => (hu.block k (Array.getElem?_eq_some_iff.1 hk).1 (fun e => ht (h.typ (hF k e) hk))).trans hk⟩
/-- A disk that was made behind w0. -/
def Sn (w0 W : World) (p : Nat) (D : AD) : Prop := ∃ gl gm V, Dk W p gl gm V D ∧ (∀ b, Ft p gl gm V b → w0.heap.size ≤ b) ∧ Below w0.heap.size w0 W
theorem Sn.be {w0 W : World} {p : Nat} {D : AD} (h : Sn w0 W p D) : Below w0.heap.size w0 W := by obtain ⟨_, _, _, _, _, h⟩ := h; exact h
theorem Sn.ok {w0 W : World} {p : Nat} {D : AD} (h : Sn w0 W p D) : D.Ok := by obtain ⟨_, _, _, h, _, _⟩ := h; exact h.ok
theorem Sn.below {w0 W W2 : World} {p : Nat} {D : AD} (h : Sn w0 W p D) (hb : Below W.heap.size W W2) : Sn w0 W2 p D := by
  obtain ⟨gl, gm, V, h1, h2, h3⟩ := h
  exact ⟨gl, gm, V, h1.below hb, h2, h3.trans (hb.mono h3.size)⟩
/-- Another block is written. -/
theorem Sn.set {w0 W W2 : World} {p g : Nat} {D : AD} {t : TypeId} {cs : List Value} (h : Sn w0 W p D) (hg : W.grownBy W2 (some g)) (hA : Arr W g t cs) (ht : ¬ TDk t) (hlo : w0.heap.size ≤ g) : Sn w0 W2 p D := by
  obtain ⟨gl, gm, V, h1, h2, h3⟩ := h
  refine ⟨gl, gm, V, h1.up (F := fun b => b = g) (Up.of_grown hg (fun k hk => by injection hk with hk; exact hk.symm)) (fun b hb e => ?_), h2, jbelow_grown h3 hg h3.size hlo⟩
  subst e
  exact ht (h1.typ hb hA)
/-- A row of a call's own is written. -/
theorem Sn.row {w0 W W2 : World} {p B s n : Nat} {D : AD} {t : TypeId} {v : Value} {cs : List Value} (h : Sn w0 W p D) (hg : W.grownBy W2 v.ownBlock) (hr : W.ownsRow B t s v n cs) (ht : ¬ TDk t) (hlo : w0.heap.size ≤ B) : Sn w0 W2 p D := by
  obtain ⟨gl, gm, V, h1, h2, h3⟩ := h
  have hlt := World.ownsRow.lt hr
  refine ⟨gl, gm, V, h1.up (F := fun b => v.ownBlock = some b) (Up.of_grown hg (fun k hk => hk)) (fun b hb e => ?_), h2, h3.grown hg h3.size (fun j hj => Nat.le_trans hlo (hlt j hj).1)⟩
  rcases hr.2 with ⟨rfl, _⟩ | ⟨g, cap, cur, rfl, _, hgg, _⟩
  · cases e
  · simp only [Value.ownBlock, Option.some.injEq] at e
    subst e
    exact ht (h1.typ hb hgg)
theorem sn_read {w0 W : World} {p i : Nat} {D : AD} (h : Sn w0 W p D) (hi : i < D.la.length) (hr0 : 0 ≤ D.rd) (hr1 : D.rd ≤ 1152921504606846976) :
    Calls Tryd.prog 69 #[.pointer (some ⟨p, 0, none⟩), .int .i64 (i : Int)] W fun e w' => ∃ g, e = .returned (.tuple #[.slice (some ⟨g, 0, none⟩) 512 512, .int .i64 0]) ∧ IsB w' (.slice (some ⟨g, 0, none⟩) 512 512) (D.now i) ∧ Sn w0 w' p D.read ∧ Cj TDk W w' := by
  obtain ⟨gl, gm, V, h1, h2, h3⟩ := h
  refine (read_calls h1 hi hr0 hr1).mono ?_
  rintro e w' ⟨g, rfl, hg, hA, hD, hgr⟩
  exact ⟨g, rfl, isB_arrS hA (h1.ok.now hi), ⟨gl, gm, V, hD, h2, jbelow_grown h3 hgr h3.size (h2 p (Or.inl rfl))⟩, Cj.of_grown hgr h1.blk (Or.inl rfl)⟩
theorem sn_sectors {w0 W : World} {p : Nat} {D : AD} (h : Sn w0 W p D) : Calls Tryd.prog 50 #[.pointer (some ⟨p, 0, none⟩)] W fun e w' => e = .returned (.int .i64 (D.la.length : Int)) ∧ w' = W := by
  obtain ⟨gl, gm, V, h1, h2, h3⟩ := h
  exact sectors_calls h1.cells.1
theorem sn_new {w0 W : World} {n : Nat} (hb : Below w0.heap.size w0 W) (h2 : 2 ≤ n) (h6 : n ≤ 65536) : Calls Tryd.prog 12 #[.int .i64 (n : Int)] W fun e w' => ∃ p, e = .returned (.tuple #[.pointer (some ⟨p, 0, none⟩), .int .i64 0]) ∧ Sn w0 w' p (zeroD n) ∧ Below W.heap.size W w' := by
  refine (new_calls h2 h6).mono ?_
  rintro e w' ⟨p, gl, gm, V, rfl, hD, q1, q2, q3, hV, hbb⟩
  have hs := hb.size
  refine ⟨p, rfl, ⟨gl, gm, V, hD, fun b hb2 => ?_, hb.trans (hbb.mono hs)⟩, hbb⟩
  rcases hb2 with rfl | rfl | rfl | ⟨i, e⟩
  · omega
  · omega
  · omega
  · rw [hV i] at e; cases e
theorem sn_write {w0 W : World} {p i B : Nat} {D : AD} {v : Value} {s : List Int} (h : Sn w0 W p D) (hi : i < D.la.length) (hw0 : 0 ≤ D.wt) (hw1 : D.wt ≤ 1152921504606846976) (hwl : (D.wr i).length ≤ 68719476736) (hs : IsSec s) (ho : Own8 W B v s) :
    Calls Tryd.prog 14 #[.pointer (some ⟨p, 0, none⟩), .int .i64 (i : Int), v] W fun e w' => e = .returned (.int .i64 0) ∧ Sn w0 w' p (D.write i s) ∧ Cj TDk W w' := by
  obtain ⟨gl, gm, V, h1, h2, h3⟩ := h
  rcases ho.1.2 with ⟨rfl, h0⟩ | ⟨g, cap, cur, rfl, hb, hg, hle, hm, hsz, htk⟩
  · have := hs.1; omega
  · have hr : W.rangeAt g 0 (u8V s) := fun j u hu => by
      have := World.ownsRow.cells (g := g) ho.1 rfl j u hu
      rw [Addr.add_lit] at this
      exact this
    have hF : ¬ Ft p gl gm V g := fun hF => by
      have := h1.typ hF hg
      unfold TDk at this
      revert this
      decide
    rw [hs.1]
    refine (write_good h1 hi hw0 hw1 hwl hs hr (Array.getElem?_eq_some_iff.1 hg).1 hF).mono ?_
    rintro e w' ⟨rfl, V', q1, q2, q3⟩
    refine ⟨rfl, ⟨gl, gm, V', q1, fun b hb2 => ?_, h3.trans (q3.below h3.size h2)⟩, Cj.of_up h1 q3 (fun _ h => h)⟩
    rcases q2 b hb2 with hb2 | hb2
    · exact h2 b hb2
    · exact Nat.le_trans h3.size hb2
theorem sn_flush {w0 W : World} {p : Nat} {D : AD} (h : Sn w0 W p D) (hwl : ∀ i, (D.wr i).length ≤ 68719476736) (hf0 : 0 ≤ D.fl) (hf1 : D.fl ≤ 1152921504606846976) :
    Calls Tryd.prog 17 #[.pointer (some ⟨p, 0, none⟩)] W fun e w' => e = .returned (.tuple #[]) ∧ Sn w0 w' p D.flush ∧ Cj TDk W w' := by
  obtain ⟨gl, gm, V, h1, h2, h3⟩ := h
  refine (flush_calls h1 hwl hf0 hf1).mono ?_
  rintro e w' ⟨rfl, gm', q1, q2, q3⟩
  have hlo : ∀ b, b = p ∨ b = gl → w0.heap.size ≤ b := fun b hb => h2 b (hb.imp_right Or.inl)
  refine ⟨rfl, ⟨gl, gm', _, q2, fun b hb => ?_, h3.trans (q3.below h3.size hlo)⟩, Cj.of_up h1 q3 (fun b hb => hb.imp_right Or.inl)⟩
  rcases hb with rfl | rfl | rfl | ⟨i, e⟩
  · exact hlo _ (Or.inl rfl)
  · exact hlo _ (Or.inr rfl)
  · exact Nat.le_trans h3.size q1
  · cases e
/-- A disk that was read so often. -/
def AD.sds (D : AD) (m : Nat) : AD := { D with rd := D.rd + m }
theorem AD.sds_zero (D : AD) : D.sds 0 = D := by
  unfold AD.sds
  simp
theorem AD.sds_one (D : AD) (m : Nat) : (D.sds m).read = D.sds (m + 1) := by
  unfold AD.sds AD.read
  simp [Int.add_assoc]
end Go.Proofs.YtbgknbjpbobebaaDoor
