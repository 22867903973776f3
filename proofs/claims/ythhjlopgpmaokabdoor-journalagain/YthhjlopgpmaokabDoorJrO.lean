/- A disk beside it; what place and Replay answer. -/
import Derived.Test.YthhjlopgpmaokabDoorJrN
import Derived.Test.YthhjlopgpmaokabDoorDkFl
import Derived.Test.YthhjlopgpmaokabDoorKG
namespace Go.Proofs.YthhjlopgpmaokabDoor
open Go.RowKit Go.Maps

def TDk (t : TypeId) : Prop := t = 89 ∨ t = 99
theorem Dk.typ {W : World} {p gl gm : Nat} {V : Nat → Value} {D : AD} (h : Dk W p gl gm V D) {b : Nat} (hb : Ft p gl gm V b) {cs : Array Value} {t : TypeId} {m : Nat × Nat} (ht : W.heap[b]? = some (Obj.cells cs t m)) : TDk t := by
  rcases hb with rfl | rfl | rfl | ⟨i, e⟩
  · have h1 := h.blk
    unfold Arr at h1
    rw [h1] at ht
    simp only [Option.some.injEq, Obj.cells.injEq] at ht
    exact Or.inl ht.2.1.symm
  · rcases h.las.2 with ⟨hv, _⟩ | ⟨g', cap', cur, hv, _, hg, _⟩
    · cases hv
    · injection hv with e1
      injection e1 with e1
      injection e1 with e1
      subst e1
      rw [hg] at ht
      simp only [Option.some.injEq, Obj.cells.injEq] at ht
      exact Or.inr ht.2.1.symm
  · obtain ⟨M, ⟨es, clock, hb, _⟩, _⟩ := h.map
    rw [hb] at ht
    cases ht
  · rcases (h.row i).2 with ⟨hv, _⟩ | ⟨g', cap', cur, hv, _, hg, _⟩
    · rw [hv] at e; cases e
    · rw [hv] at e
      simp only [Value.ownBlock, Option.some.injEq] at e
      subst e
      rw [hg] at ht
      simp only [Option.some.injEq, Obj.cells.injEq] at ht
      exact Or.inr ht.2.1.symm
theorem Cj.of_up {W W' : World} {p gl gm : Nat} {V : Nat → Value} {D : AD} (h : Dk W p gl gm V D) {F : Nat → Prop} (hu : Up F W W') (hF : ∀ b, F b → Ft p gl gm V b) : Cj TDk W W' :=
  ⟨hu.os, hu.tape, hu.output, hu.size, fun k _ _ _ hk ht => (hu.block k (Array.getElem?_eq_some_iff.1 hk).1 (fun e => ht (h.typ (hF k e) hk))).trans hk⟩
/-- A disk that was made behind w0. -/
def Sn (w0 W : World) (p : Nat) (D : AD) : Prop := ∃ gl gm V, Dk W p gl gm V D ∧ (∀ b, Ft p gl gm V b → w0.heap.size ≤ b) ∧ Below w0.heap.size w0 W
theorem Sn.be {w0 W : World} {p : Nat} {D : AD} (h : Sn w0 W p D) : Below w0.heap.size w0 W := by obtain ⟨_, _, _, _, _, h⟩ := h; exact h
theorem Sn.ok {w0 W : World} {p : Nat} {D : AD} (h : Sn w0 W p D) : D.Ok := by obtain ⟨_, _, _, h, _, _⟩ := h; exact h.ok
theorem Sn.below {w0 W W2 : World} {p : Nat} {D : AD} (h : Sn w0 W p D) (hb : Below W.heap.size W W2) : Sn w0 W2 p D := by
  obtain ⟨gl, gm, V, h1, h2, h3⟩ := h
  exact ⟨gl, gm, V, h1.below hb, h2, h3.trans (hb.mono h3.size)⟩
/-- Another block is written. -/
theorem Sn.set {w0 W W2 : World} {p g : Nat} {D : AD} {t : TypeId} {cs : List Value} (h : Sn w0 W p D) (hg : W.grownBy W2 (some g)) (hA : Arr W g t cs) (ht : ¬ TDk t) (hlo : w0.heap.size ≤ g) : Sn w0 W2 p D := by
  obtain ⟨gl, gm, V, h1, h2, h3⟩ := h
  refine ⟨gl, gm, V, h1.up (F := fun b => b = g) (Up.of_grown hg (fun k hk => by injection hk with hk; exact hk.symm)) (fun b hb e => ?_), h2, jbelow_grown h3 hg h3.size hlo⟩
  subst e
  exact ht (h1.typ hb hA)
/-- A row of a call's own is written. -/
theorem Sn.row {w0 W W2 : World} {p B s n : Nat} {D : AD} {t : TypeId} {v : Value} {cs : List Value} (h : Sn w0 W p D) (hg : W.grownBy W2 v.ownBlock) (hr : W.ownsRow B t s v n cs) (ht : ¬ TDk t) (hlo : w0.heap.size ≤ B) : Sn w0 W2 p D := by
  obtain ⟨gl, gm, V, h1, h2, h3⟩ := h
  have hlt := World.ownsRow.lt hr
  refine ⟨gl, gm, V, h1.up (F := fun b => v.ownBlock = some b) (Up.of_grown hg (fun k hk => hk)) (fun b hb e => ?_), h2, h3.grown hg h3.size (fun j hj => Nat.le_trans hlo (hlt j hj).1)⟩
  rcases hr.2 with ⟨rfl, _⟩ | ⟨g, cap, cur, rfl, _, hgg, _⟩
  · cases e
  · simp only [Value.ownBlock, Option.some.injEq] at e
    subst e
    exact ht (h1.typ hb hgg)
theorem sn_read {w0 W : World} {p i : Nat} {D : AD} (h : Sn w0 W p D) (hi : i < D.la.length) (hr0 : 0 ≤ D.rd) (hr1 : D.rd ≤ 1152921504606846976) :
    Calls Tryd.prog 22 #[.pointer (some ⟨p, 0, none⟩), .int .i64 (i : Int)] W fun e w' => ∃ g, e = .returned (.tuple #[.slice (some ⟨g, 0, none⟩) 512 512, .int .i64 0]) ∧ IsB w' (.slice (some ⟨g, 0, none⟩) 512 512) (D.now i) ∧ Sn w0 w' p D.read ∧ Cj TDk W w' := by
  obtain ⟨gl, gm, V, h1, h2, h3⟩ := h
  refine (read_calls h1 hi hr0 hr1).mono ?_
  rintro e w' ⟨g, rfl, hg, hA, hD, hgr⟩
  exact ⟨g, rfl, isB_arrS hA (h1.ok.now hi), ⟨gl, gm, V, hD, h2, jbelow_grown h3 hgr h3.size (h2 p (Or.inl rfl))⟩, Cj.of_grown hgr h1.blk (Or.inl rfl)⟩
theorem sn_sectors {w0 W : World} {p : Nat} {D : AD} (h : Sn w0 W p D) : Calls Tryd.prog 47 #[.pointer (some ⟨p, 0, none⟩)] W fun e w' => e = .returned (.int .i64 (D.la.length : Int)) ∧ w' = W := by
  obtain ⟨gl, gm, V, h1, h2, h3⟩ := h
  exact sectors_calls h1.cells.1
theorem sn_new {w0 W : World} {n : Nat} (hb : Below w0.heap.size w0 W) (h2 : 2 ≤ n) (h6 : n ≤ 65536) : Calls Tryd.prog 9 #[.int .i64 (n : Int)] W fun e w' => ∃ p, e = .returned (.tuple #[.pointer (some ⟨p, 0, none⟩), .int .i64 0]) ∧ Sn w0 w' p (zeroD n) ∧ Below W.heap.size W w' := by
  refine (new_calls h2 h6).mono ?_
  rintro e w' ⟨p, gl, gm, V, rfl, hD, q1, q2, q3, hV, hbb⟩
  have hs := hb.size
  refine ⟨p, rfl, ⟨gl, gm, V, hD, fun b hb2 => ?_, hb.trans (hbb.mono hs)⟩, hbb⟩
  rcases hb2 with rfl | rfl | rfl | ⟨i, e⟩
  · omega
  · omega
  · omega
  · rw [hV i] at e; cases e
set_option maxRecDepth 100000 in
set_option maxHeartbeats 1000000 in
theorem jplace_calls (w : World) {fr n s : Nat} (hn : 1 ≤ n) (hn2 : n ≤ 1024) (hf : fr ≤ 65536) (hs : s ≤ 4000000000000) : Calls Tryd.prog 48 #[.int .i64 (fr : Int), .int .i64 (n : Int), .int .i64 (s : Int)] w fun e w' => e = .returned (.int .i64 ((fr + s % n : Nat) : Int)) ∧ w' = w := by
  have hn0 : ((n : Int) == 0) = false := by simp; omega
  have hm := Nat.mod_lt s (show 0 < n by omega)
  have hr : ((s : Int)).tmod (n : Int) = ((s % n : Nat) : Int) := by rw [Int.tmod_eq_emod_of_nonneg (by omega)]; rfl
  have hr2 : (s : Int) % (n : Int) = ((s % n : Nat) : Int) := rfl
  have HE : Hid (((fr + s % n : Nat) : Int) = (fr : Int) + ((s % n : Nat) : Int)) := hide (by omega)
  rw [HE.out]
  generalize s % n = q at *
  go_enter Tryd.func48, Tryd.ntmps48
  go_wp2
  go_ret
  exact ⟨rfl, rfl⟩
end Go.Proofs.YthhjlopgpmaokabDoor
