/- Any call of both disks; DiskPlays, walked whole. -/
import Derived.Test.YtfgjhlnaaopdeaaDkD5
import Derived.Test.YtfgjhlnaaopdeaaDkBd
namespace Go.Proofs.Ytfgjhlnaaopdeaa
open Go.RowKit Go.Maps

/-- So little has been done so far. -/
structure Bp (k : Nat) (D : AD) (R : RD) : Prop where
  rd : 0 ≤ D.rd ∧ D.rd ≤ k
  wt : 0 ≤ D.wt ∧ D.wt ≤ k
  fl : 0 ≤ D.fl ∧ D.fl ≤ k
  wr : ∀ i, (D.wr i).length ≤ k
  rw : R.wr.length ≤ k
  rl : R.la.length ≤ 300 * k + 300
theorem Bp.up {k : Nat} {D : AD} {R : RD} (h : Bp k D R) : Bp (k + 1) D R := ⟨by have := h.rd; omega, by have := h.wt; omega, by have := h.fl; omega, fun i => by have := h.wr i; omega, by have := h.rw; omega, by have := h.rl; omega⟩
theorem Bp.read {k : Nat} {D : AD} {R : RD} (h : Bp k D R) (x : Int) : Bp (k + 1) (D.readAt x) (R.readAt (rdOf D x)) := by
  unfold AD.readAt RD.readAt
  by_cases hd : rdOf D x = true
  · rw [if_pos hd, if_pos hd]
    have h1 := h.rd
    have h2 := h.up
    exact ⟨⟨by show 0 ≤ D.rd + 1; omega, by show D.rd + 1 ≤ _; omega⟩, h2.wt, h2.fl, h2.wr, h2.rw, h2.rl⟩
  · rw [if_neg hd, if_neg hd]; exact h.up
theorem Bp.write {k : Nat} {D : AD} {R : RD} (h : Bp k D R) (x : Int) (s : List Int) : Bp (k + 1) (D.writeAt x s) (R.writeAt (writeOk D x s) x s) := by
  unfold AD.writeAt RD.writeAt
  by_cases hd : writeOk D x s = true
  · rw [if_pos hd, if_pos hd]
    have h1 := h.wt
    have h2 := h.up
    refine ⟨h2.rd, ⟨by show 0 ≤ D.wt + 1; omega, by show D.wt + 1 ≤ _; omega⟩, h2.fl, fun j => ?_, by have := h.rw; simp [RD.write]; omega, h2.rl⟩
    by_cases ej : j = x.toNat
    · subst ej
      have := h.wr x.toNat
      simp only [AD.write, updF_same, List.length_append, List.length_cons, List.length_nil]
      omega
    · have := h.wr j
      simp only [AD.write, updF_other _ _ ej]
      omega
  · rw [if_neg hd, if_neg hd]; exact h.up
theorem Bp.turn {k : Nat} {D : AD} {R : RD} (h : Bp k D R) (x y : Int) : Bp (k + 1) (D.turnAt x y) (R.turnAt (turnOk D x y) x y) := by
  unfold AD.turnAt RD.turnAt
  by_cases hd : turnOk D x y = true
  · rw [if_pos hd, if_pos hd]
    have h2 := h.up
    refine ⟨h2.rd, h2.wt, h2.fl, fun j => ?_, by have := h.rw; simp [RD.turn]; omega, ?_⟩
    · by_cases ej : j = x.toNat
      · subst ej
        have := h.wr x.toNat
        simp only [AD.turn, updF_same, List.length_map]
        omega
      · have := h.wr j
        simp only [AD.turn, updF_other _ _ ej]
        omega
    · show (putL R.la x _).length ≤ _
      have := putL_len R.la x (turnB (lastOf R.la x) y.toNat)
      have := h.rl
      omega
  · rw [if_neg hd, if_neg hd]; exact h.up
theorem Bp.flush {k : Nat} {D : AD} {R : RD} (h : Bp k D R) (hk : k ≤ 200) : Bp (k + 1) D.flush R.flush := by
  have h2 := h.up
  have h3 := h.fl
  refine ⟨h2.rd, h2.wt, ⟨by show 0 ≤ D.fl + 1; omega, by show D.fl + 1 ≤ _; omega⟩, fun i => by simp [AD.flush, AD.settle], by simp [RD.flush], ?_⟩
  show (RD.flushL R.la R.wr).length ≤ _
  have := flushL_len R.la R.wr
  have := h.rl
  have := h.rw
  omega
theorem laAfter_rlen (R : RD) (ks : List Nat) (fate : Nat → Int) : ∀ k, (R.laAfter ks fate k).length ≤ R.la.length + k
  | 0 => Nat.le_refl _
  | k + 1 => by
    have ih := laAfter_rlen R ks fate k
    rw [RD.laAfter]
    split
    · have := putL_len (R.laAfter ks fate k) ((ks.getD k 0 : Nat) : Int) (pickW (ofN R.wr ((ks.getD k 0 : Nat) : Int)) (fate k))
      omega
    · omega
theorem Bp.crash {k : Nat} {D : AD} {R : RD} (h : Bp k D R) (hn : D.la.length ≤ 64) (fate : Nat → Int) : Bp (k + 1) (D.settle fate) (R.crash D.keys fate) := by
  have h2 := h.up
  refine ⟨h2.rd, h2.wt, h2.fl, fun i => by simp [AD.settle], by simp [RD.crash], ?_⟩
  show (R.laAfter D.keys fate D.keys.length).length ≤ _
  have h1 := laAfter_rlen R D.keys fate D.keys.length
  have h3 : D.keys.length ≤ (List.range D.la.length).length := List.length_filter_le _ _
  rw [List.length_range] at h3
  have := h.rl
  omega
theorem Bp.load {k : Nat} {D : AD} (hn : D.la.length ≤ 64) : Bp (k + 1) ⟨D.la, fun _ => [], 0, 0, 0⟩ ⟨D.la.length, atsOf D.la, [], 0, 0, 0⟩ := by
  refine ⟨⟨Int.le_refl _, ?_⟩, ⟨Int.le_refl _, ?_⟩, ⟨Int.le_refl _, ?_⟩, fun _ => Nat.zero_le _, Nat.zero_le _, ?_⟩
  · show (0 : Int) ≤ _; omega
  · show (0 : Int) ≤ _; omega
  · show (0 : Int) ≤ _; omega
  · show (atsOf D.la).length ≤ _
    rw [atsOf_len]
    omega
/-- A call of a script. -/
structure OpD where
  k : Int
  x : Int
  y : Int
  z : Int
  vb : Value
  vf : Value
  bs : List Int
  xs : List Int
def OpD.nul : OpD := ⟨0, 0, 0, 0, .slice none 0 0, .slice none 0 0, [], []⟩
def OpD.cells (o : OpD) : List Value := [.int .i64 o.k, .int .i64 o.x, .int .i64 o.y, o.vb, .int .i64 o.z, o.vf]
structure OpD.ok (o : OpD) (w : World) : Prop where
  b : IsB w o.vb o.bs
  f : IsI w o.vf o.xs
  lb : o.bs.length ≤ 140737488355328
theorem OpD.ok.below {o : OpD} {w w' : World} (h : o.ok w) (hb : Below w.heap.size w w') : o.ok w' := ⟨h.b.below hb, h.f.below hb, h.lb⟩
set_option maxRecDepth 100000 in
set_option maxHeartbeats 4000000 in
theorem does_none {w : World} {g : Nat} {k x y z : Int} (hk : k ≠ 0 ∧ k ≠ 1 ∧ k ≠ 2 ∧ k ≠ 3 ∧ k ≠ 4 ∧ k ≠ 5 ∧ k ≠ 6 ∧ k ≠ 7) (vb vf : Value) (hv1 : ∃ a n c, vb = .slice a n c) (hv2 : ∃ a n c, vf = .slice a n c) :
    Calls Try.prog 10 #[.pointer (some ⟨g, 0, none⟩), .agg #[.int .i64 k, .int .i64 x, .int .i64 y, vb, .int .i64 z, vf]] w fun e w' => e = .returned (.bool true) ∧ Below w.heap.size w w' := by
  obtain ⟨ba, bn, bc, rfl⟩ := hv1
  obtain ⟨fa, fn, fc, rfl⟩ := hv2
  obtain ⟨k0, k1, k2, k3, k4, k5, k6, k7⟩ := hk
  have hb1 := (Below.refl w.heap.size w).alloc (Nat.le_refl _) (.cells #[.int .i64 k, .int .i64 x, .int .i64 y, .slice ba bn bc, .int .i64 z, .slice fa fn fc] 30)
  have HB1 := hide hb1
  clear hb1
  go_enter Try.func10, Try.ntmps10
  go_wp2
  go_ret
  exact ⟨rfl, HB1.out⟩
theorem shapeI {w : World} {v : Value} {xs : List Int} (h : IsI w v xs) : ∃ a n c, v = .slice a n c := by obtain ⟨_, a, c, hv, _⟩ := h; exact ⟨_, _, _, hv⟩
/-- Any call of both. -/
theorem does_any {w : World} {g p gl gm k : Nat} {V : Nat → Value} {D : AD} {R : RD} {o : OpD} (h : Pr w g p gl gm V D R) (hB : Bp k D R) (hk : k ≤ 200) (hn : D.la.length ≤ 64) (hok : o.ok w) (hfar : ∀ b, Value.inBlock o.vf b → ¬ Fp g p gl gm V b) :
    Calls Try.prog 10 #[.pointer (some ⟨g, 0, none⟩), .agg o.cells.toArray] w fun e w' => e = .returned (.bool true) ∧ ∃ p' gl' gm' V' D' R', Pr w' g p' gl' gm' V' D' R' ∧ Bp (k + 1) D' R' ∧ D'.la.length = D.la.length ∧ (∀ b, Ft p' gl' gm' V' b → Ft p gl gm V b ∨ w.heap.size ≤ b) ∧ Up (Fp g p gl gm V) w w' := by
  obtain ⟨kd, x, y, z, vb, vf, bs, xs⟩ := o
  have hb := hok.b
  have hf := hok.f
  have hlb := hok.lb
  simp only at hb hf hlb hfar
  have h1 := hB.rd
  have h2 := hB.wt
  have h3 := hB.fl
  have h4 := hB.rw
  have h5 := hB.rl
  have h6 : ∀ i, (D.wr i).length ≤ 68719476736 := fun i => by have := hB.wr i; omega
  show Calls Try.prog 10 #[.pointer (some ⟨g, 0, none⟩), .agg #[.int .i64 kd, .int .i64 x, .int .i64 y, vb, .int .i64 z, vf]] w _
  by_cases e0 : kd = 0
  · subst e0
    refine (does_read h x y z vb vf hb.shape (shapeI hf) h1.1 (by omega)).mono ?_
    rintro e w' ⟨rfl, hP, hU⟩
    exact ⟨rfl, p, gl, gm, V, _, _, hP, hB.read x, la_read _ _, fun b hb => Or.inl hb, hU⟩
  by_cases e1 : kd = 1
  · subst e1
    refine (does_write h x y z vf hb hlb (shapeI hf) h6 (by omega) h2.1 (by omega)).mono ?_
    rintro e w' ⟨rfl, V', hP, hV, hU⟩
    exact ⟨rfl, p, gl, gm, V', _, _, hP, hB.write x _, la_write _ _ _, hV, hU⟩
  by_cases e2 : kd = 2
  · subst e2
    refine (does_flush h x y z vb vf hb.shape (shapeI hf) h6 (by omega) h3.1 (by omega)).mono ?_
    rintro e w' ⟨rfl, gm', hP, hg, hU⟩
    refine ⟨rfl, p, gl, gm', _, _, _, hP, hB.flush hk, AD.laAfter_len D _ _, ?_, hU⟩
    rintro b (rfl | rfl | rfl | ⟨i, hi⟩)
    · exact Or.inl (Or.inl rfl)
    · exact Or.inl (Or.inr (Or.inl rfl))
    · exact Or.inr hg
    · cases hi
  by_cases e3 : kd = 3
  · subst e3
    refine (does_crash h x y z vb vf hb.shape hf hfar h6 (by omega)).mono ?_
    rintro e w' ⟨rfl, gm', hP, hg, hU⟩
    refine ⟨rfl, p, gl, gm', _, _, _, hP, hB.crash hn _, AD.laAfter_len D _ _, ?_, hU⟩
    rintro b (rfl | rfl | rfl | ⟨i, hi⟩)
    · exact Or.inl (Or.inl rfl)
    · exact Or.inl (Or.inr (Or.inl rfl))
    · exact Or.inr hg
    · cases hi
  by_cases e4 : kd = 4
  · subst e4
    refine (does_turn h x y z vb vf hb.shape (shapeI hf) h6 (by omega) (by omega)).mono ?_
    rintro e w' ⟨rfl, hP, hU⟩
    exact ⟨rfl, p, gl, gm, V, _, _, hP, hB.turn x y, la_turn _ _ _, fun b hb => Or.inl hb, hU⟩
  by_cases e5 : kd = 5
  · subst e5
    refine (does_image h x y z vb vf hb.shape (shapeI hf)).mono ?_
    rintro e w' ⟨rfl, hb'⟩
    exact ⟨rfl, p, gl, gm, V, _, _, h.below hb', hB.up, rfl, fun b hb => Or.inl hb, Up.of_below hb'⟩
  by_cases e6 : kd = 6
  · subst e6
    refine (does_sectors h x y z vb vf hb.shape (shapeI hf)).mono ?_
    rintro e w' ⟨rfl, hb'⟩
    exact ⟨rfl, p, gl, gm, V, _, _, h.below hb', hB.up, rfl, fun b hb => Or.inl hb, Up.of_below hb'⟩
  by_cases e7 : kd = 7
  · subst e7
    refine (does_load h x y z vb vf hb.shape (shapeI hf)).mono ?_
    rintro e w' ⟨rfl, p', gl', gm', V', hP, hft, hU⟩
    exact ⟨rfl, p', gl', gm', V', _, _, hP, Bp.load hn, rfl, fun b hb => Or.inr (hft b hb), hU⟩
  · refine (does_none ⟨e0, e1, e2, e3, e4, e5, e6, e7⟩ vb vf hb.shape (shapeI hf)).mono ?_
    rintro e w' ⟨rfl, hb'⟩
    exact ⟨rfl, p, gl, gm, V, _, _, h.below hb', hB.up, rfl, fun b hb => Or.inl hb, Up.of_below hb'⟩
end Go.Proofs.Ytfgjhlnaaopdeaa
