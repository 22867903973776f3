/- A call of both disks, one of Read, Write and Turn, while little has been done. -/
import Derived.Test.YtfgjhlnaaopdeaaDkWD
namespace Go.Proofs.Ytfgjhlnaaopdeaa
open Go.RowKit Go.Maps

/-- So little has been done so far. -/
structure Sm (k : Nat) (D : AD) (R : RD) : Prop where
  r0 : 0 ≤ D.rd
  r1 : D.rd ≤ k
  w0 : 0 ≤ D.wt
  w1 : D.wt ≤ k
  wr : ∀ i, (D.wr i).length ≤ k
  rw : R.wr.length ≤ k
  rl : R.la.length ≤ k
theorem Sm.up {k : Nat} {D : AD} {R : RD} (h : Sm k D R) : Sm (k + 1) D R := ⟨h.r0, by have := h.r1; omega, h.w0, by have := h.w1; omega, fun i => by have := h.wr i; omega, by have := h.rw; omega, by have := h.rl; omega⟩
theorem Sm.read {k : Nat} {D : AD} {R : RD} (h : Sm k D R) (x : Int) : Sm (k + 1) (D.readAt x) (R.readAt (rdOf D x)) := by
  obtain ⟨a, b, c, d, e, f, i⟩ := h
  unfold AD.readAt RD.readAt
  by_cases hd : rdOf D x = true
  · rw [if_pos hd]
    exact ⟨by show 0 ≤ D.rd + 1; omega, by show D.rd + 1 ≤ _; omega, c, by show D.wt ≤ _; omega, fun j => by have := e j; show (D.wr j).length ≤ _; omega, by show R.wr.length ≤ _; omega, by show R.la.length ≤ _; omega⟩
  · rw [if_neg hd]
    exact ⟨a, by omega, c, by omega, fun j => by have := e j; omega, by show R.wr.length ≤ _; omega, by show R.la.length ≤ _; omega⟩
theorem Sm.write {k : Nat} {D : AD} {R : RD} (h : Sm k D R) (x : Int) (s : List Int) : Sm (k + 1) (D.writeAt x s) (R.writeAt (writeOk D x s) x s) := by
  unfold AD.writeAt RD.writeAt
  by_cases hd : writeOk D x s = true
  · rw [if_pos hd, if_pos hd]
    obtain ⟨a, b, c, d, e, f, i⟩ := h
    refine ⟨a, by show D.rd ≤ _; omega, by show 0 ≤ D.wt + 1; omega, by show D.wt + 1 ≤ _; omega, fun j => ?_, by simp [RD.write]; omega, by show R.la.length ≤ _; omega⟩
    by_cases ej : j = x.toNat
    · subst ej
      have := e x.toNat
      simp only [AD.write, updF_same, List.length_append, List.length_cons, List.length_nil]
      omega
    · have := e j
      simp only [AD.write, updF_other _ _ ej]
      omega
  · rw [if_neg hd, if_neg hd]; exact h.up
theorem Sm.turn {k : Nat} {D : AD} {R : RD} (h : Sm k D R) (x y : Int) : Sm (k + 1) (D.turnAt x y) (R.turnAt (turnOk D x y) x y) := by
  unfold AD.turnAt RD.turnAt
  by_cases hd : turnOk D x y = true
  · rw [if_pos hd, if_pos hd]
    obtain ⟨a, b, c, d, e, f, i⟩ := h
    refine ⟨a, by show D.rd ≤ _; omega, c, by show D.wt ≤ _; omega, fun j => ?_, by simp [RD.turn]; omega, ?_⟩
    · by_cases ej : j = x.toNat
      · subst ej
        have := e x.toNat
        simp only [AD.turn, updF_same, List.length_map]
        omega
      · have := e j
        simp only [AD.turn, updF_other _ _ ej]
        omega
    · show (putL R.la x _).length ≤ k + 1
      unfold putL
      have := List.length_filter_le (fun a : Int × List Int => a.1 != x) R.la
      simp only [List.length_append, List.length_cons, List.length_nil]
      omega
  · rw [if_neg hd, if_neg hd]; exact h.up
theorem wt_read (D : AD) (x : Int) : (D.readAt x).wt = D.wt := by unfold AD.readAt; split <;> rfl
theorem wt_turn (D : AD) (x y : Int) : (D.turnAt x y).wt = D.wt := by unfold AD.turnAt; split <;> rfl
theorem wt_write (D : AD) (x : Int) (s : List Int) : D.wt ≤ (D.writeAt x s).wt := by unfold AD.writeAt; split <;> simp [AD.write] <;> omega
theorem la_read (D : AD) (x : Int) : (D.readAt x).la.length = D.la.length := by unfold AD.readAt; split <;> rfl
theorem la_turn (D : AD) (x y : Int) : (D.turnAt x y).la.length = D.la.length := by unfold AD.turnAt; split <;> simp [AD.turn]
theorem la_write (D : AD) (x : Int) (s : List Int) : (D.writeAt x s).la.length = D.la.length := by unfold AD.writeAt; split <;> rfl
/-- One call of both. -/
theorem does_small {w : World} {g p gl gm k : Nat} {V : Nat → Value} {D : AD} {R : RD} (h : Pr w g p gl gm V D R) (hm : Sm k D R) (hk : k ≤ 1000) (kd x y z : Int) {vb : Value} {xs : List Int} (hkd : kd = 0 ∨ kd = 1 ∨ kd = 4) (hv1 : IsB w vb xs) (hxl : xs.length ≤ 140737488355328) :
    Calls Try.prog 10 #[.pointer (some ⟨g, 0, none⟩), .agg #[.int .i64 kd, .int .i64 x, .int .i64 y, vb, .int .i64 z, .slice none 0 0]] w fun e w' => e = .returned (.bool true) ∧ ∃ V' D' R', Pr w' g p gl gm V' D' R' ∧ Sm (k + 1) D' R' ∧ D'.la.length = D.la.length ∧ D.wt ≤ D'.wt ∧ (kd = 1 → x = 1 → 2 ≤ D.la.length → z = 0 → 1 ≤ D'.wt) ∧ (∀ b, Ft p gl gm V' b → Ft p gl gm V b ∨ w.heap.size ≤ b) ∧ Up (Fp g p gl gm V) w w' := by
  have e1 := hm.r1
  have e2 := hm.w1
  have e3 := hm.rw
  have e4 := hm.rl
  rcases hkd with rfl | rfl | rfl
  · refine (does_read h x y z vb (.slice none 0 0) hv1.shape ⟨_, _, _, rfl⟩ hm.r0 (by omega)).mono ?_
    rintro e w' ⟨rfl, hP, hU⟩
    exact ⟨rfl, V, _, _, hP, hm.read x, la_read _ _, by rw [wt_read]; exact Int.le_refl _, fun h => absurd h (by decide), fun b hb => Or.inl hb, hU⟩
  · refine (does_write h x y z (.slice none 0 0) hv1 hxl ⟨_, _, _, rfl⟩ (fun i => by have := hm.wr i; omega) (by omega) hm.w0 (by omega)).mono ?_
    rintro e w' ⟨rfl, V', hP, hV, hU⟩
    refine ⟨rfl, V', _, _, hP, hm.write x _, la_write _ _ _, wt_write _ _ _, fun _ hx hl hz => ?_, hV, hU⟩
    subst hx hz
    have hb : bodyOf 0 xs = secOf xs := by unfold bodyOf; rw [if_pos rfl]
    rw [hb]
    have hd := (writeOk_good (D := D) (x := 1) (s := secOf xs) ⟨by decide, by omega⟩ (secOf_is hv1.mem).1).1
    unfold AD.writeAt
    rw [if_pos hd]
    have := hm.w0
    show 1 ≤ D.wt + 1
    omega
  · refine (does_turn h x y z vb (.slice none 0 0) hv1.shape ⟨_, _, _, rfl⟩ (fun i => by have := hm.wr i; omega) (by omega) (by omega)).mono ?_
    rintro e w' ⟨rfl, hP, hU⟩
    exact ⟨rfl, V, _, _, hP, hm.turn x y, la_turn _ _ _, by rw [wt_turn]; exact Int.le_refl _, fun h => absurd h (by decide), fun b hb => Or.inl hb, hU⟩
end Go.Proofs.Ytfgjhlnaaopdeaa
