/- A Write of both sides, at any number and any bytes. -/
import Derived.Test.YtfgjhlnaaopdeabDkTD
import Derived.Test.YtfgjhlnaaopdeabDkV
namespace Go.Proofs.Ytfgjhlnaaopdeab
open Go.RowKit Go.Maps

def lenOk (s : List Int) : Bool := decide (s.length = 512)
def wcode (D : AD) (x : Int) (s : List Int) : Int := if rdOf D x = true then (if lenOk s = true then 0 else 32) else 31
def writeOk (D : AD) (x : Int) (s : List Int) : Bool := rdOf D x && lenOk s
def AD.writeAt (D : AD) (x : Int) (s : List Int) : AD := if writeOk D x s = true then D.write x.toNat s else D
def RD.writeAt (R : RD) (b : Bool) (x : Int) (s : List Int) : RD := if b = true then R.write x s else R
theorem writeOk_good {D : AD} {x : Int} {s : List Int} (hx : 0 ≤ x ∧ x < D.la.length) (hy : s.length = 512) : writeOk D x s = true ∧ wcode D x s = 0 := by
  have h1 : rdOf D x = true := by unfold rdOf; exact decide_eq_true hx
  have h2 : lenOk s = true := by unfold lenOk; exact decide_eq_true hy
  exact ⟨by unfold writeOk; rw [h1, h2]; rfl, by unfold wcode; rw [if_pos h1, if_pos h2]⟩
theorem writeOk_out {D : AD} {x : Int} (s : List Int) (hx : ¬ (0 ≤ x ∧ x < D.la.length)) : ¬ writeOk D x s = true ∧ wcode D x s = 31 := by
  have h1 : rdOf D x = false := by unfold rdOf; exact decide_eq_false hx
  exact ⟨by unfold writeOk; rw [h1]; simp, by unfold wcode; rw [if_neg (by rw [h1]; decide)]⟩
theorem writeOk_size {D : AD} {x : Int} {s : List Int} (hx : 0 ≤ x ∧ x < D.la.length) (hy : ¬ s.length = 512) : ¬ writeOk D x s = true ∧ wcode D x s = 32 := by
  have h1 : rdOf D x = true := by unfold rdOf; exact decide_eq_true hx
  have h2 : lenOk s = false := by unfold lenOk; exact decide_eq_false hy
  exact ⟨by unfold writeOk; rw [h1, h2]; decide, by unfold wcode; rw [if_pos h1, if_neg (by rw [h2]; decide)]⟩
theorem Rel.writeAt {D : AD} {R : RD} (h : Rel D R) (x : Int) {s : List Int} (hs : ∀ y ∈ s, 0 ≤ y ∧ y ≤ 255) : Rel (D.writeAt x s) (R.writeAt (writeOk D x s) x s) := by
  unfold AD.writeAt RD.writeAt
  by_cases hd : writeOk D x s = true
  · rw [if_pos hd, if_pos hd]
    unfold writeOk rdOf lenOk at hd
    simp only [Bool.and_eq_true, decide_eq_true_eq] at hd
    obtain ⟨i, rfl⟩ := Int.eq_ofNat_of_zero_le hd.1.1
    exact h.write (by omega) ⟨hd.2, hs⟩
  · rw [if_neg hd, if_neg hd]; exact h
theorem pwrite_any {w : World} {p gl gm B : Nat} {V : Nat → Value} {D : AD} {u : Value} {s : List Int} (h : Dk w p gl gm V D) (x : Int) (hu : Own8 w B u s) (hB : ∀ b, Ft p gl gm V b → b < B) (hwl : ∀ i, (D.wr i).length ≤ 68719476736) (hw0 : 0 ≤ D.wt) (hw1 : D.wt ≤ 1152921504606846976) :
    Calls Try.prog 10 #[.pointer (some ⟨p, 0, none⟩), .int .i64 x, u] w fun e w' => e = .returned (.int .i64 (wcode D x s)) ∧ ∃ V', Dk w' p gl gm V' (D.writeAt x s) ∧ (∀ b, Ft p gl gm V' b → Ft p gl gm V b ∨ w.heap.size ≤ b) ∧ Up (Ft p gl gm V) w w' := by
  by_cases hx : 0 ≤ x ∧ x < D.la.length
  · obtain ⟨i, rfl⟩ := Int.eq_ofNat_of_zero_le hx.1
    by_cases hy : s.length = 512
    · obtain ⟨ht, hc⟩ := writeOk_good hx hy
      obtain ⟨g, c, rfl, hBg, hcell⟩ := hu.head (by omega)
      have hlt := (hu.1.lt g rfl).2
      rw [hc]
      unfold AD.writeAt
      rw [if_pos ht, hy]
      exact write_good (i := i) (bb := g) (bo := 0) h (by omega) hw0 hw1 (hwl i) ⟨hy, hu.2⟩ (fun j v hv => by have := hcell j v hv; cases j <;> simpa [Addr.add] using this) hlt (fun hF => by have := hB g hF; omega)
    · obtain ⟨ht, hc⟩ := writeOk_size hx hy
      obtain ⟨ba, bn, bc, rfl⟩ := hu.isB.shape
      have hn := hu.isB.lenEq
      refine (write_size (i := i) (ba := ba) (bn := bn) (bc := bc) h.cells.1 (by omega) (by omega)).mono ?_
      rintro e w' ⟨rfl, rfl⟩
      exact ⟨by rw [hc], V, by unfold AD.writeAt; rw [if_neg ht]; exact h, fun b hb => Or.inl hb, Up.refl _ _⟩
  · obtain ⟨ht, hc⟩ := writeOk_out s hx
    refine (write_out (x := x) (v := u) h.cells.1 (by omega)).mono ?_
    rintro e w' ⟨rfl, rfl⟩
    exact ⟨by rw [hc], V, by unfold AD.writeAt; rw [if_neg ht]; exact h, fun b hb => Or.inl hb, Up.refl _ _⟩
theorem rwrite_any {w : World} {a1 a2 : Option Addr} {n1 n2 c1 c2 : Nat} {D : AD} {R : RD} {u : Value} {s : List Int} (hR : Rel D R) (x : Int) (h : IsAts w (.slice a2 n2 c2) R.wr) (ha : IsAts w (.slice a1 n1 c1) R.la) (hs : IsB w u s) (hl : R.wr.length ≤ 549755813888) (hw0 : 0 ≤ R.wt) (hw1 : R.wt ≤ 1152921504606846976) :
    Calls Try.prog 41 #[.agg (rdC R.n a1 n1 c1 a2 n2 c2 R.rd R.wt R.fl).toArray, .int .i64 x, u] w fun e w' => ∃ a3 n3 c3 a4 n4 c4, e = .returned (.tuple #[.agg (rdC (R.writeAt (writeOk D x s) x s).n a3 n3 c3 a4 n4 c4 (R.writeAt (writeOk D x s) x s).rd (R.writeAt (writeOk D x s) x s).wt (R.writeAt (writeOk D x s) x s).fl).toArray, .int .i64 (wcode D x s)]) ∧ IsAts w' (.slice a3 n3 c3) (R.writeAt (writeOk D x s) x s).la ∧ IsAts w' (.slice a4 n4 c4) (R.writeAt (writeOk D x s) x s).wr ∧ Below w.heap.size w w' := by
  obtain ⟨ba, bn, bc, rfl⟩ := hs.shape
  have hn := hs.lenEq
  by_cases hx : 0 ≤ x ∧ x < D.la.length
  · by_cases hy : s.length = 512
    · obtain ⟨ht, hc⟩ := writeOk_good hx hy
      have hRe : R.writeAt (writeOk D x s) x s = R.write x s := by unfold RD.writeAt; rw [if_pos ht]
      rw [hRe, hc]
      clear hRe hc ht
      obtain ⟨i, rfl⟩ := Int.eq_ofNat_of_zero_le hx.1
      obtain rfl : bn = 512 := by omega
      refine (rwrite_good (i := i) (n := R.n) (rd := R.rd) (wt := R.wt) (fl := R.fl) (a1 := a1) (n1 := n1) (c1 := c1) h hs (by rw [hR.n]; exact hx.2) hl hw0 hw1).mono ?_
      rintro e w' ⟨a3, n3, c3, rfl, h3, hb⟩
      exact ⟨a1, n1, c1, a3, n3, c3, rfl, ha.below hb, h3, hb⟩
    · obtain ⟨ht, hc⟩ := writeOk_size hx hy
      have hRe : R.writeAt (writeOk D x s) x s = R := by unfold RD.writeAt; rw [if_neg ht]
      rw [hRe, hc]
      clear hRe hc ht
      obtain ⟨i, rfl⟩ := Int.eq_ofNat_of_zero_le hx.1
      refine (rwrite_size (i := i) (n := R.n) (by rw [hR.n]; exact hx.2) (by omega)).mono ?_
      rintro e w' ⟨rfl, hb⟩
      exact ⟨a1, n1, c1, a2, n2, c2, rfl, ha.below hb, h.below hb, hb⟩
  · obtain ⟨ht, hc⟩ := writeOk_out s hx
    have hRe : R.writeAt (writeOk D x s) x s = R := by unfold RD.writeAt; rw [if_neg ht]
    rw [hRe, hc]
    clear hRe hc ht
    refine (rwrite_out (x := x) (n := R.n) (by rw [hR.n]; omega)).mono ?_
    rintro e w' ⟨rfl, hb⟩
    exact ⟨a1, n1, c1, a2, n2, c2, rfl, ha.below hb, h.below hb, hb⟩
end Go.Proofs.Ytfgjhlnaaopdeab
