/- A Turn of both sides, at any numbers. -/
import Derived.Test.YtfgjhlnaaopdeaaDkTR
namespace Go.Proofs.Ytfgjhlnaaopdeaa
open Go.RowKit Go.Maps

/-- What a Turn answers. -/
def bitOk (y : Int) : Bool := decide (0 ≤ y ∧ y < 4096)
def tcode (D : AD) (x y : Int) : Int := if rdOf D x = true then (if bitOk y = true then 0 else 1) else 31
def turnOk (D : AD) (x y : Int) : Bool := rdOf D x && bitOk y
def AD.turnAt (D : AD) (x y : Int) : AD := if turnOk D x y = true then D.turn x.toNat y.toNat else D
def RD.turnAt (R : RD) (b : Bool) (x y : Int) : RD := if b = true then R.turn x y.toNat else R
theorem turnOk_good {D : AD} {x y : Int} (hx : 0 ≤ x ∧ x < D.la.length) (hy : 0 ≤ y ∧ y < 4096) : turnOk D x y = true ∧ tcode D x y = 0 := by
  have h1 : rdOf D x = true := by unfold rdOf; exact decide_eq_true hx
  have h2 : bitOk y = true := by unfold bitOk; exact decide_eq_true hy
  exact ⟨by unfold turnOk; rw [h1, h2]; rfl, by unfold tcode; rw [if_pos h1, if_pos h2]⟩
theorem turnOk_out {D : AD} {x : Int} (y : Int) (hx : ¬ (0 ≤ x ∧ x < D.la.length)) : ¬ turnOk D x y = true ∧ tcode D x y = 31 := by
  have h1 : rdOf D x = false := by unfold rdOf; exact decide_eq_false hx
  exact ⟨by unfold turnOk; rw [h1]; simp, by unfold tcode; rw [if_neg (by rw [h1]; decide)]⟩
theorem turnOk_arg {D : AD} {x y : Int} (hx : 0 ≤ x ∧ x < D.la.length) (hy : ¬ (0 ≤ y ∧ y < 4096)) : ¬ turnOk D x y = true ∧ tcode D x y = 1 := by
  have h1 : rdOf D x = true := by unfold rdOf; exact decide_eq_true hx
  have h2 : bitOk y = false := by unfold bitOk; exact decide_eq_false hy
  exact ⟨by unfold turnOk; rw [h1, h2]; decide, by unfold tcode; rw [if_pos h1, if_neg (by rw [h2]; decide)]⟩
theorem Rel.turnAt {D : AD} {R : RD} (h : Rel D R) (x y : Int) : Rel (D.turnAt x y) (R.turnAt (turnOk D x y) x y) := by
  unfold AD.turnAt RD.turnAt
  by_cases hd : turnOk D x y = true
  · rw [if_pos hd, if_pos hd]
    unfold turnOk rdOf bitOk at hd
    simp only [Bool.and_eq_true, decide_eq_true_eq] at hd
    obtain ⟨i, rfl⟩ := Int.eq_ofNat_of_zero_le hd.1.1
    exact h.turn (by omega) (by omega)
  · rw [if_neg hd, if_neg hd]; exact h
theorem pturn_any {w : World} {p gl gm : Nat} {V : Nat → Value} {D : AD} (h : Dk w p gl gm V D) (x y : Int) (hwl : ∀ i, (D.wr i).length ≤ 68719476736) :
    Calls Try.prog 35 #[.pointer (some ⟨p, 0, none⟩), .int .i64 x, .int .i64 y] w fun e w' => e = .returned (.int .i64 (tcode D x y)) ∧ Dk w' p gl gm V (D.turnAt x y) ∧ Up (Ft p gl gm V) w w' := by
  by_cases hx : 0 ≤ x ∧ x < D.la.length
  · by_cases hy : 0 ≤ y ∧ y < 4096
    · obtain ⟨ht, hc⟩ := turnOk_good hx hy
      obtain ⟨i, rfl⟩ := Int.eq_ofNat_of_zero_le hx.1
      obtain ⟨b, rfl⟩ := Int.eq_ofNat_of_zero_le hy.1
      refine (turn_good (i := i) (bit := b) h (by omega) (by omega) (hwl i)).mono ?_
      rintro e w' ⟨rfl, hD, hU⟩
      refine ⟨by rw [hc], ?_, hU⟩
      unfold AD.turnAt
      rw [if_pos ht]
      exact hD
    · obtain ⟨ht, hc⟩ := turnOk_arg hx hy
      obtain ⟨i, rfl⟩ := Int.eq_ofNat_of_zero_le hx.1
      refine (turn_arg (i := i) (y := y) h.cells.1 (by omega) (by omega)).mono ?_
      rintro e w' ⟨rfl, rfl⟩
      exact ⟨by rw [hc], by unfold AD.turnAt; rw [if_neg ht]; exact h, Up.refl _ _⟩
  · obtain ⟨ht, hc⟩ := turnOk_out y hx
    refine (turn_out (x := x) (y := y) h.cells.1 (by omega)).mono ?_
    rintro e w' ⟨rfl, rfl⟩
    exact ⟨by rw [hc], by unfold AD.turnAt; rw [if_neg ht]; exact h, Up.refl _ _⟩
theorem rturn_any {w : World} {a1 a2 : Option Addr} {n1 n2 c1 c2 : Nat} {D : AD} {R : RD} (hR : Rel D R) (x y : Int) (h : IsAts w (.slice a2 n2 c2) R.wr) (ha : IsAts w (.slice a1 n1 c1) R.la) (hl : R.wr.length ≤ 549755813888) (hla : R.la.length ≤ 549755813888) :
    Calls Try.prog 34 #[.agg (rdC R.n a1 n1 c1 a2 n2 c2 R.rd R.wt R.fl).toArray, .int .i64 x, .int .i64 y] w fun e w' => ∃ a3 n3 c3 a4 n4 c4, e = .returned (.tuple #[.agg (rdC (R.turnAt (turnOk D x y) x y).n a3 n3 c3 a4 n4 c4 (R.turnAt (turnOk D x y) x y).rd (R.turnAt (turnOk D x y) x y).wt (R.turnAt (turnOk D x y) x y).fl).toArray, .int .i64 (tcode D x y)]) ∧ IsAts w' (.slice a3 n3 c3) (R.turnAt (turnOk D x y) x y).la ∧ IsAts w' (.slice a4 n4 c4) (R.turnAt (turnOk D x y) x y).wr ∧ Below w.heap.size w w' := by
  by_cases hx : 0 ≤ x ∧ x < D.la.length
  · by_cases hy : 0 ≤ y ∧ y < 4096
    · obtain ⟨ht, hc⟩ := turnOk_good hx hy
      have hRe : R.turnAt (turnOk D x y) x y = R.turn x y.toNat := by unfold RD.turnAt; rw [if_pos ht]
      rw [hRe, hc]
      clear hRe hc ht
      obtain ⟨i, rfl⟩ := Int.eq_ofNat_of_zero_le hx.1
      obtain ⟨b, rfl⟩ := Int.eq_ofNat_of_zero_le hy.1
      refine (rturn_first (i := i) (bit := b) (n := R.n) (rd := R.rd) (wt := R.wt) (fl := R.fl) h ha hR.lok hR.wok (by rw [hR.n]; exact hx.2) (by omega) hl hla).mono ?_
      rintro e w' ⟨a3, n3, c3, a4, n4, c4, rfl, h3, h4, hb⟩
      exact ⟨a3, n3, c3, a4, n4, c4, rfl, h3, h4, hb⟩
    · obtain ⟨ht, hc⟩ := turnOk_arg hx hy
      have hRe : R.turnAt (turnOk D x y) x y = R := by unfold RD.turnAt; rw [if_neg ht]
      rw [hRe, hc]
      clear hRe hc ht
      obtain ⟨i, rfl⟩ := Int.eq_ofNat_of_zero_le hx.1
      refine (rturn_arg (i := i) (y := y) (n := R.n) (by rw [hR.n]; exact hx.2) (by omega)).mono ?_
      rintro e w' ⟨rfl, hb⟩
      exact ⟨a1, n1, c1, a2, n2, c2, rfl, ha.below hb, h.below hb, hb⟩
  · obtain ⟨ht, hc⟩ := turnOk_out y hx
    have hRe : R.turnAt (turnOk D x y) x y = R := by unfold RD.turnAt; rw [if_neg ht]
    rw [hRe, hc]
    clear hRe hc ht
    refine (rturn_out (x := x) (y := y) (n := R.n) (by rw [hR.n]; omega)).mono ?_
    rintro e w' ⟨rfl, hb⟩
    exact ⟨a1, n1, c1, a2, n2, c2, rfl, ha.below hb, h.below hb, hb⟩
end Go.Proofs.Ytfgjhlnaaopdeaa
