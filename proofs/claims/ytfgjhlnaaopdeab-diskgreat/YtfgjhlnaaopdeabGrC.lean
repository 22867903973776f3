/- A disk beside memory that the law writes itself; New as a disk beside others; a write of a mark. -/
import Derived.Test.YtfgjhlnaaopdeabGrB
namespace Go.Proofs.Ytfgjhlnaaopdeab
open Go.RowKit Go.Maps

/-- What changes but one block that is of no disk. -/
theorem Dka.beside {A : Nat → Prop} {w wr w' : World} {B n g : Nat} {P G : Nat → Nat} {D : Nat → AD} {t : TypeId} {cs : List Value} (h : Dka A w wr B n P G D) (hA : Arr wr g t cs) (h1 : t ≠ 77) (h2 : t ≠ 75) (hg : ¬ A g) (hu : Up (fun b => b = g) wr w') : Dka A w w' B n P G D := by
  obtain ⟨gm, V, d1, d2, d3⟩ := h.all
  refine ⟨⟨gm, V, fun j hj => (d1 j hj).up hu (fun b hb e => ?_), d2, d3⟩, h.few, h.kp.trans hu (fun x hx => Or.inl (by subst hx; exact hg)), fun b hb => Nat.lt_of_lt_of_le (h.lt b hb) hu.size⟩
  subst e
  exact ((d1 j hj).tm _ hb _ _ _ hA).elim h1 h2
theorem dka_new {A : Nat → Prop} {w wr : World} {B n m : Nat} {P G : Nat → Nat} {D : Nat → AD} (h : Dka A w wr B n P G D) (h2 : 2 ≤ m) (h6 : m ≤ 65536) :
    Calls Try.prog 24 #[.int .i64 (m : Int)] wr fun e w' => ∃ p, e = .returned (.tuple #[.pointer (some ⟨p, 0, none⟩), .int .i64 0]) ∧ (∃ gl, Dka A w w' B (n + 1) (updF P n p) (updF G n gl) (updF D n (zeroD m))) ∧ Below wr.heap.size wr w' := by
  refine (new_calls h2 h6).mono ?_
  rintro e w' ⟨p, gl, gm, V, rfl, hd, h1, h2, h3, hV, hb⟩
  refine ⟨p, rfl, ⟨gl, h.snoc hb hd ?_ ((Few.zero _).mono (Nat.zero_le _))⟩, hb⟩
  rintro b (rfl | rfl | rfl | ⟨i, hi⟩)
  · exact h1
  · exact h2
  · exact h3
  · rw [hV i] at hi; cases hi
/-- One more write of a sector. -/
theorem gr_write {A : Nat → Prop} {w wr : World} {B n p i j : Nat} {G : Nat → Nat} {D : AD} {h : Nat → Nat} {u : Value} (hd : Dka A w wr B 1 (fun _ => p) G (fun _ => D)) (g : Gr D n h) (hi : i < n) (hj : h i + 1 = j) (hB : B ≤ 1000000000) (hu : Own8 wr 0 u (markL i j)) :
    Calls Try.prog 10 #[.pointer (some ⟨p, 0, none⟩), .int .i64 (i : Int), u] wr fun e w' => e = .returned (.int .i64 0) ∧ (∃ D', Dka A w w' (B + 1) 1 (fun _ => p) G (fun _ => D') ∧ Gr D' n (updF h i j)) ∧ Km wr w' := by
  refine (dka_write (k := 0) (i := i) hd (by decide) rfl (by show i < D.la.length; rw [g.la, List.length_replicate]; exact hi) hB hu (markL_is i j)).mono ?_
  rintro e w' ⟨h1, h2, h3⟩
  exact ⟨h1, ⟨D.write i (markL i j), h2.congr (fun _ _ => rfl) (fun _ _ => rfl) (fun k hk => by rw [show k = 0 by omega]; rfl), g.write hj⟩, h3⟩
end Go.Proofs.Ytfgjhlnaaopdeab
