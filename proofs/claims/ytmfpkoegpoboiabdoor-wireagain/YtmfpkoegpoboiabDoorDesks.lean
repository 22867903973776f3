/- Many desks beside one another. -/
import Derived.Test.YtmfpkoegpoboiabDoorBack1
namespace Go.Proofs.YtmfpkoegpoboiabDoor
open Go.RowKit

/-- Blocks of unlike types are unlike blocks. -/
theorem blk_ne {w : World} {g g' : Nat} {c c' : Array Value} {t t' : TypeId} {f f' : Nat × Nat} (h : w.heap[g]? = some (.cells c t f)) (h' : w.heap[g']? = some (.cells c' t' f')) (ht : t ≠ t') : g ≠ g' := fun e => by
  subst e
  rw [h] at h'
  simp only [Option.some.injEq, Obj.cells.injEq] at h'
  exact ht h'.2.1
theorem Row.blk {w : World} {B g : Nat} {t : TypeId} {v : Value} {xs : List Value} (h : Row w B t v xs) (hg : v.ownBlock = some g) : ∃ c, w.heap[g]? = some (.cells c t (0, 0)) := by
  rcases h.2 with ⟨rfl, _⟩ | ⟨g2, cap, cur, rfl, _, hg2, _⟩
  · simp [Value.ownBlock] at hg
  · simp only [Value.ownBlock, Option.some.injEq] at hg
    subst hg
    exact ⟨cur, hg2⟩
/-- A block that is of another kind than a desk and a room is no part of the desk. -/
theorem Dk.off {w : World} {B g N go : Nat} {room : Value} {xs : List Int} {c : Array Value} {t : TypeId} {f : Nat × Nat} (h : Dk w B g room xs N) (hb : w.heap[go]? = some (.cells c t f)) (h1 : t ≠ 53) (h2 : t ≠ 5) : Off g room go := by
  refine ⟨blk_ne hb h.blk h1, fun e => ?_⟩
  obtain ⟨c', hc'⟩ := h.own.row.blk e
  exact blk_ne hb hc' h2 rfl
theorem Kp.keeps {A : Nat → Prop} {w w' : World} {g : Nat} {o : Obj} (h : Kp A w w') (hg : w.heap[g]? = some o) (hA : A g) : w'.heap[g]? = some o := by
  rw [h.block g (Array.getElem?_eq_some_iff.1 hg).1 hA]; exact hg
/-- m desks, no two of which share a block. -/
structure Dks (w : World) (B m : Nat) (G : Nat → Nat) (Rm : Nat → Value) (X : Nat → List Int) (N : Nat → Nat) : Prop where
  dk : ∀ k, k < m → Dk w B (G k) (Rm k) (X k) (N k)
  lo : ∀ k, k < m → B ≤ G k
  inj : ∀ j k, j < m → k < m → j ≠ k → G j ≠ G k
  ap : ∀ j k, j < m → k < m → j ≠ k → Ap (Rm j) (Rm k)
section
variable {w w' : World} {B m : Nat} {G : Nat → Nat} {Rm : Nat → Value} {X : Nat → List Int} {N : Nat → Nat}
theorem Dk.below {g n : Nat} {room : Value} {xs : List Int} (h : Dk w B g room xs n) (hb : Below w.heap.size w w') : Dk w' B g room xs n :=
  ⟨by rw [hb.block g (Array.getElem?_eq_some_iff.1 h.blk).1]; exact h.blk, h.own.below hb, h.len, h.big⟩
theorem Dk.kp {A : Nat → Prop} {g n : Nat} {room : Value} {xs : List Int} (h : Dk w B g room xs n) (hk : Kp A w w') (h1 : A g) (h2 : ∀ k, room.ownBlock = some k → A k) : Dk w' B g room xs n :=
  ⟨hk.keeps h.blk h1, h.own.kp hk h2, h.len, h.big⟩
theorem Dks.below (h : Dks w B m G Rm X N) (hb : Below w.heap.size w w') : Dks w' B m G Rm X N := ⟨fun k hk => (h.dk k hk).below hb, h.lo, h.inj, h.ap⟩
theorem Dks.keep {A : Nat → Prop} (h : Dks w B m G Rm X N) (hk : Kp A w w') (hA : ∀ k, k < m → A (G k) ∧ ∀ b, (Rm k).ownBlock = some b → A b) : Dks w' B m G Rm X N := ⟨fun k hk2 => (h.dk k hk2).kp hk (hA k hk2).1 (hA k hk2).2, h.lo, h.inj, h.ap⟩
theorem Dks.off (h : Dks w B m G Rm X N) {j k : Nat} (hj : j < m) (hk : k < m) (hne : j ≠ k) : Off (G k) (Rm k) (G j) ∧ ∀ b, (Rm j).ownBlock = some b → Off (G k) (Rm k) b := by
  refine ⟨⟨h.inj j k hj hk hne, fun e => ?_⟩, fun b hb => ⟨fun e => ?_, fun e => ?_⟩⟩
  · obtain ⟨c, hc⟩ := (h.dk k hk).own.row.blk e
    exact blk_ne hc (h.dk j hj).blk (by decide) rfl
  · obtain ⟨c, hc⟩ := (h.dk j hj).own.row.blk hb
    exact blk_ne hc (h.dk k hk).blk (by decide) e
  · rcases h.ap j k hj hk hne with h1 | h1
    · rw [h1] at hb; cases hb
    · exact h1 (hb.trans e.symm)
/-- One desk has changed. -/
theorem Dks.step (h : Dks w B m G Rm X N) {k n : Nat} (hk : k < m) {rm : Value} {ys : List Int} (hkp : Kp (Off (G k) (Rm k)) w w') (hd : Dk w' B (G k) rm ys n) (hl : ∀ b, rm.ownBlock = some b → (Rm k).ownBlock = some b ∨ w.heap.size ≤ b) :
    Dks w' B m G (upd Rm k rm) (upd X k ys) (upd N k n) := by
  refine ⟨fun j hj => ?_, h.lo, h.inj, fun i j hi hj hij => ?_⟩
  · by_cases e : j = k
    · subst e; rw [upd_same, upd_same, upd_same]; exact hd
    · rw [upd_other _ _ e, upd_other _ _ e, upd_other _ _ e]
      have ho := h.off hj hk e
      exact (h.dk j hj).kp hkp ho.1 ho.2
  · have key : ∀ i, i < m → i ≠ k → Ap (Rm i) rm := fun i hi e => by
      unfold Ap
      cases e1 : (Rm i).ownBlock with
      | none => exact Or.inl rfl
      | some b =>
        refine Or.inr fun e2 => ?_
        rcases hl b e2.symm with h1 | h1
        · rcases h.ap i k hi hk e with h2 | h2
          · rw [h2] at e1; cases e1
          · exact h2 (e1.trans h1.symm)
        · have := ((h.dk i hi).own.1.lt b e1).2; omega
    by_cases e : i = k
    · subst e
      rw [upd_same, upd_other _ _ (fun h => hij h.symm)]
      exact (key j hj (fun h => hij h.symm)).symm
    · rw [upd_other _ _ e]
      by_cases e2 : j = k
      · subst e2; rw [upd_same]; exact key i hi e
      · rw [upd_other _ _ e2]; exact h.ap i j hi hj hij
/-- A new desk joins. -/
theorem Dks.add (h : Dks w B m G Rm X N) (hb : Below w.heap.size w w') {g : Nat} (hg : w.heap.size ≤ g) (hB : B ≤ w.heap.size) (hblk : w'.heap[g]? = some (.cells #[.slice none 0 0, .int .i64 0] 53 (0, 0))) :
    Dks w' B (m + 1) (upd G m g) (upd Rm m (.slice none 0 0)) (upd X m []) (upd N m 0) := by
  have hlt : ∀ k, k < m → G k < w.heap.size := fun k hk => (Array.getElem?_eq_some_iff.1 (h.dk k hk).blk).1
  refine ⟨fun k hk => ?_, fun k hk => ?_, fun j k hj hk hjk => ?_, fun j k hj hk hjk => ?_⟩
  · by_cases e : k = m
    · subst e
      rw [upd_same, upd_same, upd_same, upd_same]
      exact ⟨hblk, Own8.nil _ _, by simp, by simp⟩
    · rw [upd_other _ _ e, upd_other _ _ e, upd_other _ _ e, upd_other _ _ e]
      exact (h.dk k (by omega)).below hb
  · by_cases e : k = m
    · subst e; rw [upd_same]; omega
    · rw [upd_other _ _ e]; exact h.lo k (by omega)
  · by_cases e : j = m
    · subst e
      rw [upd_same, upd_other _ _ (fun h => hjk h.symm)]
      have := hlt k (by omega); omega
    · rw [upd_other _ _ e]
      by_cases e2 : k = m
      · subst e2; rw [upd_same]; have := hlt j (by omega); omega
      · rw [upd_other _ _ e2]; exact h.inj j k (by omega) (by omega) hjk
  · by_cases e : j = m
    · subst e; rw [upd_same]; exact Or.inl rfl
    · rw [upd_other _ _ e]
      by_cases e2 : k = m
      · subst e2; rw [upd_same]; exact (show Ap (.slice none 0 0) (Rm j) from Or.inl rfl).symm
      · rw [upd_other _ _ e2]; exact h.ap j k (by omega) (by omega) hjk
end
/-- What the k-th desk has lent. -/
def Lent (Rm : Nat → Value) (X : Nat → List Int) (N : Nat → Nat) (k : Nat) (bs : List Int) (u : Value) : Prop :=
  ∃ g2 R c, Rm k = .slice (some ⟨g2, 0, none⟩) R c ∧ X k = lentL bs R ∧ N k = bs.length ∧ bs.length ≤ R ∧ u = .slice (some ⟨g2, 0, none⟩) bs.length c
theorem Lent.upd {Rm : Nat → Value} {X : Nat → List Int} {N : Nat → Nat} {k j : Nat} {bs ys : List Int} {u rm : Value} {n : Nat} (h : Lent Rm X N k bs u) (hne : k ≠ j) : Lent (Go.Proofs.YtmfpkoegpoboiabDoor.upd Rm j rm) (Go.Proofs.YtmfpkoegpoboiabDoor.upd X j ys) (Go.Proofs.YtmfpkoegpoboiabDoor.upd N j n) k bs u := by
  obtain ⟨g2, R, c, h1, h2, h3, h4, h5⟩ := h
  exact ⟨g2, R, c, by rw [upd_other _ _ hne]; exact h1, by rw [upd_other _ _ hne]; exact h2, by rw [upd_other _ _ hne]; exact h3, h4, h5⟩
theorem Lent.isB {w : World} {B m : Nat} {G : Nat → Nat} {Rm : Nat → Value} {X : Nat → List Int} {N : Nat → Nat} {k : Nat} {bs : List Int} {u : Value} (h : Lent Rm X N k bs u) (hd : Dks w B m G Rm X N) (hk : k < m) : IsB w u bs := by
  obtain ⟨g2, R, c, h1, h2, h3, h4, rfl⟩ := h
  have d := hd.dk k hk
  rw [h1, h2, h3] at d
  have hi := d.own.isB
  obtain ⟨hRl, hRc, hcm, _⟩ := d.own.room
  by_cases h0 : 0 < R
  · have := IsB.first hi (k := bs.length) h4 h0
    rwa [show (lentL bs R).take bs.length = bs by unfold lentL; exact List.take_left] at this
  · have hb0 : bs = [] := List.eq_nil_of_length_eq_zero (by omega)
    subst hb0
    refine ⟨by simp, some ⟨g2, 0, none⟩, c, rfl, by simp, hcm, (fun h => by cases h), fun hp => by simp at hp⟩
end Go.Proofs.YtmfpkoegpoboiabDoor
