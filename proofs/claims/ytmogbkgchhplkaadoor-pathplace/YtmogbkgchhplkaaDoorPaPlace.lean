/- The place, and a path cut off: as lists. -/
import Derived.Test.YtmogbkgchhplkaaDoorPaBack
namespace Go.Proofs.YtmogbkgchhplkaaDoor
open Go.RowKit

theorem lvL_ge : ∀ (r : List UInt8) (q c ah : Nat), q ≤ (lvL r q c ah).1 ∧ (lvL r q c ah).1 ≤ q + r.length
  | [], q, c, ah => by simp [lvL]
  | b :: r, q, c, ah => by
    rw [lvL]
    split
    · simp
    · split
      · split
        · simp
        · have := lvL_ge r (q + 1) 0 (ah + 1); simp; omega
      · split
        · simp
        · have := lvL_ge r (q + 1) (c + 1) ah; simp; omega
theorem dt_dot {b : UInt8} {r : List UInt8} (h : dtL (b :: r) = true) : b = 46 := by
  unfold dtL at h
  simp only [Bool.or_eq_true, decide_eq_true_eq] at h
  rcases h with ((h | h) | h) | h
  · simp at h; exact h.1
  · simp at h; exact h.1
  · simp at h; exact h.1.symm
  · simp at h; exact h.1.symm
theorem lvL_cut : ∀ (r : List UInt8) (q c ah : Nat), (lvL (r.take ((lvL r q c ah).1 - q)) q c ah).1 = (lvL r q c ah).1 ∨ ∃ k, q + k < (lvL r q c ah).1 ∧ (lvL (r.take ((lvL r q c ah).1 - q)) q c ah).1 = q + k ∧ r.getD k 0 = 46
  | [], q, c, ah => by simp [lvL]
  | b :: r, q, c, ah => by
    have stop : lvL (b :: r) q c ah = (q, true) → (lvL ((b :: r).take ((lvL (b :: r) q c ah).1 - q)) q c ah).1 = (lvL (b :: r) q c ah).1 := fun h => by
      rw [h, Nat.sub_self, List.take_zero, lvL]
    have shift : ∀ (c2 a2 : Nat), (b :: r).take ((lvL r (q + 1) c2 a2).1 - q) = b :: r.take ((lvL r (q + 1) c2 a2).1 - (q + 1)) := fun c2 a2 => by
      have := (lvL_ge r (q + 1) c2 a2).1
      rw [show (lvL r (q + 1) c2 a2).1 - q = ((lvL r (q + 1) c2 a2).1 - (q + 1)) + 1 by omega, List.take_succ_cons]
    have up : ∀ (c2 a2 : Nat), ((lvL (r.take ((lvL r (q + 1) c2 a2).1 - (q + 1))) (q + 1) c2 a2).1 = (lvL r (q + 1) c2 a2).1 ∨ ∃ k, q + k < (lvL r (q + 1) c2 a2).1 ∧ (lvL (r.take ((lvL r (q + 1) c2 a2).1 - (q + 1))) (q + 1) c2 a2).1 = q + k ∧ (b :: r).getD k 0 = 46) := fun c2 a2 => by
      rcases lvL_cut r (q + 1) c2 a2 with h | ⟨k, h1, h2, h3⟩
      · exact Or.inl h
      · exact Or.inr ⟨k + 1, by omega, by omega, by simpa using h3⟩
    by_cases h255 : q = 255
    · exact Or.inl (stop (by rw [lvL, if_pos h255]))
    · by_cases hb : b = 47
      · by_cases hc : c = 0 ∨ ah = 15
        · exact Or.inl (stop (by rw [lvL, if_neg h255, if_pos hb, if_pos hc]))
        · have e : ∀ X, lvL (b :: X) q c ah = lvL X (q + 1) 0 (ah + 1) := fun X => by rw [lvL, if_neg h255, if_pos hb, if_neg hc]
          rw [e r, shift, e]
          exact up 0 (ah + 1)
      · by_cases hc : inL b = false ∨ c = 64 ∨ (c = 0 ∧ dtL (b :: r) = true)
        · exact Or.inl (stop (by rw [lvL, if_neg h255, if_neg hb, if_pos hc]))
        · have e : lvL (b :: r) q c ah = lvL r (q + 1) (c + 1) ah := by rw [lvL, if_neg h255, if_neg hb, if_neg hc]
          rw [e, shift]
          have hge := (lvL_ge r (q + 1) (c + 1) ah).1
          by_cases hd : c = 0 ∧ dtL (b :: r.take ((lvL r (q + 1) (c + 1) ah).1 - (q + 1))) = true
          · refine Or.inr ⟨0, by omega, ?_, ?_⟩
            · rw [lvL, if_neg h255, if_neg hb, if_pos (Or.inr (Or.inr hd))]; rfl
            · exact dt_dot hd.2
          · have e2 : lvL (b :: r.take ((lvL r (q + 1) (c + 1) ah).1 - (q + 1))) q c ah = lvL (r.take ((lvL r (q + 1) (c + 1) ah).1 - (q + 1))) (q + 1) (c + 1) ah := by
              rw [lvL, if_neg h255, if_neg hb, if_neg (fun h => h.elim (fun h => hc (Or.inl h)) fun h => h.elim (fun h => hc (Or.inr (Or.inl h))) hd)]
            rw [e2]
            exact up (c + 1) ah
theorem plL_lv (l : List UInt8) : plL l = lvL l 0 0 0 := by
  have := lv_doc l.length l (Nat.le_refl _) 0 0 (by omega)
  rw [Nat.zero_add] at this
  exact this.symm
/-- What stands ahead of the place that is told. -/
theorem place_cut (l : List UInt8) : (plL l).1 ≤ l.length ∧ ((plL (l.take (plL l).1)).1 = (plL l).1 ∨ ((plL (l.take (plL l).1)).1 < (plL l).1 ∧ l.getD (plL (l.take (plL l).1)).1 0 = 46)) := by
  have h1 := lvL_ge l 0 0 0
  have h2 := lvL_cut l 0 0 0
  rw [plL_lv, plL_lv]
  rw [Nat.sub_zero] at h2
  refine ⟨by omega, ?_⟩
  rcases h2 with h | ⟨k, g1, g2, g3⟩
  · exact Or.inl h
  · rw [Nat.zero_add] at g1 g2
    exact Or.inr ⟨by omega, by rw [g2]; exact g3⟩
/-- The last part of a text. -/
def lastL (l : List UInt8) : List UInt8 := (cutL l).getLastD []
theorem cut_split (l : List UInt8) : cutL l = (cutL l).dropLast ++ [lastL l] := by
  unfold lastL
  have h := cutL_ne l
  rw [List.getLastD_eq_getLast?, List.getLast?_eq_some_getLast h, Option.getD_some]
  exact (List.dropLast_concat_getLast h).symm
theorem cut_app2 : ∀ (x y : List UInt8), cutL (x ++ y) = (cutL x).dropLast ++ (lastL x ++ (cutL y).headD []) :: (cutL y).tail
  | [], y => by
    show cutL y = _
    exact (cutL_eta y).symm
  | b :: x, y => by
    have ih := cut_app2 x y
    have hx := cut_split x
    by_cases hb : b = 47
    · subst hb
      rw [List.cons_append, cutL_slash, ih]
      have e1 : (cutL (47 :: x)).dropLast = [] :: (cutL x).dropLast := by
        rw [cutL_slash, List.dropLast_cons_of_ne_nil (cutL_ne x)]
      have e2 : lastL (47 :: x) = lastL x := by
        unfold lastL
        rw [cutL_slash]
        cases h : cutL x with
        | nil => exact absurd h (cutL_ne x)
        | cons p r => rfl
      rw [e1, e2]; rfl
    · rw [List.cons_append, cutL_cons hb, ih]
      cases h : cutL x with
      | nil => exact absurd h (cutL_ne x)
      | cons p r =>
        cases r with
        | nil =>
          have e1 : cutL (b :: x) = [b :: p] := by rw [cutL_cons hb, h]; rfl
          have e2 : lastL x = p := by unfold lastL; rw [h]; rfl
          have e3 : lastL (b :: x) = b :: p := by unfold lastL; rw [e1]; rfl
          rw [e1, e2, e3]; rfl
        | cons p2 r =>
          have e1 : cutL (b :: x) = (b :: p) :: p2 :: r := by rw [cutL_cons hb, h]; rfl
          have e3 : lastL (b :: x) = lastL x := by unfold lastL; rw [e1, h]; rfl
          rw [e1, e3]; rfl
/-- A path that is cut off behind a byte of it: a path, just if its last part is a name yet. -/
theorem cut_off (l : List UInt8) (k : Nat) (h : (plL l).2 = false) : (plL (l.take k)).2 = false ↔ (lastL (l.take k) ≠ [] ∧ lastL (l.take k) ≠ [46] ∧ lastL (l.take k) ≠ [46, 46]) := by
  obtain ⟨h1, h2, h3⟩ := (pl_ok l).1 h
  have hc := cut_app2 (l.take k) (l.drop k)
  rw [List.take_append_drop] at hc
  have hs := cut_split (l.take k)
  rw [pl_ok]
  have hz : nmL (lastL (l.take k) ++ (cutL (l.drop k)).headD []) := h1 _ (by rw [hc]; simp)
  have hlen : (cutL (l.take k)).length ≤ (cutL l).length := by
    rw [hs, hc]; simp
  constructor
  · rintro ⟨g1, _, _⟩
    have := (nmL_iff _).1 (g1 (lastL (l.take k)) (by rw [hs]; simp))
    exact ⟨this.2.2.2.2, this.1, this.2.1⟩
  · rintro ⟨g1, g2, g3⟩
    refine ⟨fun p hp => ?_, by omega, by simp; omega⟩
    rw [hs] at hp
    rcases List.mem_append.1 hp with hp | hp
    · exact h1 p (by rw [hc]; exact List.mem_append_left _ hp)
    · rw [List.mem_singleton.1 hp]
      have hz' := (nmL_iff _).1 hz
      refine (nmL_iff _).2 ⟨g2, g3, fun b hb => hz'.2.2.1 b (List.mem_append_left _ hb), ?_, g1⟩
      have := hz'.2.2.2.1
      rw [List.length_append] at this
      omega
end Go.Proofs.YtmogbkgchhplkaaDoor
