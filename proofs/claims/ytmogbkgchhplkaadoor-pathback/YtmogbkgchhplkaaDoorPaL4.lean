/- A name, both ways; texts laid behind one another. -/
import Derived.Test.YtmogbkgchhplkaaDoorPaWrong
namespace Go.Proofs.YtmogbkgchhplkaaDoor
open Go.RowKit

theorem wrL_none : ∀ (l : List UInt8) (c : Nat), c ≤ 64 → (wrL l c = none ↔ ((∀ b ∈ l, inL b = true) ∧ c + l.length ≤ 64))
  | [], c, hc => by simp [wrL]; omega
  | b :: l, c, hc => by
    rw [wrL]
    by_cases h : inL b = false ∨ c = 64
    · rw [if_pos h]
      simp
      intro h1 _
      rcases h with h | h
      · rw [h1] at h; cases h
      · omega
    · rw [if_neg h, wrL_none l (c + 1) (by omega)]
      have hb : inL b = true := by cases hh : inL b with
        | true => rfl
        | false => exact absurd (Or.inl hh) h
      simp [hb]
      intro _
      omega
theorem inL_47 : inL 47 = false := by decide
/-- A part that is a name. -/
def nmL (p : List UInt8) : Prop := dpL p = none ∧ p ≠ []
theorem nmL_iff (p : List UInt8) : nmL p ↔ (p ≠ [46] ∧ p ≠ [46, 46] ∧ (∀ b ∈ p, inL b = true) ∧ p.length ≤ 64 ∧ p ≠ []) := by
  unfold nmL dpL
  by_cases h : p = [46] ∨ p = [46, 46]
  · rw [if_pos h]
    constructor
    · rintro ⟨h1, _⟩; cases h1
    · rintro ⟨h1, h2, _⟩
      exact absurd h (fun h => h.elim h1 h2)
  · rw [if_neg h, wrL_none p 0 (by omega)]
    constructor
    · rintro ⟨⟨h1, h2⟩, h3⟩
      exact ⟨fun e => h (Or.inl e), fun e => h (Or.inr e), h1, by omega, h3⟩
    · rintro ⟨_, _, h1, h2, h3⟩
      exact ⟨⟨h1, by omega⟩, h3⟩
theorem nmL_noSlash {p : List UInt8} (h : nmL p) : 47 ∉ p := fun e => by
  have := ((nmL_iff p).1 h).2.2.1 47 e
  rw [inL_47] at this
  cases this
/-- The parts are names, from the i-th on, and not too many. -/
theorem docL_none : ∀ (ps : List (List UInt8)) (a i : Nat), i ≤ 15 → ps ≠ [] → (docL ps a i = none ↔ ((∀ p ∈ ps, nmL p) ∧ i + ps.length ≤ 16))
  | [], _, _, _, h => absurd rfl h
  | p :: r, a, i, hi, _ => by
    rw [docL]
    cases hd : dpL p with
    | some x =>
      simp only []
      constructor
      · intro h; cases h
      · rintro ⟨h, _⟩
        have := (h p (by simp)).1
        rw [hd] at this
        cases this
    | none =>
      simp only []
      by_cases h : p = [] ∨ (i = 15 ∧ r ≠ [])
      · rw [if_pos h]
        constructor
        · intro h; cases h
        · rintro ⟨h1, h2⟩
          rcases h with h | ⟨h, h'⟩
          · exact absurd h (h1 p (by simp)).2
          · cases r with
            | nil => exact absurd rfl h'
            | cons _ _ => simp at h2; omega
      · rw [if_neg h]
        have hp : nmL p := ⟨hd, fun e => h (Or.inl e)⟩
        cases r with
        | nil =>
          simp [docL]
          exact ⟨hp, by omega⟩
        | cons q r =>
          rw [docL_none (q :: r) _ (i + 1) (by
            have : i ≠ 15 := fun e => h (Or.inr ⟨e, by simp⟩)
            omega) (by simp)]
          constructor
          · rintro ⟨h1, h2⟩
            refine ⟨fun x hx => ?_, by simp at h2 ⊢; omega⟩
            rcases List.mem_cons.1 hx with rfl | hx
            · exact hp
            · exact h1 x hx
          · rintro ⟨h1, h2⟩
            exact ⟨fun x hx => h1 x (List.mem_cons_of_mem _ hx), by simp at h2 ⊢; omega⟩
/-- A path: its parts are names, at most sixteen; at most 255 bytes. -/
theorem pl_ok (l : List UInt8) : (plL l).2 = false ↔ ((∀ p ∈ cutL l, nmL p) ∧ (cutL l).length ≤ 16 ∧ l.length ≤ 255) := by
  have hn := docL_none (cutL l) 0 0 (by omega) (cutL_ne l)
  rw [Nat.zero_add] at hn
  unfold plL finL
  cases hd : docL (cutL l) 0 0 with
  | none =>
    have := hn.1 hd
    simp only []
    split
    · rename_i h
      constructor
      · intro e; cases e
      · rintro ⟨_, _, e⟩; omega
    · rename_i h
      exact ⟨fun _ => ⟨this.1, this.2, by omega⟩, fun _ => rfl⟩
  | some x =>
    simp only []
    have : ¬ ((∀ p ∈ cutL l, nmL p) ∧ (cutL l).length ≤ 16) := fun h => by
      have := hn.2 h
      rw [hd] at this
      cases this
    split
    · constructor
      · intro e; cases e
      · rintro ⟨h1, h2, _⟩; exact absurd ⟨h1, h2⟩ this
    · constructor
      · intro e; cases e
      · rintro ⟨h1, h2, _⟩; exact absurd ⟨h1, h2⟩ this
theorem wrong_pl (s : ByteArray) : wrongB s = (plL (toL s)).2 := by rw [← lv_pl]
theorem place_pl (s : ByteArray) : (lvS s).1 = (plL (toL s)).1 := by rw [← lv_pl]
theorem nameB_L (s : ByteArray) : nameB s = true ↔ nmL (toL s) := by
  unfold nameB
  rw [slash_L, wrong_pl]
  simp only [Bool.and_eq_true, Bool.not_eq_true', decide_eq_false_iff_not]
  rw [pl_ok]
  constructor
  · rintro ⟨⟨h1, _, _⟩, h2⟩
    rw [cutL_one _ h2] at h1
    exact h1 _ (by simp)
  · intro h
    have h2 := nmL_noSlash h
    rw [cutL_one _ h2]
    refine ⟨⟨fun p hp => ?_, by simp, ?_⟩, h2⟩
    · rw [List.mem_singleton.1 hp]; exact h
    · have := ((nmL_iff _).1 h).2.2.2.1
      omega
theorem rnameB_L (s : ByteArray) : rnameB s ↔ nmL (toL s) := by
  rw [nmL_iff]
  unfold rnameB mayTo
  have d1 : s = dot1 ↔ toL s = [46] := by rw [← toL_iff]; rfl
  have d2 : s = dot2 ↔ toL s = [46, 46] := by rw [← toL_iff]; rfl
  have hall : (∀ j, j < s.size → inN (byt s j) = true) ↔ ∀ b ∈ toL s, inL b = true := by
    constructor
    · intro h b hb
      obtain ⟨j, hj, rfl⟩ := List.mem_iff_getElem.1 hb
      have := h j (by rw [← toL_len]; exact hj)
      rw [byt_at, List.getD_eq_getElem?_getD, List.getElem?_eq_getElem hj] at this
      exact this
    · intro h j hj
      have hj' : j < (toL s).length := by rw [toL_len]; exact hj
      have := h ((toL s)[j]) (List.getElem_mem hj')
      rw [byt_at, List.getD_eq_getElem?_getD, List.getElem?_eq_getElem hj']
      exact this
  have hz : 1 ≤ s.size ↔ toL s ≠ [] := by
    rw [← toL_len]
    cases toL s <;> simp
  rw [hall, hz, toL_len, ne_eq, ne_eq, ne_eq, d1, d2]
  constructor
  · rintro ⟨a, b, c, d, e⟩; exact ⟨c, d, e, b, a⟩
  · rintro ⟨c, d, e, b, a⟩; exact ⟨a, b, c, d, e⟩
theorem name_iff (s : ByteArray) : nameB s = true ↔ rnameB s := by rw [nameB_L, rnameB_L]
/-- The texts, a slash between each two. -/
def joinS (l : List ByteArray) : ByteArray := ⟨(jn (l.map toL)).toArray⟩
theorem toL_join (l : List ByteArray) : toL (joinS l) = jn (l.map toL) := by simp [toL, joinS]
theorem toL_app (a b : ByteArray) : toL (a ++ b) = toL a ++ toL b := by simp [toL, ByteArray.data_append]
theorem join_first {l : List ByteArray} (h : 0 < l.length) : joinS (l.take 1) = ⟨#[]⟩ ++ l.getD 0 default := by
  refine toL_inj ?_
  cases l with
  | nil => simp at h
  | cons x r =>
    rw [toL_join, toL_app]
    simp [jn, Lib.joinTail, toL]
theorem join_more {l : List ByteArray} {k : Nat} (hk : 0 < k) (h : k < l.length) : joinS (l.take (k + 1)) = (joinS (l.take k) ++ ⟨#[47]⟩) ++ l.getD k default := by
  refine toL_inj ?_
  rw [toL_join, toL_app, toL_app, toL_join, List.map_take, List.map_take, jn_take_succ (l.map toL) k (toL (l.getD k default)) hk]
  · rfl
  · rw [List.getElem?_map, List.getD_eq_getElem?_getD, List.getElem?_eq_getElem h]
    rfl
theorem jn_len (M : Nat) : ∀ (l : List (List UInt8)), (∀ p ∈ l, p.length ≤ M) → (jn l).length ≤ l.length * (M + 1)
  | [], _ => by simp [jn]
  | [x], h => by rw [jn_one]; have := h x (by simp); simp; omega
  | x :: y :: r, h => by
    rw [jn_two]
    have h1 := h x (by simp)
    have h2 := jn_len M (y :: r) (fun p hp => h p (List.mem_cons_of_mem _ hp))
    simp only [List.length_append, List.length_cons] at h2 ⊢
    have : (r.length + 1 + 1) * (M + 1) = (r.length + 1) * (M + 1) + (M + 1) := Nat.succ_mul _ _
    omega
theorem join_len {M : Nat} {l : List ByteArray} (h : ∀ p ∈ l, p.size ≤ M) : (joinS l).size ≤ l.length * (M + 1) := by
  rw [← toL_len, toL_join]
  have := jn_len M (l.map toL) (fun p hp => by
    obtain ⟨x, hx, rfl⟩ := List.mem_map.1 hp
    rw [toL_len]; exact h x hx)
  rwa [List.length_map] at this
/-- Has it a path? -/
def textB (l : List ByteArray) : Bool := decide (1 ≤ l.length ∧ l.length ≤ 16 ∧ (joinS l).size ≤ 255) && l.all nameB
end Go.Proofs.YtmogbkgchhplkaaDoor
