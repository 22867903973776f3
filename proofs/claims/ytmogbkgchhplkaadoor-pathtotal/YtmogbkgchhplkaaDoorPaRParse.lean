/- The document's Parse. -/
import Derived.Test.YtmogbkgchhplkaaDoorPaRText
namespace Go.Proofs.YtmogbkgchhplkaaDoor
open Go.RowKit

theorem partsF_L (s : ByteArray) : ∀ n i fr, i + n = s.size → fr ≤ i → 47 ∉ ((toL s).drop fr).take (i - fr) → (partsF s n i fr).map toL = cutL ((toL s).drop fr)
  | 0, i, fr, h, hf, hq => by
    rw [partsF, List.map_cons, List.map_nil, toL_from]
    rw [List.take_of_length_le (by simp [toL_len]; omega)] at hq
    rw [cutL_one _ hq]
  | n + 1, i, fr, h, hf, hq => by
    have hlt : i < s.size := by omega
    have hb : ((toL s).drop fr).take (i + 1 - fr) = ((toL s).drop fr).take (i - fr) ++ [(toL s).getD i 0] := by
      rw [show i + 1 - fr = (i - fr) + 1 by omega, List.take_add_one, List.getElem?_drop, show fr + (i - fr) = i by omega, List.getD_eq_getElem?_getD, List.getElem?_eq_getElem (by rw [toL_len]; exact hlt)]
      rfl
    rw [partsF]
    by_cases h47 : byt s i = 47
    · rw [if_pos h47, List.map_cons, partsF_L s n (i + 1) (i + 1) (by omega) (Nat.le_refl _) (by simp), toL_ext]
      have e : (toL s).drop fr = ((toL s).drop fr).take (i - fr) ++ 47 :: (toL s).drop (i + 1) := by
        conv => lhs; rw [← List.take_append_drop (i - fr) ((toL s).drop fr)]
        rw [List.drop_drop, show fr + (i - fr) = i by omega, toL_at s hlt, (byt_eq47 s i).1 h47]
      conv => rhs; rw [e]
      rw [cutL_app _ hq]
    · rw [if_neg h47]
      refine partsF_L s n (i + 1) fr (by omega) (by omega) ?_
      rw [hb, List.mem_append, List.mem_singleton]
      exact fun e => e.elim hq fun e => h47 ((byt_eq47 s i).2 e.symm)
theorem partsD_L (s : ByteArray) : (partsD s).map toL = cutL (toL s) := by
  have := partsF_L s s.size 0 0 (by omega) (by omega) (by simp)
  rwa [List.drop_zero] at this
def lst1 (m x : Int) : Int := if 0 ≤ x ∧ x < m then x else m
def lst2 (m x : Int) (c : Prop) [Decidable c] : Int := if c ∧ x < m then x else m
/-- What is known of the least place when i parts are done, and the next one begins at p. -/
structure Lst (s : ByteArray) (i p : Nat) (m : Int) : Prop where
  pos : i < (partsD s).length → p + (jn ((cutL (toL s)).drop i)).length = s.size
  fin : i = (partsD s).length → p = s.size + 1
  le : p ≤ s.size + 1
  st : (m = (s.size : Int) + 1 ∧ docL (cutL (toL s)) 0 0 = docL ((cutL (toL s)).drop i) p i) ∨ (∃ k : Nat, m = (k : Int) ∧ k < p ∧ docL (cutL (toL s)) 0 0 = some k)
theorem Lst.start (s : ByteArray) : Lst s 0 0 ((s.size : Int) + 1) where
  pos _ := by rw [List.drop_zero, jn_cut, toL_len]; omega
  fin h := by
    have := cutL_ne (toL s)
    rw [← partsD_L] at this
    exact absurd (List.eq_nil_of_length_eq_zero h.symm) (fun e => this (by rw [e]; rfl))
  le := by omega
  st := Or.inl ⟨rfl, rfl⟩
theorem dpL_lt {p : List UInt8} {x : Nat} (h : dpL p = some x) : x < p.length := by
  unfold dpL at h
  split at h
  · rename_i e
    simp at h
    subst h
    rcases e with e | e <;> rw [e] <;> decide
  · have : ∀ (l : List UInt8) k x, wrL l k = some x → x < k + l.length := by
      intro l
      induction l with
      | nil => intro k x h; simp [wrL] at h
      | cons b l ih =>
        intro k x h
        rw [wrL] at h
        split at h
        · simp at h; simp; omega
        · have := ih _ _ h; simp; omega
    have := this _ _ _ h
    omega
theorem Lst.step {s : ByteArray} {i p : Nat} {m : Int} (h : Lst s i p m) (hi : i < (partsD s).length) :
    p + ((partsD s).getD i default).size ≤ s.size ∧
    Lst s (i + 1) (p + ((partsD s).getD i default).size + 1) (lst2 (lst1 m (wrI ((partsD s).getD i default) p)) ((p : Int) + (((partsD s).getD i default).size : Int)) (((partsD s).getD i default).size = 0 ∨ (i = 15 ∧ i + 1 < (partsD s).length))) := by
  have hlen : (cutL (toL s)).length = (partsD s).length := by rw [← partsD_L, List.length_map]
  obtain ⟨x, hx⟩ : ∃ x, x = (partsD s).getD i default := ⟨_, rfl⟩
  rw [← hx]
  have hd : (cutL (toL s)).drop i = toL x :: (cutL (toL s)).drop (i + 1) := by
    rw [List.drop_eq_getElem_cons (by rw [hlen]; exact hi)]
    congr 1
    have : (cutL (toL s))[i]? = some (toL x) := by
      rw [← partsD_L, List.getElem?_map, hx, List.getD_eq_getElem?_getD, List.getElem?_eq_getElem hi]
      rfl
    rw [List.getElem?_eq_getElem (by rw [hlen]; exact hi)] at this
    exact Option.some.inj this
  have hp := h.pos hi
  rw [hd] at hp
  have hr : (cutL (toL s)).drop (i + 1) = [] ↔ i + 1 = (partsD s).length := by
    rw [List.drop_eq_nil_iff, hlen]; omega
  have hlx : (toL x).length = x.size := toL_len x
  have hpl : p + x.size ≤ s.size ∧ (i + 1 < (partsD s).length → p + x.size + 1 + (jn ((cutL (toL s)).drop (i + 1))).length = s.size) ∧ (i + 1 = (partsD s).length → p + x.size = s.size) := by
    by_cases he : i + 1 = (partsD s).length
    · rw [hr.2 he, jn_one, hlx] at hp
      exact ⟨by omega, fun h => by omega, fun _ => hp⟩
    · rw [jn_cons _ (fun e => he (hr.1 e)), List.length_append, List.length_cons, hlx] at hp
      exact ⟨by omega, fun _ => by omega, fun e => absurd e he⟩
  refine ⟨hpl.1, ⟨hpl.2.1, fun e => by have := hpl.2.2 e; omega, by omega, ?_⟩⟩
  have hsz0 : x.size = 0 ↔ toL x = [] := by rw [← hlx, List.length_eq_zero_iff]
  rcases h.st with ⟨hm, hdoc⟩ | ⟨k, hm, hk, hdoc⟩
  · rw [hd, docL] at hdoc
    cases hdp : dpL (toL x) with
    | some y =>
      have hy := dpL_lt hdp
      rw [hdp] at hdoc
      have hw : wrI x p = ((p + y : Nat) : Int) := by unfold wrI; rw [hdp]
      have e1 : lst1 m (wrI x p) = ((p + y : Nat) : Int) := by
        unfold lst1
        rw [hw, if_pos ⟨by omega, by rw [hm]; omega⟩]
      have e2 : lst2 ((p + y : Nat) : Int) ((p : Int) + (x.size : Int)) (x.size = 0 ∨ (i = 15 ∧ i + 1 < (partsD s).length)) = ((p + y : Nat) : Int) := by
        unfold lst2
        rw [if_neg (fun h => by have := h.2; omega)]
      rw [e1, e2]
      exact Or.inr ⟨p + y, rfl, by omega, hdoc⟩
    | none =>
      rw [hdp] at hdoc
      simp only [] at hdoc
      have hw : wrI x p = -1 := by unfold wrI; rw [hdp]
      have e1 : lst1 m (wrI x p) = m := by unfold lst1; rw [hw, if_neg (fun h => by omega)]
      rw [e1]
      have hcond : (toL x = [] ∨ (i = 15 ∧ (cutL (toL s)).drop (i + 1) ≠ [])) ↔ (x.size = 0 ∨ (i = 15 ∧ i + 1 < (partsD s).length)) := by
        rw [hsz0, ne_eq, hr]
        constructor
        · rintro (e | ⟨e1, e2⟩)
          · exact Or.inl e
          · exact Or.inr ⟨e1, by omega⟩
        · rintro (e | ⟨e1, e2⟩)
          · exact Or.inl e
          · exact Or.inr ⟨e1, by omega⟩
      by_cases hc : x.size = 0 ∨ (i = 15 ∧ i + 1 < (partsD s).length)
      · rw [if_pos (hcond.2 hc)] at hdoc
        have e2 : lst2 m ((p : Int) + (x.size : Int)) (x.size = 0 ∨ (i = 15 ∧ i + 1 < (partsD s).length)) = ((p + x.size : Nat) : Int) := by
          unfold lst2
          rw [if_pos ⟨hc, by rw [hm]; omega⟩]
          omega
        rw [e2]
        exact Or.inr ⟨p + x.size, rfl, by omega, by rw [hdoc, hlx]⟩
      · rw [if_neg (fun e => hc (hcond.1 e))] at hdoc
        have e2 : lst2 m ((p : Int) + (x.size : Int)) (x.size = 0 ∨ (i = 15 ∧ i + 1 < (partsD s).length)) = m := by
          unfold lst2
          rw [if_neg (fun h => hc h.1)]
        rw [e2]
        exact Or.inl ⟨hm, by rw [hdoc, hlx]⟩
  · have e1 : lst1 m (wrI x p) = m := by
      unfold lst1
      rw [if_neg]
      rintro ⟨h1, h2⟩
      unfold wrI at h1 h2
      cases hdp : dpL (toL x) with
      | some y => rw [hdp] at h2; simp only [] at h2; omega
      | none => rw [hdp] at h1; simp only [] at h1; omega
    have e2 : lst2 m ((p : Int) + (x.size : Int)) (x.size = 0 ∨ (i = 15 ∧ i + 1 < (partsD s).length)) = m := by
      unfold lst2
      rw [if_neg (fun h => by have := h.2; omega)]
    rw [e1, e2]
    exact Or.inr ⟨k, hm, by omega, hdoc⟩
/-- Behind all parts. -/
theorem Lst.done {s : ByteArray} {p : Nat} {m : Int} (h : Lst s (partsD s).length p m) :
    ((plL (toL s)).2 = true ∧ (((plL (toL s)).1 : Nat) : Int) = (if 255 < (s.size : Int) ∧ 255 < m then 255 else m) ∧ (((plL (toL s)).1 : Nat) : Int) ≤ (s.size : Int)) ∨
    ((plL (toL s)).2 = false ∧ m = (s.size : Int) + 1 ∧ (s.size : Int) ≤ 255) := by
  have hlen : (cutL (toL s)).length = (partsD s).length := by rw [← partsD_L, List.length_map]
  have hl := toL_len s
  have hp := h.fin rfl
  unfold plL
  rcases h.st with ⟨hm, hdoc⟩ | ⟨k, hm, hk, hdoc⟩
  · rw [List.drop_of_length_le (by omega), docL] at hdoc
    rw [hdoc]
    unfold finL
    simp only []
    by_cases hb : 255 < (toL s).length
    · rw [if_pos hb]
      refine Or.inl ⟨rfl, ?_, by omega⟩
      rw [if_pos ⟨by omega, by omega⟩]
      rfl
    · rw [if_neg hb]
      exact Or.inr ⟨rfl, hm, by omega⟩
  · rw [hdoc]
    unfold finL
    simp only []
    by_cases hb : 255 < (toL s).length
    · rw [if_pos hb]
      refine Or.inl ⟨rfl, ?_, by simp only []; omega⟩
      by_cases hc : 255 < (s.size : Int) ∧ 255 < m
      · rw [if_pos hc]; simp only []; omega
      · rw [if_neg hc]; simp only []; omega
    · rw [if_neg hb]
      refine Or.inl ⟨rfl, ?_, by simp only []; omega⟩
      rw [if_neg (fun h => by omega)]
      simp only []; omega
end Go.Proofs.YtmogbkgchhplkaaDoor
