/- Lists of writes joined; among; what a crash leaves. -/
import Derived.Test.YtfgjhlnaaopdeabOtI
namespace Go.Proofs.Ytfgjhlnaaopdeab
open Go.RowKit Go.Maps

theorem append_getD {α : Type} (l m : List α) (d : α) (j : Nat) : (l ++ m).getD j d = if j < l.length then l.getD j d else m.getD (j - l.length) d := by
  rw [List.getD_eq_getElem?_getD, List.getD_eq_getElem?_getD, List.getD_eq_getElem?_getD]
  by_cases h1 : j < l.length
  · rw [if_pos h1, List.getElem?_append_left h1]
  · rw [if_neg h1, List.getElem?_append_right (by omega)]
theorem atV_append (a b : List (Int × Value)) : atV (a ++ b) = atV a ++ atV b := by simp [atV]
section
variable {ops : Array Oper} {rest : List Oper} {o : Oper} {a : Act} {Q : Exit → Act → World → Prop} {w : World} {K : Act → World → Prop} {E : Prop}
theorem wp_appWs (x y : Operand) (ho : o.op = .call { callee := .builtin .append, args := #[x, y], argTypes := #[22, 22] }) {B : Nat} {v u : Value} {l m : Ats} (hx : a.eval x = v) (hown : OwnWs w B v l) (hy : a.eval y = u) (hu : IsWs w u m)
    (hl : l.length + m.length ≤ 1000000) (hB : B ≤ w.heap.size) (hk : ∀ v' w', OwnWs w' B v' (l ++ m) → w.grownBy w' v.ownBlock → (v.ownBlock = none ∨ ∃ b, v.ownBlock = some b ∧ B ≤ b) → K (a.put o.dst v') w') : o.wp Try.prog a w K Q := by
  obtain ⟨i0, hi, hz0, hz1, hz2⟩ := info_parts infoW
  obtain ⟨es, h1, h2, h3⟩ := hown.rd
  obtain ⟨fs, k1, k2, k3⟩ := hu.rd
  have hob : v.ownBlock = none ∨ ∃ b, v.ownBlock = some b ∧ B ≤ b := by
    cases hv : v.ownBlock with
    | none => exact Or.inl rfl
    | some b => exact Or.inr ⟨b, rfl, (h1.lt b hv).1⟩
  rcases k1.2 with ⟨rfl, h0⟩ | ⟨g, cap, cur, rfl, _, hg, hle, hm, hs, ht⟩
  · have hm0 : m = [] := List.eq_nil_of_length_eq_zero h0
    subst hm0
    have hrun := run_append_owned_none (P := Try.prog) (w := w) B 22 o.type 25 i0 2 Try.underlying22 hi v _ _ h1
    have := hk v w (by rw [List.append_nil]; exact hown) ⟨rfl, rfl, rfl, Nat.le_refl _, fun _ _ _ => rfl⟩ hob
    unfold Oper.wp
    simp [execOp, ho, resolve, invoke, builtin, hx, hy, hrun, Result.andThen]
    exact this
  · have hone : ∀ z ∈ atV fs, z.oneCell' = true := by
      intro z hz
      obtain ⟨s, hs2, hz⟩ := List.mem_flatten.1 hz
      obtain ⟨e, he, rfl⟩ := List.mem_map.1 hs2
      obtain ⟨j, hj, rfl⟩ := List.getElem_of_mem he
      have h8 := (k3 j (by omega)).2
      rw [List.getD_eq_getElem?_getD, List.getElem?_eq_getElem hj] at h8
      obtain ⟨ua, un, uc, hsh⟩ := (Own8.isB h8).shape
      simp only [Option.getD_some] at hsh
      simp only [List.mem_cons, List.not_mem_nil, or_false] at hz
      rcases hz with rfl | rfl
      · rfl
      · rw [hsh]; rfl
    have hcl : ∀ j z, (atV fs)[j]? = some z → w.cell? ((⟨g, 0, none⟩ : Addr).add j) = some z := fun j z hz => k1.cells (g := g) rfl j z hz
    refine wp_append_own w x y 22 ho B 25 i0 _ 2 32 Try.underlying22 hi hz0 hz1 hz2 rfl (by decide) v l.length (atV es) hx h1 ⟨g, 0, none⟩ m.length cap (atV fs) hy (by rw [atV_len, k2]) hcl hone (by unfold maxLen; omega) (by omega) hB ?_
    intro v' w' r1 r2 _
    have keep8 : ∀ (z : Value) (xs : List Int), Own8 w 0 z xs → Own8 w' 0 z xs := fun z xs hz => ⟨hz.1.kept r2 (owns_apart hz.1 h1 (by decide)), hz.2⟩
    refine hk v' w' ⟨es ++ fs, ?_, by simp [h2, k2], fun j hj => ?_⟩ r2 hob
    · rw [List.length_append, atV_append]; exact r1
    · rw [List.length_append] at hj
      rw [append_getD, append_getD, h2]
      by_cases hj1 : j < l.length
      · rw [if_pos hj1, if_pos hj1]; exact ⟨(h3 j hj1).1, keep8 _ _ (h3 j hj1).2⟩
      · rw [if_neg hj1, if_neg hj1]; exact ⟨(k3 _ (by omega)).1, keep8 _ _ (k3 _ (by omega)).2⟩
theorem wpList_appWs (hw : Region.wanted o (yielded ops a.tmps) = true) (x y : Operand) (ho : o.op = .call { callee := .builtin .append, args := #[x, y], argTypes := #[22, 22] }) {B : Nat} {v u : Value} {l m : Ats} (hx : a.eval x = v) (hown : OwnWs w B v l) (hy : a.eval y = u) (hu : IsWs w u m)
    (hl : l.length + m.length ≤ 1000000) (hB : B ≤ w.heap.size) (hk : ∀ v' w', OwnWs w' B v' (l ++ m) → w.grownBy w' v.ownBlock → (v.ownBlock = none ∨ ∃ b, v.ownBlock = some b ∧ B ≤ b) → wpList Try.prog ops Q rest (a.put o.dst v') w') : wpList Try.prog ops Q (o :: rest) a w :=
  wpList_on hw fun _ hK => wp_appWs x y ho hx hown hy hu hl hB fun v' w' h1 h2 h3 => hK _ _ (hk v' w' h1 h2 h3)
theorem step_appWs (hw : Region.wanted o (yielded ops a.tmps) = true) (x y : Operand) (ho : o.op = .call { callee := .builtin .append, args := #[x, y], argTypes := #[22, 22] }) {B : Nat} {v u : Value} {l m : Ats} (hx : a.eval x = v) (hown : OwnWs w B v l) (hy : a.eval y = u) (hu : IsWs w u m)
    (hl : l.length + m.length ≤ 1000000) (hB : B ≤ w.heap.size) (hk : ∀ v' w', OwnWs w' B v' (l ++ m) → w.grownBy w' v.ownBlock → (v.ownBlock = none ∨ ∃ b, v.ownBlock = some b ∧ B ≤ b) → K (a.put o.dst v') w') : if Region.wanted o (yielded ops a.tmps) = true then Oper.wp Try.prog o a w K Q else E := by
  rw [if_pos hw]
  exact wp_appWs x y ho hx hown hy hu hl hB hk
end
/-- An empty list of writes that was typed out. -/
theorem OwnWs.lit {w : World} {B : Nat} (hB : B ≤ w.heap.size) : OwnWs (w.alloc (.cells #[] 25)) B (.slice (some ⟨w.heap.size, 0, none⟩) 0 0) [] :=
  ⟨[], ⟨rfl, .inr ⟨w.heap.size, 0, #[], rfl, hB, heap_alloc_last w _, Nat.le_refl _, by unfold maxLen; omega, rfl, rfl⟩⟩, rfl, fun j hj => by simp at hj⟩

/-- The writes of a disk are among those of the list. -/
def Wl (D : AD) (L : Ats) : Prop := ∀ i s, s ∈ D.wr i → ((i : Int), s) ∈ L
theorem Wl.write {D : AD} {L : Ats} (h : Wl D L) (i : Nat) (s : List Int) : Wl (D.write i s) (L ++ [((i : Int), s)]) := by
  intro j t ht
  by_cases e : j = i
  · subst e
    simp only [AD.write, updF_same] at ht
    rcases List.mem_append.1 ht with ht | ht
    · exact List.mem_append.2 (Or.inl (h j t ht))
    · rw [List.mem_singleton.1 ht]; simp
  · simp only [AD.write, updF_other _ _ e] at ht
    exact List.mem_append.2 (Or.inl (h j t ht))
theorem Wl.empty {D : AD} (h : ∀ i, D.wr i = []) : Wl D [] := fun i s hs => by rw [h i] at hs; simp at hs
/-- Behind a crash each sector is what lasted, or one of the writes. -/
theorem Wl.crash {D : AD} {L : Ats} (h : Wl D L) (fate : Nat → Int) {i : Nat} (hi : i < D.la.length) : (D.settle fate).la.getD i zsec = D.la.getD i zsec ∨ ((i : Int), (D.settle fate).la.getD i zsec) ∈ L := by
  rw [AD.settle_at D fate hi]
  by_cases hc : 1 ≤ min (fate (D.keys.idxOf i)) (D.wr i).length
  · rw [if_pos hc]; exact Or.inr (h i _ (pickW_mem hc))
  · rw [if_neg hc]; exact Or.inl rfl
/-- Great fates are a Flush. -/
theorem settle_great {D : AD} {n : Nat} (hn : D.la.length ≤ n) (hw : ∀ i, (D.wr i).length ≤ 1000) {i : Nat} (hi : i < D.la.length) : (D.settle fun k => (List.replicate n (1000 : Int)).getD k 0).la.getD i zsec = D.now i := by
  rw [AD.settle_at D _ hi]
  unfold AD.now
  by_cases h0 : 0 < (D.wr i).length
  · have hm : i ∈ D.keys := List.mem_filter.2 ⟨by simpa using hi, by simpa using h0⟩
    have hx := List.idxOf_lt_length_of_mem hm
    have hkl : D.keys.length ≤ D.la.length := by
      have h1 : D.keys.length ≤ (List.range D.la.length).length := List.length_filter_le _ _
      rw [List.length_range] at h1
      exact h1
    have hf : (List.replicate n (1000 : Int)).getD (D.keys.idxOf i) 0 = 1000 := by
      rw [List.getD_eq_getElem?_getD, List.getElem?_replicate, if_pos (by omega)]; rfl
    rw [hf]
    have := hw i
    rw [if_pos (by omega), List.getLast?_eq_getElem?]
    unfold pickW
    rw [show (min (1000 : Int) ((D.wr i).length : Int)).toNat = (D.wr i).length by omega, List.getD_eq_getElem?_getD, List.getElem?_eq_getElem (by omega)]
    rfl
  · have : D.wr i = [] := List.eq_nil_of_length_eq_zero (by omega)
    rw [this, if_neg (by simp; omega)]
    rfl
theorem Nw.great {D : AD} {L : Ats} {n : Nat} (h : Nw D L) (hn : D.la.length ≤ n) (hw : ∀ i, (D.wr i).length ≤ 1000) : Nw (D.settle fun k => (List.replicate n (1000 : Int)).getD k 0) L := by
  intro i hi
  rw [now_empty (fun _ => rfl)]
  rw [settle_len] at hi
  rw [settle_great hn hw hi]
  exact h i hi
end Go.Proofs.Ytfgjhlnaaopdeab
