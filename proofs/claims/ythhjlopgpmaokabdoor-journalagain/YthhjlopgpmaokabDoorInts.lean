/- Slices of integers; rows of slices of bytes of the call's own. -/
import Derived.Test.YthhjlopgpmaokabDoorKA
namespace Go.Proofs.YthhjlopgpmaokabDoor
open Go.RowKit

/-- The value is a slice of ints; in this world it reads the list. -/
structure IsI (w : World) (v : Value) (cs : List Int) : Prop where
  bd : ∀ c ∈ cs, -9223372036854775808 ≤ c ∧ c ≤ 9223372036854775807
  val : ∃ a cap, v = .slice a cs.length cap ∧ cs.length ≤ cap ∧ cap ≤ 9223372036854775807 ∧
    (0 < cs.length → ∃ b off, a = some ⟨b, off, none⟩ ∧ ∀ j, j < cs.length → w.cell? ⟨b, off + j, none⟩ = some (.int .i64 (cs.getD j 0)))
theorem IsI.below {w w' : World} {v : Value} {xs : List Int} (h : IsI w v xs) (hb : Below w.heap.size w w') : IsI w' v xs := by
  obtain ⟨h1, a, cap, hv, hl, hm, hc⟩ := h
  refine ⟨h1, a, cap, hv, hl, hm, fun hp => ?_⟩
  obtain ⟨b, off, ha, hcell⟩ := hc hp
  exact ⟨b, off, ha, fun j hj => (hb.cell (p := ⟨b, off + j, none⟩) (World.block_lt_of_cell? w _ (hcell j hj))).trans (hcell j hj)⟩
theorem getD_mem {cs : List Int} {j : Nat} (h : j < cs.length) : cs.getD j 0 ∈ cs := by
  rw [List.getD_eq_getElem?_getD, List.getElem?_eq_getElem h]
  exact List.getElem_mem h

theorem infoSl : (Tryd.prog.info? 48).map (fun i => (i.zero, i.size, i.bytes)) = some (some (.slice none 0 0), 1, 24) := by kernel_rfl
/-- A row of slices of bytes of the call's own: its cells, and what they read. -/
structure OwnBB (w : World) (B : Nat) (v : Value) (us : List Value) (xss : List (List Int)) : Prop where
  own : w.ownsRow B 48 1 v us.length us
  len : us.length = xss.length
  each : ∀ j, j < us.length → IsB w (us.getD j undef) (xss.getD j [])
theorem OwnBB.nil (w : World) (B : Nat) : OwnBB w B (.slice none 0 0) [] [] := ⟨World.ownsRow_nil _ _ _ _, rfl, fun j hj => by simp at hj⟩
theorem OwnBB.below {w w' : World} {B : Nat} {v : Value} {us : List Value} {xss : List (List Int)} (h : OwnBB w B v us xss) (hb : Below w.heap.size w w') : OwnBB w' B v us xss := ⟨owns_below h.own hb, h.len, fun j hj => (h.each j hj).below hb⟩
theorem OwnBB.isBB {w : World} {B : Nat} {v : Value} {us : List Value} {xss : List (List Int)} (h : OwnBB w B v us xss) : IsBB w v xss := by
  obtain ⟨⟨hl, hv⟩, hn, he⟩ := h
  rcases hv with ⟨rfl, h0⟩ | ⟨g, cap, cur, rfl, _, hg, hle, hm, hs, ht⟩
  · obtain rfl : xss = [] := List.eq_nil_of_length_eq_zero (by omega)
    exact isBB_nil w _ _ (by decide)
  · refine ⟨some ⟨g, 0, none⟩, cap, by rw [hn], by omega, by simpa [maxLen] using hm, fun _ => ⟨g, 0, rfl, fun j hj => ?_⟩⟩
    have hj' : j < us.length := by omega
    refine ⟨us.getD j undef, ?_, he j hj'⟩
    rw [cell_of_row w g (0 + j) cur 48 (0, 0) hg]
    have h2 : (cur.toList.take (us.length * 1))[j]? = us[j]? := by rw [ht]
    rw [List.getElem?_take_of_lt (by omega)] at h2
    rw [Nat.zero_add, ← Array.getElem?_toList, h2, List.getElem?_eq_getElem hj', List.getD_eq_getElem?_getD, List.getElem?_eq_getElem hj']
    rfl
section
variable {ops : Array Oper} {rest : List Oper} {o : Oper} {a : Act} {Q : Exit → Act → World → Prop} {w : World} {K : Act → World → Prop}
/-- One slice of bytes appended, out of a literal. -/
theorem wpList_appS (hw : Region.wanted o (yielded ops a.tmps) = true) (x y : Operand) (ho : o.op = .call { callee := .builtin .append, args := #[x, y], argTypes := #[78, 78] }) {B : Nat} {v : Value} {us : List Value} {xss : List (List Int)} (hx : a.eval x = v) (hown : OwnBB w B v us xss)
    {aa : Option Addr} {n c : Nat} {xs : List Int} (hy : a.eval y = .slice (some ⟨w.heap.size, 0, none⟩) 1 1) (hxs : IsB w (.slice aa n c) xs) (hfar : 0 < n → ∀ ad, aa = some ad → v.ownBlock ≠ some ad.block) (hold : ∀ j, j < us.length → ∀ aj nj cj, us.getD j undef = .slice aj nj cj → 0 < nj → ∀ ad, aj = some ad → v.ownBlock ≠ some ad.block)
    (hl : us.length ≤ 1000000000) (hB : B ≤ w.heap.size)
    (hk : ∀ v' w', OwnBB w' B v' (us ++ [.slice aa n c]) (xss ++ [xs]) → w.grownBy w' v.ownBlock → wpList Tryd.prog ops Q rest (a.put o.dst v') w') : wpList Tryd.prog ops Q (o :: rest) a (w.alloc (.cells #[.slice aa n c] 48)) := by
  obtain ⟨i0, hi, hz0, hz1, hz2⟩ := info_parts infoSl
  refine wpList_on hw fun K hK => wp_append_own (w.alloc (.cells #[.slice aa n c] 48)) x y 78 ho B 48 i0 (.slice none 0 0) 1 24 Tryd.underlying78 hi hz0 hz1 hz2 rfl (by decide) v us.length us hx (hown.own.alloc _) ⟨w.heap.size, 0, none⟩ 1 1 [.slice aa n c] hy rfl (cell_one_new _ _ _) (by intro u hu; simp at hu; subst hu; rfl) (by unfold maxLen; omega) (by omega) (by simp; omega) ?_
  intro v' w' h2 h3 _
  have hg : w.grownBy w' v.ownBlock := by
    have h1 : Below w.heap.size w (w.alloc (.cells #[.slice aa n c] 48)) := (Below.refl _ _).alloc (Nat.le_refl _) _
    exact ⟨h3.os.trans h1.os, h3.tape.trans h1.tape, h3.output.trans h1.output, Nat.le_trans h1.size h3.size, fun k hk hne => (h3.block k (Nat.lt_of_lt_of_le hk h1.size) hne).trans (h1.block k hk)⟩
  have keep : ∀ {aj : Option Addr} {nj cj : Nat} {ys : List Int}, IsB w (.slice aj nj cj) ys → (0 < nj → ∀ ad, aj = some ad → v.ownBlock ≠ some ad.block) → IsB w' (.slice aj nj cj) ys := fun {aj nj cj ys} h hne => by
    have hn := h.lenEq
    obtain ⟨h1, a', cap, hv, hl', hm, hz, hc⟩ := h
    injection hv with e1 e2 e3
    subst e1 e3
    refine ⟨h1, aj, cj, by rw [hn], hl', hm, hz, fun hp => ?_⟩
    obtain ⟨b, off, ha, hcell⟩ := hc hp
    refine ⟨b, off, ha, fun j hj => ?_⟩
    rw [← hcell j hj]
    exact World.cell?_of_block (hg.block b (World.block_lt_of_cell? w _ (hcell j hj)) (fun e => hne (by omega) _ ha e.symm))
  refine hK _ _ (hk v' w' ⟨by simpa using h2, by simp [hown.len], fun j hj => ?_⟩ hg)
  by_cases hj' : j < us.length
  · have h1 := hown.each j hj'
    obtain ⟨aj, nj, cj, e⟩ := h1.shape
    have h2 := keep (e ▸ h1) (hold j hj' aj nj cj e)
    rw [List.getD_eq_getElem?_getD, List.getElem?_append_left hj', ← List.getD_eq_getElem?_getD, List.getD_eq_getElem?_getD (l := xss ++ [xs]), List.getElem?_append_left (by rw [← hown.len]; exact hj'), ← List.getD_eq_getElem?_getD, e]
    exact h2
  · have hj2 : j = us.length := by simp at hj; omega
    subst hj2
    have h2 := keep hxs hfar
    have e1 : (us ++ [Value.slice aa n c]).getD us.length undef = .slice aa n c := by simp [List.getD_eq_getElem?_getD]
    have e2 : (xss ++ [xs]).getD us.length [] = xs := by rw [hown.len]; simp [List.getD_eq_getElem?_getD]
    rw [e1, e2]
    exact h2
end
end Go.Proofs.YthhjlopgpmaokabDoor
