/- chain's statements: sectors in rows of slices, wherever they lie; what the disk's blocks are. -/
import Derived.Test.YtdafiobonhikiaaDoorSJ
namespace Go.Proofs.YtdafiobonhikiaaDoor
open Go.RowKit Go.Maps

/-- A block of cells of that type. -/
def Ty (W : World) (b : Nat) (t : TypeId) : Prop := ∃ c m, W.heap[b]? = some (.cells c t m)
theorem Arr.ty {W : World} {g : Nat} {t : TypeId} {cs : List Value} (h : Arr W g t cs) : Ty W g t := ⟨_, _, h⟩
theorem Ty.one {W : World} {b : Nat} {t t' : TypeId} (h : Ty W b t) (h' : Ty W b t') : t = t' := by
  obtain ⟨c, m, h⟩ := h
  obtain ⟨c', m', h'⟩ := h'
  rw [h] at h'
  simp only [Option.some.injEq, Obj.cells.injEq] at h'
  exact h'.2.1
theorem Ty.lt {W : World} {b : Nat} {t : TypeId} (h : Ty W b t) : b < W.heap.size := by
  obtain ⟨c, m, h⟩ := h
  exact (Array.getElem?_eq_some_iff.1 h).1
theorem Ty.up {F : Nat → Prop} {W W' : World} {b : Nat} {t : TypeId} (h : Ty W b t) (hu : Up F W W') (hF : ¬ F b) : Ty W' b t := by
  obtain ⟨c, m, h⟩ := h
  exact ⟨c, m, hu.cells h hF⟩
theorem Dk.ty {W : World} {p gl gm : Nat} {V : Nat → Value} {D : AD} (h : Dk W p gl gm V D) {b : Nat} (hb : Ft p gl gm V b) {t : TypeId} (ht : Ty W b t) : t = 75 ∨ t = 94 := by
  rcases hb with rfl | rfl | rfl | ⟨i, e⟩
  · exact Or.inl (ht.one h.blk.ty)
  · obtain ⟨_, c, m, h1⟩ := row_blk h.las rfl
    exact Or.inr (ht.one ⟨c, m, h1⟩)
  · obtain ⟨M, ⟨es, clock, hb, _⟩, _⟩ := h.map
    obtain ⟨c, m, ht⟩ := ht
    rw [hb] at ht
    cases ht
  · obtain ⟨_, c, m, h1⟩ := row_blk (h.row i) e
    exact Or.inr (ht.one ⟨c, m, h1⟩)
/-- Sectors in a row of slices. -/
structure Ig (W : World) (B : Nat) (v : Value) (us : List Value) (ims : List (List Int)) : Prop where
  own : Row W B 22 v us
  len : us.length = ims.length
  each : ∀ j, j < us.length → ∃ a c, us[j]? = some (.slice a 512 c) ∧ IsB W (.slice a 512 c) (ims.getD j []) ∧ ∀ b, blkOf (.slice a 512 c) = some b → Ty W b 5
  secs : ∀ s ∈ ims, IsSec s
theorem Ig.nil (W : World) (B : Nat) : Ig W B (.slice none 0 0) [] [] := ⟨World.ownsRow_nil _ _ _ _, rfl, fun j hj => by simp at hj, by simp⟩
theorem Ig.up {F : Nat → Prop} {W W' : World} {B : Nat} {v : Value} {us : List Value} {ims : List (List Int)} (h : Ig W B v us ims) (hu : Up F W W') (h1 : ∀ b, v.ownBlock = some b → ¬ F b) (h2 : ∀ b, Ty W b 5 → ¬ F b) : Ig W' B v us ims :=
  ⟨owns_up h.own hu h1, h.len, fun j hj => by
    obtain ⟨a, c, q1, q2, q3⟩ := h.each j hj
    exact ⟨a, c, q1, q2.up hu (fun b hb => h2 b (q3 b hb)), fun b hb => (q3 b hb).up hu (h2 b (q3 b hb))⟩, h.secs⟩
theorem Ig.below {W W' : World} {B : Nat} {v : Value} {us : List Value} {ims : List (List Int)} (h : Ig W B v us ims) (hb : Below W.heap.size W W') : Ig W' B v us ims := h.up (F := fun _ => False) (Up.of_below hb) (fun _ _ h => h) (fun _ _ h => h)
/-- One more. -/
theorem Ig.push {W W1 W2 : World} {B : Nat} {a : Option Addr} {c : Nat} {v v' : Value} {us : List Value} {ims : List (List Int)} {s : List Int} (h : Ig W B v us ims) (hb : Below W.heap.size W W1) (hA : IsB W1 (.slice a 512 c) s) (hty : ∀ b, blkOf (.slice a 512 c) = some b → Ty W1 b 5) (hs : IsSec s) (hr : Row W2 B 22 v' (us ++ [.slice a 512 c])) (hgr : W1.grownBy W2 v.ownBlock) : Ig W2 B v' (us ++ [.slice a 512 c]) (ims ++ [s]) := by
  have h1 := h.below hb
  have hu := up_own hgr
  have hne : ∀ x, Ty W1 x 5 → ¬ v.ownBlock = some x := fun x ⟨c1, m1, hx⟩ e => by
    obtain ⟨_, c2, m2, h2⟩ := row_blk h1.own e
    exact blk_unlike h2 hx (by decide) rfl
  refine ⟨hr, by rw [List.length_append, List.length_append, h.len]; rfl, fun j hj => ?_, fun x hx => ?_⟩
  · rw [List.length_append, List.length_singleton] at hj
    by_cases e : j < us.length
    · obtain ⟨a1, c1, q1, q2, q3⟩ := h1.each j e
      have hji : j < ims.length := by rw [← h.len]; exact e
      refine ⟨a1, c1, by rw [List.getElem?_append_left e]; exact q1, ?_, fun b hb => (q3 b hb).up hu (hne b (q3 b hb))⟩
      rw [List.getD_eq_getElem?_getD, List.getElem?_append_left hji, ← List.getD_eq_getElem?_getD]
      exact q2.up hu (fun b hb => hne b (q3 b hb))
    · obtain rfl : j = us.length := by omega
      refine ⟨a, c, by rw [List.getElem?_append_right (Nat.le_refl _)]; simp, ?_, fun b hb => (hty b hb).up hu (hne b (hty b hb))⟩
      rw [List.getD_eq_getElem?_getD, h.len, List.getElem?_append_right (Nat.le_refl _)]
      simp only [Nat.sub_self, List.getElem?_cons_zero, Option.getD_some]
      exact hA.up hu (fun b hb => hne b (hty b hb))
  · rcases List.mem_append.1 hx with hx | hx
    · exact h.secs x hx
    · rw [List.mem_singleton.1 hx]; exact hs
/-- What stands in the row. -/
theorem Ig.at {W : World} {B ga n c : Nat} {us : List Value} {ims : List (List Int)} (h : Ig W B (.slice (some ⟨ga, 0, none⟩) n c) us ims) {j : Nat} (hj : j < ims.length) : ∃ a c2, W.cell? ⟨ga, j, none⟩ = some (.slice a 512 c2) ∧ IsB W (.slice a 512 c2) (ims.getD j []) ∧ ∀ b, blkOf (.slice a 512 c2) = some b → Ty W b 5 := by
  have hl := h.len
  obtain ⟨a, c2, q1, q2, q3⟩ := h.each j (by omega)
  exact ⟨a, c2, by rw [Row.cellAt h.own (by omega)]; exact q1, q2, q3⟩
theorem Ig.shape {W : World} {B : Nat} {v : Value} {us : List Value} {ims : List (List Int)} (h : Ig W B v us ims) (h0 : 0 < ims.length) : ∃ ga c, v = .slice (some ⟨ga, 0, none⟩) ims.length c ∧ B ≤ ga ∧ ims.length ≤ c ∧ c ≤ 9223372036854775807 := by
  have hl := h.len
  rcases h.own.2 with ⟨_, h1⟩ | ⟨ga, c, cur, hv, hB, _, q1, q2, _⟩
  · omega
  · exact ⟨ga, c, by rw [hv, hl], hB, by omega, by unfold maxLen at q2; omega⟩
theorem Im.ig {W : World} {B : Nat} {v : Value} {us : List Value} {ims : List (List Int)} (h : Im W B v us ims) : Ig W B v us ims :=
  ⟨h.own, h.len, fun j hj => by
    obtain ⟨g, _, q2, q3⟩ := h.each j hj
    have hs : IsSec (ims.getD j []) := h.secs _ (by
      have hl := h.len
      rw [List.getD_eq_getElem?_getD, List.getElem?_eq_getElem (by omega)]
      exact List.getElem_mem _)
    refine ⟨some ⟨g, 0, none⟩, 512, q2, isB_arr q3 hs.1.symm (Nat.le_refl _) (by omega) hs.2, fun b hb => ?_⟩
    cases hb
    exact q3.ty, h.secs⟩
end Go.Proofs.YtdafiobonhikiaaDoor
