/- What Encode answers. -/
import Derived.Test.YtbgknbjpbobebaaDoorKC
namespace Go.Proofs.YtbgknbjpbobebaaDoor
open Go.RowKit Go.Maps

/-- The bytes that Encode hands out. -/
def encR (r : JR) : List Int := if encE r = 0 then encL r else []
theorem encR_no {r : JR} (h : encE r ≠ 0) : encR r = [] := by unfold encR; rw [if_neg h]
theorem encR_yes {r : JR} (h : encE r = 0) : encR r = encL r := by unfold encR; rw [if_pos h]
theorem encE_num {r : JR} (h : r.n < 0 ∨ 1099511627776 < r.n) : encE r = 171 := by unfold encE; rw [if_pos h]
theorem encE_refs {r : JR} (h : ¬ (r.n < 0 ∨ 1099511627776 < r.n)) (hm : mayRs r.rs = false) : encE r = 172 := by unfold encE; rw [if_neg h, hm]; rfl
theorem encE_zero {r : JR} (h : ¬ (r.n < 0 ∨ 1099511627776 < r.n)) (hm : mayRs r.rs = true) : encE r = 0 := by unfold encE; rw [if_neg h, if_pos hm]
/-- A part of a block of cells that are bytes. -/
theorem isB_part {w : World} {g k c : Nat} {t : TypeId} {cs : List Value} {xs : List Int} (h : Arr w g t cs) (hp : ∀ j u, (xs.map (Value.int .u8))[j]? = some u → cs[k + j]? = some u) (hb : By8 xs) (hc : xs.length ≤ c) (hm : c ≤ 1000000) : IsB w (.slice (some ⟨g, k, none⟩) xs.length c) xs := by
  refine ⟨bytes_mem hb, some ⟨g, k, none⟩, c, rfl, hc, by omega, (fun h => by cases h), fun _ => ⟨g, k, rfl, fun j hj => ?_⟩⟩
  rw [h.cell]
  refine hp j _ ?_
  rw [List.getElem?_map, List.getElem?_eq_getElem hj, List.getD_eq_getElem?_getD, List.getElem?_eq_getElem hj]
  rfl
theorem rfsB_step {l : List JF} {k : Nat} (hk : k < l.length) : rfsB (l.take (k + 1)) = rfsB (l.take k) ++ ((l.getD k .nul).h ++ (fB (l.getD k .nul).f 4 ++ fB (l.getD k .nul).l 4)) := by
  rw [List.take_succ_eq_append_getElem hk, rfsB_snoc, List.getD_eq_getElem?_getD, List.getElem?_eq_getElem hk]
  rfl
theorem fits_no {V : Int} {n : Nat} (h0 : 0 ≤ V) (h1 : V < 2 ^ (8 * n)) : (V / 2 ^ (8 * n) != 0) = false := by
  rw [Int.ediv_eq_zero_of_lt h0 h1]; rfl
def E8 (w1 W : World) (B : Nat) (v : Value) (xs : List Int) : Prop := Own8 W B v xs ∧ B ≤ W.heap.size ∧ Below B w1 W
theorem E8.below {w1 W W2 : World} {B : Nat} {v : Value} {xs : List Int} (h : E8 w1 W B v xs) (hb : Below W.heap.size W W2) : E8 w1 W2 B v xs :=
  ⟨h.1.below hb, Nat.le_trans h.2.1 hb.size, h.2.2.trans (hb.mono h.2.1)⟩
theorem E8.app {w1 W W2 : World} {B : Nat} {v v2 : Value} {xs ys : List Int} (h : E8 w1 W B v xs) (ho : Own8 W2 B v2 ys) (hg : W.grownBy W2 v.ownBlock) : E8 w1 W2 B v2 ys :=
  ⟨ho, Nat.le_trans h.2.1 hg.size, h.2.2.grown hg h.2.1 (fun j hj => (World.ownsRow.lt h.1.1 j hj).1)⟩
theorem E8.call {w1 W W2 : World} {B : Nat} {v v2 : Value} {xs ys : List Int} (h : E8 w1 W B v xs) (ho : Own8 W2 B v2 ys) (hb : Below B W W2) : E8 w1 W2 B v2 ys :=
  ⟨ho, Nat.le_trans h.2.1 hb.size, h.2.2.trans hb⟩
theorem E8.set {w1 W W2 : World} {B g : Nat} {v : Value} {xs : List Int} (h : E8 w1 W B v xs) (hg : W.grownBy W2 (some g)) (hne : v.ownBlock ≠ some g) (hb : B ≤ g) : E8 w1 W2 B v xs :=
  ⟨h.1.kept hg (Or.inr hne), Nat.le_trans h.2.1 hg.size, jbelow_grown h.2.2 hg h.2.1 hb⟩
theorem E8.shape {w1 W : World} {B : Nat} {u : Value} {xs : List Int} (h : E8 w1 W B u xs) : ∃ a c, u = .slice a xs.length c := by
  obtain ⟨a, n, c, rfl⟩ := h.1.shape
  have := h.1.isB.lenEq
  subst this
  exact ⟨a, c, rfl⟩
theorem E8.shapeN {w1 W : World} {B n : Nat} {u : Value} {xs : List Int} (h : E8 w1 W B u xs) (hl : xs.length = n) : ∃ a c, u = .slice a n c := by
  subst hl
  exact h.shape
theorem E8.ne {w1 W : World} {B : Nat} {u : Value} {xs : List Int} (h : E8 w1 W B u xs) {g : Nat} (hg : W.heap.size ≤ g) : u.ownBlock ≠ some g := fun e => by
  have := (World.ownsRow.lt h.1.1 g e).2
  omega
theorem E8.neA {w1 W : World} {B : Nat} {u : Value} {xs : List Int} (h : E8 w1 W B u xs) {g : Nat} {cs : List Value} (hA : Arr W g 25 cs) : some g ≠ u.ownBlock := fun e => by
  rcases h.1.1.2 with ⟨rfl, _⟩ | ⟨g', cap, cur, rfl, _, hgg, _⟩
  · cases e
  · simp only [Value.ownBlock, Option.some.injEq] at e
    subst e
    unfold Arr at hA
    rw [hgg] at hA
    simp only [Option.some.injEq, Obj.cells.injEq] at hA
    exact absurd hA.2.1 (by decide)
theorem arr_grown {w w' : World} {g : Nat} {t : TypeId} {cs : List Value} {row : Option Nat} (h : Arr w g t cs) (hg : w.grownBy w' row) (hne : some g ≠ row) : Arr w' g t cs := h.keep (hg.block g h.lt hne)
end Go.Proofs.YtbgknbjpbobebaaDoor
