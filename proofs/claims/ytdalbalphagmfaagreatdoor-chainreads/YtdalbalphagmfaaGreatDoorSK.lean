/- sameInts of any slices of ints that hold the same; slices of slices of ints. Slices of ints, cut, as equations; what the calls of the chain's laws enter. chain's statements: sectors in rows of slices, wherever they lie; what the disk's blocks are. chain's statements: the document's Lay. Refs and acts held against one another; what is read behind a guard. -/
import Derived.Test.YtdalbalphagmfaaGreatDoorSG
import Derived.Test.YtdalbalphagmfaaGreatDoorRL
import Derived.Deep.QuietTactic
import Derived.Test.YtdalbalphagmfaaGreatDoorSJ
import Derived.Test.YtdalbalphagmfaaGreatDoorRJ
import Derived.Test.YtdalbalphagmfaaGreatDoorQH
namespace Go.Proofs.YtdalbalphagmfaaGreatDoor
open Go.RowKit Go.Maps

theorem drewn_bJ (B : Nat) (w : World) : ∀ k, Below B w (w.drewN k)
 | 0 => Below.refl _ _
 | k + 1 => (drewn_bJ B w k).trans (Below.refl _ _).drew
end Go.Proofs.YtdalbalphagmfaaGreatDoor

namespace Go.Proofs.YtdalbalphagmfaaGreatDoor
open Go.RowKit Go.Maps

theorem num6_enter (v : Value) (W : World) : (callFunc 19 #[v]).run Tryz.prog W = .ok (.enter 19 #[v]) W := by kernel_rfl
theorem sameInts6_enter (v u : Value) (W : World) : (callFunc 11 #[v, u]).run Tryz.prog W = .ok (.enter 11 #[v, u]) W := by kernel_rfl
theorem same6_enterB (v u : Value) (W : World) : (callFunc 27 #[v, u]).run Tryz.prog W = .ok (.enter 27 #[v, u]) W := by kernel_rfl
theorem ft_lo {p gl gm S : Nat} {V : Nat → Value} (hV : ∀ i, V i = .slice none 0 0) (h1 : S ≤ p) (h2 : S ≤ gl) (h3 : S ≤ gm) (x : Nat) (hx : Ft p gl gm V x) : S ≤ x := by
 unfold Ft at hx
 rcases hx with rfl | rfl | rfl | ⟨i, hi⟩
 · exact h1
 · exact h2
 · exact h3
 · rw [hV i] at hi
   simp [Value.ownBlock] at hi
end Go.Proofs.YtdalbalphagmfaaGreatDoor

namespace Go.Proofs.YtdalbalphagmfaaGreatDoor
open Go.RowKit Go.Maps

/-- A block of cells of that type. -/
def Ty (W : World) (b : Nat) (t : TypeId) : Prop := ∃ c m, W.heap[b]? = some (.cells c t m)
theorem Arr.ty {W : World} {g : Nat} {t : TypeId} {cs : List Value} (h : Arr W g t cs) : Ty W g t := ⟨_, _, h⟩
theorem Ty.one {W : World} {b : Nat} {t t' : TypeId} (h : Ty W b t) (h' : Ty W b t') : t = t' := by
 obtain ⟨c, m, h⟩ := h
 obtain ⟨c', m', h'⟩ := h'
 rw [h] at h'
 simp only [Option.some.injEq, Obj.cells.injEq] at h'
 exact h'.2.1
theorem Ty.lt {W : World} {b : Nat} {t : TypeId} (h : Ty W b t) : b < W.heap.size := by
 obtain ⟨c, m, h⟩ := h
 exact (Array.getElem?_eq_some_iff.1 h).1
theorem Ty.up {F : Nat → Prop} {W W' : World} {b : Nat} {t : TypeId} (h : Ty W b t) (hu : Up F W W') (hF : ¬ F b) : Ty W' b t := by
 obtain ⟨c, m, h⟩ := h
 exact ⟨c, m, hu.cells h hF⟩
theorem Dk.ty {W : World} {p gl gm : Nat} {V : Nat → Value} {D : AD} (h : Dk W p gl gm V D) {b : Nat} (hb : Ft p gl gm V b) {t : TypeId} (ht : Ty W b t) : t = 123 ∨ t = 119 := by
 rcases hb with rfl | rfl | rfl | ⟨i, e⟩
 · exact Or.inl (ht.one h.blk.ty)
 · obtain ⟨_, c, m, h1⟩ := row_blk h.las rfl
   exact Or.inr (ht.one ⟨c, m, h1⟩)
 · obtain ⟨M, ⟨es, clock, hb, _⟩, _⟩ := h.map
   obtain ⟨c, m, ht⟩ := ht
   rw [hb] at ht
   cases ht
 · obtain ⟨_, c, m, h1⟩ := row_blk (h.row i) e
   exact Or.inr (ht.one ⟨c, m, h1⟩)
/-- Sectors in a row of slices. -/
structure Ig (W : World) (B : Nat) (v : Value) (us : List Value) (ims : List (List Int)) : Prop where
 own : Row W B 26 v us
 len : us.length = ims.length
 each : ∀ j, j < us.length → ∃ a c, us[j]? = some (.slice a 512 c) ∧ IsB W (.slice a 512 c) (ims.getD j []) ∧ ∀ b, blkOf (.slice a 512 c) = some b → Ty W b 5
 secs : ∀ s ∈ ims, IsSec s
theorem Ig.nil (W : World) (B : Nat) : Ig W B (.slice none 0 0) [] [] := ⟨World.ownsRow_nil _ _ _ _, rfl, fun j hj => by simp at hj, by simp⟩
theorem Ig.up {F : Nat → Prop} {W W' : World} {B : Nat} {v : Value} {us : List Value} {ims : List (List Int)} (h : Ig W B v us ims) (hu : Up F W W') (h1 : ∀ b, v.ownBlock = some b → ¬ F b) (h2 : ∀ b, Ty W b 5 → ¬ F b) : Ig W' B v us ims :=
 ⟨owns_up h.own hu h1, h.len, fun j hj => by
   obtain ⟨a, c, q1, q2, q3⟩ := h.each j hj
   exact ⟨a, c, q1, q2.up hu (fun b hb => h2 b (q3 b hb)), fun b hb => (q3 b hb).up hu (h2 b (q3 b hb))⟩, h.secs⟩
theorem Ig.below {W W' : World} {B : Nat} {v : Value} {us : List Value} {ims : List (List Int)} (h : Ig W B v us ims) (hb : Below W.heap.size W W') : Ig W' B v us ims := h.up (F := fun _ => False) (Up.of_below hb) (fun _ _ h => h) (fun _ _ h => h)
/-- One more. -/
theorem Ig.push {W W1 W2 : World} {B : Nat} {a : Option Addr} {c : Nat} {v v' : Value} {us : List Value} {ims : List (List Int)} {s : List Int} (h : Ig W B v us ims) (hb : Below W.heap.size W W1) (hA : IsB W1 (.slice a 512 c) s) (hty : ∀ b, blkOf (.slice a 512 c) = some b → Ty W1 b 5) (hs : IsSec s) (hr : Row W2 B 26 v' (us ++ [.slice a 512 c])) (hgr : W1.grownBy W2 v.ownBlock) : Ig W2 B v' (us ++ [.slice a 512 c]) (ims ++ [s]) := by
 have h1 := h.below hb
 have hu := up_own hgr
 have hne : ∀ x, Ty W1 x 5 → ¬ v.ownBlock = some x := fun x ⟨c1, m1, hx⟩ e => by
  obtain ⟨_, c2, m2, h2⟩ := row_blk h1.own e
  exact blk_unlike h2 hx (by decide) rfl
 refine ⟨hr, by rw [List.length_append, List.length_append, h.len]; rfl, fun j hj => ?_, fun x hx => ?_⟩
 · rw [List.length_append, List.length_singleton] at hj
   by_cases e : j < us.length
   · obtain ⟨a1, c1, q1, q2, q3⟩ := h1.each j e
     have hji : j < ims.length := by rw [← h.len]; exact e
     refine ⟨a1, c1, by rw [List.getElem?_append_left e]; exact q1, ?_, fun b hb => (q3 b hb).up hu (hne b (q3 b hb))⟩
     rw [List.getD_eq_getElem?_getD, List.getElem?_append_left hji, ← List.getD_eq_getElem?_getD]
     exact q2.up hu (fun b hb => hne b (q3 b hb))
   · obtain rfl : j = us.length := by omega
     refine ⟨a, c, by rw [List.getElem?_append_right (Nat.le_refl _)]; simp, ?_, fun b hb => (hty b hb).up hu (hne b (hty b hb))⟩
     rw [List.getD_eq_getElem?_getD, h.len, List.getElem?_append_right (Nat.le_refl _)]
     simp only [Nat.sub_self, List.getElem?_cons_zero, Option.getD_some]
     exact hA.up hu (fun b hb => hne b (hty b hb))
 · rcases List.mem_append.1 hx with hx | hx
   · exact h.secs x hx
   · rw [List.mem_singleton.1 hx]; exact hs
/-- What stands in the row. -/
theorem Ig.at {W : World} {B ga n c : Nat} {us : List Value} {ims : List (List Int)} (h : Ig W B (.slice (some ⟨ga, 0, none⟩) n c) us ims) {j : Nat} (hj : j < ims.length) : ∃ a c2, W.cell? ⟨ga, j, none⟩ = some (.slice a 512 c2) ∧ IsB W (.slice a 512 c2) (ims.getD j []) ∧ ∀ b, blkOf (.slice a 512 c2) = some b → Ty W b 5 := by
 have hl := h.len
 obtain ⟨a, c2, q1, q2, q3⟩ := h.each j (by omega)
 exact ⟨a, c2, by rw [Row.cellAt h.own (by omega)]; exact q1, q2, q3⟩
theorem Ig.shape {W : World} {B : Nat} {v : Value} {us : List Value} {ims : List (List Int)} (h : Ig W B v us ims) (h0 : 0 < ims.length) : ∃ ga c, v = .slice (some ⟨ga, 0, none⟩) ims.length c ∧ B ≤ ga ∧ ims.length ≤ c ∧ c ≤ 9223372036854775807 := by
 have hl := h.len
 rcases h.own.2 with ⟨_, h1⟩ | ⟨ga, c, cur, hv, hB, _, q1, q2, _⟩
 · omega
 · exact ⟨ga, c, by rw [hv, hl], hB, by omega, by unfold maxLen at q2; omega⟩
theorem Im.ig {W : World} {B : Nat} {v : Value} {us : List Value} {ims : List (List Int)} (h : Im W B v us ims) : Ig W B v us ims :=
 ⟨h.own, h.len, fun j hj => by
   obtain ⟨g, _, q2, q3⟩ := h.each j hj
   have hs : IsSec (ims.getD j []) := h.secs _ (by
    have hl := h.len
    rw [List.getD_eq_getElem?_getD, List.getElem?_eq_getElem (by omega)]
    exact List.getElem_mem _)
   refine ⟨some ⟨g, 0, none⟩, 512, q2, isB_arr q3 hs.1.symm (Nat.le_refl _) (by omega) hs.2, fun b hb => ?_⟩
   cases hb
   exact q3.ty, h.secs⟩
end Go.Proofs.YtdalbalphagmfaaGreatDoor

namespace Go.Proofs.YtdalbalphagmfaaGreatDoor
open Go.RowKit Go.Maps

end Go.Proofs.YtdalbalphagmfaaGreatDoor

namespace Go.Proofs.YtdalbalphagmfaaGreatDoor
open Go.RowKit Go.Maps

section
variable {ops : Array Oper} {rest : List Oper} {o : Oper} {a : Act} {Q : Exit → Act → World → Prop} {w : World} {K : Act → World → Prop} {E : Prop}
/-- A struct or an array read behind a guard that holds. -/
theorem wpList_load6On (hw : Region.wanted o (yielded ops a.tmps) = true) (ty : TypeId) (x : Operand) (ho : o.op = .load ty x) (b f : Nat) (hx : a.eval x = .pointer (some ⟨b, f, none⟩)) (cs : List Value) (d : TypeDesc) (hc : w.rangeAt b f cs)
 (hu : Tryz.prog.underlying ty = some d) (hd : d.isRow = true) (hi : (Tryz.prog.info? ty).map (·.size) = some cs.length) (h : wpList Tryz.prog ops Q rest (a.put o.dst (.agg cs.toArray)) w) : wpList Tryz.prog ops Q (o :: rest) a w :=
 wpList_on hw fun _ hK => wp_load_mid ty x ho b f hx cs d hc hu hd hi (hK _ _ h)
theorem step_call4GC (hw : Region.wanted o (yielded ops a.tmps) = true) (f : Nat) (hf : ∀ (v u z q : Value) (W : World), (callFunc f #[v, u, z, q]).run Tryz.prog W = .ok (.enter f #[v, u, z, q]) W) (x y t s : Operand) (ts : Array TypeId) (ho : o.op = .call { callee := .value (.func f), args := #[x, y, t, s], argTypes := ts }) {v u z q : Value} (hx : a.eval x = v) (hy : a.eval y = u) (ht : a.eval t = z) (hs : a.eval s = q)
 {Post : Ending → World → Prop} (hc : Calls Tryz.prog f #[v, u, z, q] w Post) (hk : ∀ e w2, Post e w2 → ∃ r, e = .returned r ∧ K (a.put o.dst r) w2) :
 if Region.wanted o (yielded ops a.tmps) = true then Oper.wp Tryz.prog o a w K Q else E := by
 rw [if_pos hw]
 have hrun : (execOp a.eval o).run Tryz.prog w = .ok (.enter f #[v, u, z, q]) w := by
  have h1 := hf v u z q w
  unfold execOp
  have hfv : a.eval (.func f) = .func (.func f) #[] #[] := rfl
  simp [ho, hx, hy, ht, hs, hfv, resolve, invoke, Deferred.ofValue, h1]
 unfold Oper.wp
 rw [hrun]
 refine hc.mono ?_
 intro e w2 hp
 obtain ⟨r, rfl, hK⟩ := hk e w2 hp
 exact hK
end
end Go.Proofs.YtdalbalphagmfaaGreatDoor
