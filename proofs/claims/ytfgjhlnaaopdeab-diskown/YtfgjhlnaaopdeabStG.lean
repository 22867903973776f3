/- Calls of three and four arguments, and conversions, in a drawn region; guarded ones too. -/
import Derived.Test.YtfgjhlnaaopdeabDkK
namespace Go.Proofs.Ytfgjhlnaaopdeab
open Go.RowKit Go.Maps

section
variable {ops : Array Oper} {o : Oper} {a : Act} {w : World} {K : Act → World → Prop} {Q : Exit → Act → World → Prop} {E : Prop}
theorem step_call3Gd (hw : Region.wanted o (yielded ops a.tmps) = true) (f : Nat) (hf : ∀ (v u z : Value) (W : World), (callFunc f #[v, u, z]).run Try.prog W = .ok (.enter f #[v, u, z]) W) (x y t : Operand) (ts : Array TypeId) (ho : o.op = .call { callee := .value (.func f), args := #[x, y, t], argTypes := ts }) {v u z : Value} (hx : a.eval x = v) (hy : a.eval y = u) (ht : a.eval t = z)
    {Post : Ending → World → Prop} (hc : Calls Try.prog f #[v, u, z] w Post) (hk : ∀ e w2, Post e w2 → ∃ r, e = .returned r ∧ K (a.put o.dst r) w2) :
    if Region.wanted o (yielded ops a.tmps) = true then Oper.wp Try.prog o a w K Q else E := by
  rw [if_pos hw]
  have hrun : (execOp a.eval o).run Try.prog w = .ok (.enter f #[v, u, z]) w := by
    have h1 := hf v u z w
    unfold execOp
    have hfv : a.eval (.func f) = .func (.func f) #[] #[] := rfl
    simp [ho, hx, hy, ht, hfv, resolve, invoke, Deferred.ofValue, h1]
  unfold Oper.wp
  rw [hrun]
  refine hc.mono ?_
  intro e w2 hp
  obtain ⟨r, rfl, hK⟩ := hk e w2 hp
  exact hK
theorem step_call4Gd (hw : Region.wanted o (yielded ops a.tmps) = true) (f : Nat) (hf : ∀ (v u z q : Value) (W : World), (callFunc f #[v, u, z, q]).run Try.prog W = .ok (.enter f #[v, u, z, q]) W) (x y t s : Operand) (ts : Array TypeId) (ho : o.op = .call { callee := .value (.func f), args := #[x, y, t, s], argTypes := ts }) {v u z q : Value} (hx : a.eval x = v) (hy : a.eval y = u) (ht : a.eval t = z) (hs : a.eval s = q)
    {Post : Ending → World → Prop} (hc : Calls Try.prog f #[v, u, z, q] w Post) (hk : ∀ e w2, Post e w2 → ∃ r, e = .returned r ∧ K (a.put o.dst r) w2) :
    if Region.wanted o (yielded ops a.tmps) = true then Oper.wp Try.prog o a w K Q else E := by
  rw [if_pos hw]
  have hrun : (execOp a.eval o).run Try.prog w = .ok (.enter f #[v, u, z, q]) w := by
    have h1 := hf v u z q w
    unfold execOp
    have hfv : a.eval (.func f) = .func (.func f) #[] #[] := rfl
    simp [ho, hx, hy, ht, hs, hfv, resolve, invoke, Deferred.ofValue, h1]
  unfold Oper.wp
  rw [hrun]
  refine hc.mono ?_
  intro e w2 hp
  obtain ⟨r, rfl, hK⟩ := hk e w2 hp
  exact hK
theorem step_conv (hw : Region.wanted o (yielded ops a.tmps) = true) (x : Operand) (ho : o.op = .convert 23 9 x) {v r : Value} (hx : a.eval x = v) (hrun : (convert 23 9 v).run Try.prog w = .ok r w)
    (hk : K (a.put o.dst r) w) : if Region.wanted o (yielded ops a.tmps) = true then Oper.wp Try.prog o a w K Q else E := by
  rw [if_pos hw]
  unfold Oper.wp execOp
  simp only [ho, hx, Sem.run_bind, hrun, Result.andThen_ok, Sem.run_pure]
  exact hk
end
end Go.Proofs.Ytfgjhlnaaopdeab
