/- Calls inside a region that draws its order; strings.Clone, by the library's own contract: the numbering is ours. -/
import Derived.Test.YtcdilcjgmcamcabTkH
import Derived.Shelf.Pu.Clone
namespace Go.Proofs.Ytcdilcjgmcamcab
open Go.RowKit Go.Shelf

section
variable {ops : Array Oper} {rest : List Oper} {o : Oper} {a : Act} {Q : Exit → Act → World → Prop} {w : World} {K : Act → World → Prop} {E : Prop}
theorem step_call1C (hgd : o.guard = none) (f : Nat) (hf : ∀ (v : Value) (W : World), (callFunc f #[v]).run Try.prog W = .ok (.enter f #[v]) W) (x : Operand) (ts : Array TypeId) (ho : o.op = .call { callee := .value (.func f), args := #[x], argTypes := ts }) {v : Value} (hx : a.eval x = v)
    {Post : Ending → World → Prop} (hc : Calls Try.prog f #[v] w Post) (hk : ∀ e w2, Post e w2 → ∃ r, e = .returned r ∧ K (a.put o.dst r) w2) :
    if Region.wanted o (yielded ops a.tmps) = true then Oper.wp Try.prog o a w K Q else E := by
  rw [if_pos (by simp [Region.wanted, hgd])]
  have hrun : (execOp a.eval o).run Try.prog w = .ok (.enter f #[v]) w := by
    have h1 := hf v w
    unfold execOp
    have hfv : a.eval (.func f) = .func (.func f) #[] #[] := rfl
    simp [ho, hx, hfv, resolve, invoke, Deferred.ofValue, h1]
  unfold Oper.wp
  rw [hrun]
  refine hc.mono ?_
  intro e w2 hp
  obtain ⟨r, rfl, hK⟩ := hk e w2 hp
  exact hK
theorem step_call4C (hgd : o.guard = none) (f : Nat) (hf : ∀ (v u z q : Value) (W : World), (callFunc f #[v, u, z, q]).run Try.prog W = .ok (.enter f #[v, u, z, q]) W) (x y t s : Operand) (ts : Array TypeId) (ho : o.op = .call { callee := .value (.func f), args := #[x, y, t, s], argTypes := ts }) {v u z q : Value} (hx : a.eval x = v) (hy : a.eval y = u) (ht : a.eval t = z) (hs : a.eval s = q)
    {Post : Ending → World → Prop} (hc : Calls Try.prog f #[v, u, z, q] w Post) (hk : ∀ e w2, Post e w2 → ∃ r, e = .returned r ∧ K (a.put o.dst r) w2) :
    if Region.wanted o (yielded ops a.tmps) = true then Oper.wp Try.prog o a w K Q else E := by
  rw [if_pos (by simp [Region.wanted, hgd])]
  have hrun : (execOp a.eval o).run Try.prog w = .ok (.enter f #[v, u, z, q]) w := by
    have h1 := hf v u z q w
    unfold execOp
    have hfv : a.eval (.func f) = .func (.func f) #[] #[] := rfl
    simp [ho, hx, hy, ht, hs, hfv, resolve, invoke, Deferred.ofValue, h1]
  unfold Oper.wp
  rw [hrun]
  refine hc.mono ?_
  intro e w2 hp
  obtain ⟨r, rfl, hK⟩ := hk e w2 hp
  exact hK
end
def renC : Ren := ⟨fun n => if n = 25 then 58 else 0, fun n => if n = 3 then 3 else if n = 4 then 4 else if n = 5 then 5 else if n = 9 then 9 else if n = 37 then 50 else if n = 47 then 70 else 0, fun n => n⟩
theorem laysC : LaysPu.n25 Try.prog renC := by
  constructor
  all_goals first | kernel_rfl | (intro w; kernel_rfl)
theorem clone1_calls (s : ByteArray) (hs : s.size ≤ 1000000) (w : World) : Calls Try.prog 58 #[.string s] w fun e w' => e = .returned (.string s) ∧ Below w.heap.size w w' := AnyPu.stringslite_Clone laysC s w (by omega)
set_option maxHeartbeats 1000000 in
theorem clone_calls (s : ByteArray) (hs : s.size ≤ 1000000) (w : World) : Calls Try.prog 54 #[.string s] w fun e w' => e = .returned (.string s) ∧ Below w.heap.size w w' := by
  have H := hide (clone1_calls s hs w)
  go_enter Try.func54, Try.ntmps54
  go_wp2_with fail
  refine (unhide H).mono ?_
  rintro e w1 ⟨rfl, hb1⟩
  go_wp2
  go_ret
  exact ⟨rfl, hb1⟩
end Go.Proofs.Ytcdilcjgmcamcab
