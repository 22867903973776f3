/- What turned and Turn answer. -/
import Derived.Test.YtoiidhkpbekpiaaDoorKG
import Derived.Deep.RegionHeld3
namespace Go.Proofs.YtoiidhkpbekpiaaDoor
open Go.RowKit Go.Maps

section
variable {ops : Array Oper} {o : Oper} {a : Act} {w : World} {K : Act → World → Prop} {Q : Exit → Act → World → Prop} {E : Prop}
theorem step_storeMid (hgd : o.guard = none) (x y : Operand) (ho : o.op = .store 121 x y) {b of : Nat} {cs : List Value} (hx : a.eval x = .pointer (some ⟨b, of, none⟩)) (hy : a.eval y = .agg cs.toArray) (ht : w.there b of 512) (hl : cs.length = 512) (h1 : ∀ u ∈ cs, u.oneCell' = true)
    (hk : K (a.put o.dst undef) (w.setCells b of cs)) : if Region.wanted o (yielded ops a.tmps) = true then Oper.wp Tryd.prog o a w K Q else E := by
  rw [if_pos (by simp [Region.wanted, hgd])]
  exact wp_store_mid _ x y ho b of cs.toArray hx hy (by rw [List.size_toArray, hl]; exact ht) (by rw [List.size_toArray, hl]; kernel_rfl) (all_oneCell_toArray h1) hk
end
end Go.Proofs.YtoiidhkpbekpiaaDoor
