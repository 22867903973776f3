/- Keep. -/
import Derived.Test.YtifmfnkpogconaaDoorWd
import Derived.Laws.AppendOwnNone
namespace Go.Proofs.YtifmfnkpogconaaDoor
open Go.RowKit

theorem infoL : (Tryd.prog.info? 49).map (fun i => (i.zero, i.size, i.bytes)) = some (some (.slice none 0 0), 1, 24) := by kernel_rfl
theorem iV_one (l : List Nat) : ∀ u ∈ iV l, u.oneCell' = true := by
  intro u hu
  simp only [iV, List.mem_map] at hu
  obtain ⟨x, _, rfl⟩ := hu
  rfl
section
variable {ops : Array Oper} {rest : List Oper} {o : Oper} {a : Act} {Q : Exit → Act → World → Prop} {w : World} {K : Act → World → Prop}
/-- Numbers appended to a row of numbers of the call's own. -/
theorem wp_appI (x y : Operand) (ho : o.op = .call { callee := .builtin .append, args := #[x, y], argTypes := #[49, 49] }) {B b : Nat} {v u : Value} {xs ys : List Nat} (hx : a.eval x = v) (hown : Row w B 3 v (iV xs)) (hy : a.eval y = u) (hys : Row w b 3 u (iV ys))
    (hl : xs.length + ys.length ≤ 1000000000) (hB : B ≤ w.heap.size) (hk : ∀ v' w', Row w' B 3 v' (iV (xs ++ ys)) → w.grownBy w' v.ownBlock → K (a.put o.dst v') w') : o.wp Tryd.prog a w K Q := by
  obtain ⟨i0, hi, hz0, hz1, hz2⟩ := info_part infoI
  rcases hys.2 with ⟨rfl, h0⟩ | ⟨g, cap, cur, rfl, hbg, hg, hnc, hcm, hcs, htake⟩
  · have e0 : ys = [] := List.eq_nil_of_length_eq_zero (by rw [← iV_len]; exact h0)
    subst e0
    have hrun := run_append_owned_none (P := Tryd.prog) (w := w) B 49 o.type 3 i0 1 Tryd.underlying49 hi v _ _ hown
    have := hk v w (by rw [List.append_nil]; exact hown) ⟨rfl, rfl, rfl, Nat.le_refl _, fun _ _ _ => rfl⟩
    unfold Oper.wp
    simp [execOp, ho, resolve, invoke, builtin, hx, hy, hrun, Result.andThen]
    exact this
  · refine wp_append_own w x y 49 ho B 3 i0 (.int .i64 0) 1 8 Tryd.underlying49 hi hz0 hz1 hz2 rfl (by decide) v (iV xs).length (iV xs) hx hown ⟨g, 0, none⟩ (iV ys).length cap (iV ys) hy (by simp) (hys.cells (g := g) rfl) (iV_one ys) (by rw [iV_len, iV_len]; unfold maxLen; omega) (by rw [iV_len, iV_len]; omega) hB ?_
    intro v' w' h2 h3 _
    refine hk v' w' ?_ h3
    unfold Row
    have e : iV (xs ++ ys) = iV xs ++ iV ys := by simp [iV]
    rw [e, List.length_append]
    exact h2
theorem wpList_appI (hgd : o.guard = none) (x y : Operand) (ho : o.op = .call { callee := .builtin .append, args := #[x, y], argTypes := #[49, 49] }) {B b : Nat} {v u : Value} {xs ys : List Nat} (hx : a.eval x = v) (hown : Row w B 3 v (iV xs)) (hy : a.eval y = u) (hys : Row w b 3 u (iV ys))
    (hl : xs.length + ys.length ≤ 1000000000) (hB : B ≤ w.heap.size) (hk : ∀ v' w', Row w' B 3 v' (iV (xs ++ ys)) → w.grownBy w' v.ownBlock → wpList Tryd.prog ops Q rest (a.put o.dst v') w') : wpList Tryd.prog ops Q (o :: rest) a w :=
  wpList_plain hgd fun _ hK => wp_appI x y ho hx hown hy hys hl hB fun v' w' h1 h2 => hK _ _ (hk v' w' h1 h2)
end
theorem grown_set1 (w : World) (g j : Nat) (u : Value) : w.grownBy (w.setCell ⟨g, j, none⟩ u) (some g) :=
  ⟨rfl, rfl, rfl, by simp, fun k _ hk => heap_setCell_other w ⟨g, j, none⟩ k u (fun e => hk (by simp [e]))⟩
theorem cell_one_at (w : World) (x : Value) (t : TypeId) {k : Nat} (hk : w.heap.size = k) : ∀ j u, [x][j]? = some u → (w.alloc (.cells #[x] t)).cell? ((⟨k, 0, none⟩ : Addr).add j) = some u := by
  subst hk
  exact cell_one_new w x t
theorem owns_slice {w : World} {B : Nat} {t : TypeId} {s : Nat} {v : Value} {n : Nat} {cs : List Value} (h : w.ownsRow B t s v n cs) : ∃ a c, v = .slice a n c := by
  rcases h.2 with ⟨rfl, rfl⟩ | ⟨g, cap, cur, rfl, _⟩
  · exact ⟨none, 0, rfl⟩
  · exact ⟨_, cap, rfl⟩
/-- Only World's block, and rows of lists. -/
def TK (t : TypeId) : Prop := t = 34 ∨ t = 49
theorem cells_of_set {w : World} {g j : Nat} {cs : Array Value} {t : TypeId} (u : Value) (h : w.heap[g]? = some (.cells cs t (0, 0))) : (w.setCell ⟨g, j, none⟩ u).heap[g]? = some (.cells (cs.setIfInBounds j u) t (0, 0)) := heap_setCell_same w g j _ _ u h
end Go.Proofs.YtifmfnkpogconaaDoor
