/- Lists of texts: appended, cut, laid with marks behind. -/
import Derived.Test.YtfhfobikbfbajaaGreatDoorTAG
import Derived.Laws.AppendOwnNone
namespace Go.Proofs.YtfhfobikbfbajaaGreatDoor
open Go.RowKit

theorem IsS.cells {w : World} {ad : Addr} {n cap : Nat} {l : List ByteArray} (h : IsS w (.slice (some ad) n cap) l) : ∀ j u, (sV l)[j]? = some u → w.cell? (ad.add j) = some u := by
  intro j u hu
  obtain ⟨a, c, hv, _, _, _, hc⟩ := h
  have hj : j < l.length := by
    have := (List.getElem?_eq_some_iff.1 hu).1
    rwa [sV_len] at this
  obtain ⟨b, o, ha, hcell⟩ := hc (by omega)
  injection hv with e1 e2 e3
  rw [ha] at e1
  injection e1 with e1
  subst e1
  rw [Addr.add_lit, hcell j hj, ← hu]
  unfold sV
  rw [List.getElem?_map, List.getD_eq_getElem?_getD, List.getElem?_eq_getElem hj]
  rfl
theorem str_one (l : List ByteArray) : ∀ u ∈ sV l, u.oneCell' = true := by
  intro u hu
  obtain ⟨x, _, rfl⟩ := List.mem_map.1 hu
  rfl
theorem IsS.lenEq {w : World} {a : Option Addr} {n cap : Nat} {l : List ByteArray} (h : IsS w (.slice a n cap) l) : n = l.length := by
  obtain ⟨_, _, hv, _⟩ := h
  injection hv
section
variable {ops : Array Oper} {rest : List Oper} {o : Oper} {a : Act} {Q : Exit → Act → World → Prop} {w : World} {K : Act → World → Prop}
theorem wpList_onS (hw : Region.wanted o (yielded ops a.tmps) = true) (h : ∀ K : Act → World → Prop, (∀ a w, wpList Tryz.prog ops Q rest a w → K a w) → o.wp Tryz.prog a w K Q) : wpList Tryz.prog ops Q (o :: rest) a w :=
  wpList_step fun K hK => by rw [if_pos hw]; exact h K hK
/-- Texts appended to a row of the call's own. -/
theorem wp_appStr (x y : Operand) (ho : o.op = .call { callee := .builtin .append, args := #[x, y], argTypes := #[22, 22] }) {B : Nat} {v u : Value} {xs ys : List ByteArray} (hx : a.eval x = v) (hown : Row w B 9 v (sV xs)) (hy : a.eval y = u) (hys : IsS w u ys)
    (hl : xs.length + ys.length ≤ 100000000) (hB : B ≤ w.heap.size) (hk : ∀ v' w', Row w' B 9 v' (sV (xs ++ ys)) → w.grownBy w' v.ownBlock → K (a.put o.dst v') w') : o.wp Tryz.prog a w K Q := by
  obtain ⟨i0, hi, hz0, hz1, hz2⟩ := info_part infoStr
  have hys' := hys
  obtain ⟨ad, cap, rfl, _, _, hz, hc⟩ := hys
  cases ad with
  | none =>
    have h0 : ys = [] := by
      by_cases hp : 0 < ys.length
      · obtain ⟨b2, off2, ha, _⟩ := hc hp
        cases ha
      · exact List.eq_nil_of_length_eq_zero (by omega)
    subst h0
    obtain rfl := hz rfl
    have hrun := run_append_owned_none (P := Tryz.prog) (w := w) B 22 o.type 9 i0 1 Tryz.underlying22 hi v _ _ hown
    have := hk v w (by rw [List.append_nil]; exact hown) ⟨rfl, rfl, rfl, Nat.le_refl _, fun _ _ _ => rfl⟩
    unfold Oper.wp
    simp [execOp, ho, resolve, invoke, builtin, hx, hy, hrun, Result.andThen]
    exact this
  | some ad =>
    have hxl := sV_len xs
    have hyl := sV_len ys
    refine wp_append_own w x y 22 ho B 9 i0 (.string ByteArray.empty) 1 16 Tryz.underlying22 hi hz0 hz1 hz2 rfl (by decide) v (sV xs).length (sV xs) hx hown ad ys.length cap (sV ys) hy (by rw [hyl]; omega) hys'.cells (str_one ys) (by unfold maxLen; omega) (by omega) hB ?_
    intro v' w' h2 h3 _
    refine hk v' w' ?_ h3
    unfold Row
    rw [sV_len, List.length_append]
    rw [hxl] at h2
    unfold sV at h2 ⊢
    rw [List.map_append]
    exact h2
theorem wpList_appStr (hw : Region.wanted o (yielded ops a.tmps) = true) (x y : Operand) (ho : o.op = .call { callee := .builtin .append, args := #[x, y], argTypes := #[22, 22] }) {B : Nat} {v u : Value} {xs ys : List ByteArray} (hx : a.eval x = v) (hown : Row w B 9 v (sV xs)) (hy : a.eval y = u) (hys : IsS w u ys)
    (hl : xs.length + ys.length ≤ 100000000) (hB : B ≤ w.heap.size) (hk : ∀ v' w', Row w' B 9 v' (sV (xs ++ ys)) → w.grownBy w' v.ownBlock → wpList Tryz.prog ops Q rest (a.put o.dst v') w') : wpList Tryz.prog ops Q (o :: rest) a w :=
  wpList_onS hw fun _ hK => wp_appStr x y ho hx hown hy hys hl hB fun v' w' h1 h2 => hK _ _ (hk v' w' h1 h2)
end
theorem isS_lit (w : World) (l : List ByteArray) (hl : l.length ≤ 1000) : IsS (w.alloc (.cells (l.map Value.string).toArray 9)) (.slice (some ⟨w.heap.size, 0, none⟩) l.length l.length) l :=
  isS_block (by omega) (heap_alloc_new w _)
theorem elemS : Tryz.prog.underlying 22 = some (.slice (Tryz.prog.elem 22)) := by kernel_rfl
theorem sizeS (W : World) : (sizeOf (Tryz.prog.elem 22)).run Tryz.prog W = .ok 1 W := by kernel_rfl
def subAx (a : Option Addr) (cap q : Nat) : Option Addr := if cap = q then a else a.map (·.add q)
theorem slice_hS (a : Option Addr) (n cap t : Nat) (ht : t ≤ cap) (W : World) : (Instr.sliceAt 22 (.slice a n cap) none (some (.int .i64 (t : Int))) none).run Tryz.prog W = .ok (.slice (subAx a cap 0) t cap) W := by
  rw [run_sliceAt_slice W _ _ _ _ _ elemS, run_slice_h W _ a n cap elemS .i64 t (by omega) (by omega), sizeS]
  simp [Result.andThen, sliced, subAx]
end Go.Proofs.YtfhfobikbfbajaaGreatDoor
