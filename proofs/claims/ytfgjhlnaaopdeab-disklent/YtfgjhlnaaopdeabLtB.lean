/- DiskLent: appends and parts of slices. -/
import Derived.Test.YtfgjhlnaaopdeabLtA
namespace Go.Proofs.Ytfgjhlnaaopdeab
open Go.RowKit Go.Maps

theorem info8L : (Try.prog.info? 3).map (fun i => (i.zero, i.size, i.bytes)) = some (some (.int .i64 0), 1, 8) := by kernel_rfl
theorem infoSlL : (Try.prog.info? 23).map (fun i => (i.zero, i.size, i.bytes)) = some (some (.slice none 0 0), 1, 24) := by kernel_rfl
section
variable {ops : Array Oper} {rest : List Oper} {o : Oper} {a : Act} {Q : Exit → Act → World → Prop} {w : World}
set_option maxRecDepth 100000 in
/-- One slice appended to a row of slices. -/
theorem wpList_appR1 (hgd : o.guard = none) (x y : Operand) (ho : o.op = .call { callee := .builtin .append, args := #[x, y], argTypes := #[33, 33] }) {B g : Nat} {v u : Value} {us : List Value} (hx : a.eval x = v) (hown : Row w B 23 v us) (hy : a.eval y = .slice (some ⟨g, 0, none⟩) 1 1)
    (hc : w.cell? ⟨g, 0, none⟩ = some u) (h1 : u.oneCell' = true) (hl : us.length ≤ 1000000) (hB : B ≤ w.heap.size)
    (hk : ∀ v' w', Row w' B 23 v' (us ++ [u]) → w.grownBy w' v.ownBlock → wpList Try.prog ops Q rest (a.put o.dst v') w') : wpList Try.prog ops Q (o :: rest) a w := by
  obtain ⟨i0, hi, hz0, hz1, hz2⟩ := info_parts infoSlL
  refine wpList_plain hgd fun K hK => wp_append_own w x y 33 ho B 23 i0 _ 1 24 Try.underlying33 hi hz0 hz1 hz2 rfl (by decide) v us.length _ hx hown ⟨g, 0, none⟩ 1 1 [u] hy rfl (fun j z hu => ?_) (fun z hu => ?_) (by unfold maxLen; omega) (by omega) hB ?_
  · cases j with
    | zero =>
      injection hu with hu
      subst hu
      exact hc
    | succ j => simp at hu
  · rw [List.mem_singleton.1 hu]; exact h1
  · intro v' w' r1 r2 _
    refine hK _ _ (hk v' w' ?_ r2)
    unfold Row
    rw [List.length_append, List.length_singleton]
    exact r1
set_option maxRecDepth 100000 in
/-- Numbers appended to a row of numbers. -/
theorem wpList_appN (hgd : o.guard = none) (x y : Operand) (ho : o.op = .call { callee := .builtin .append, args := #[x, y], argTypes := #[40, 40] }) {B : Nat} {v u : Value} {xs : List Value} {ys : List Int} (hx : a.eval x = v) (hown : Row w B 3 v xs) (hy : a.eval y = u) (hys : IsI w u ys) (hz : ∀ n c, u = .slice none n c → c = 0)
    (hl : (xs.length + ys.length) * 8 ≤ 140737488355328) (hB : B ≤ w.heap.size)
    (hk : ∀ v' w', Row w' B 3 v' (xs ++ ys.map (Value.int .i64)) → w.grownBy w' v.ownBlock → wpList Try.prog ops Q rest (a.put o.dst v') w') : wpList Try.prog ops Q (o :: rest) a w := by
  obtain ⟨i0, hi, hz0, hz1, hz2⟩ := info_parts info8L
  obtain ⟨hbd, ad, cap, rfl, hle, hm, hc⟩ := hys
  cases ad with
  | none =>
    have h0 : ys = [] := by
      by_cases hp : 0 < ys.length
      · obtain ⟨b2, off2, ha, _⟩ := hc hp
        cases ha
      · exact List.eq_nil_of_length_eq_zero (by omega)
    subst h0
    obtain rfl := hz _ _ rfl
    have hrun := run_append_owned_none (P := Try.prog) (w := w) B 40 o.type 3 i0 1 Try.underlying40 hi v _ _ hown
    have := hk v w (by rw [List.map_nil, List.append_nil]; exact hown) ⟨rfl, rfl, rfl, Nat.le_refl _, fun _ _ _ => rfl⟩
    refine wpList_plain hgd fun K hK => ?_
    have h2 := hK _ _ this
    unfold Oper.wp
    simp [execOp, ho, resolve, invoke, builtin, hx, hy, hrun, Result.andThen]
    exact h2
  | some ad =>
    refine wpList_plain hgd fun K hK => wp_append_own w x y 40 ho B 3 i0 _ 1 8 Try.underlying40 hi hz0 hz1 hz2 rfl (by decide) v xs.length _ hx hown ad ys.length cap (ys.map (Value.int .i64)) hy (by simp) (fun j z hu => ?_) (fun z hu => ?_) (by unfold maxLen; omega) (by omega) hB ?_
    · rw [List.getElem?_map] at hu
      by_cases hj : j < ys.length
      · obtain ⟨b2, off2, ha, hcc⟩ := hc (by omega)
        injection ha with ha
        subst ha
        rw [List.getElem?_eq_getElem hj] at hu
        injection hu with hu
        subst hu
        have := hcc j hj
        rw [List.getD_eq_getElem?_getD, List.getElem?_eq_getElem hj] at this
        rw [Addr.add_lit]
        exact this
      · rw [List.getElem?_eq_none (by omega)] at hu
        cases hu
    · obtain ⟨y, _, rfl⟩ := List.mem_map.1 hu
      rfl
    · intro v' w' r1 r2 _
      refine hK _ _ (hk v' w' ?_ r2)
      unfold Row
      rw [List.length_append, List.length_map]
      exact r1
end
theorem elemB : Try.prog.underlying 23 = some (.slice (Try.prog.elem 23)) := by kernel_rfl
theorem sizeB (W : World) : (sizeOf (Try.prog.elem 23)).run Try.prog W = .ok 1 W := by kernel_rfl
theorem elemS : Try.prog.underlying 33 = some (.slice (Try.prog.elem 33)) := by kernel_rfl
theorem sizeS (W : World) : (sizeOf (Try.prog.elem 33)).run Try.prog W = .ok 1 W := by kernel_rfl
theorem elemI : Try.prog.underlying 40 = some (.slice (Try.prog.elem 40)) := by kernel_rfl
theorem sizeI (W : World) : (sizeOf (Try.prog.elem 40)).run Try.prog W = .ok 1 W := by kernel_rfl
theorem cutB {g n c m : Nat} (hm : m ≤ c) (h0 : 0 < c) (W : World) : (Instr.sliceAt 23 (.slice (some ⟨g, 0, none⟩) n c) none (some (.int .i64 (m : Int))) none).run Try.prog W = .ok (.slice (some ⟨g, 0, none⟩) m c) W := by
  rw [run_sliceAt_slice W _ _ _ _ _ elemB, run_slice_h W _ _ n c elemB .i64 m (by omega) (by omega), sizeB]
  have h1 : ¬ c = 0 := by omega
  simp [Result.andThen, sliced, h1, Addr.add]
theorem cutS {g n c m : Nat} (hm : m ≤ c) (h0 : 0 < c) (W : World) : (Instr.sliceAt 33 (.slice (some ⟨g, 0, none⟩) n c) none (some (.int .i64 (m : Int))) none).run Try.prog W = .ok (.slice (some ⟨g, 0, none⟩) m c) W := by
  rw [run_sliceAt_slice W _ _ _ _ _ elemS, run_slice_h W _ _ n c elemS .i64 m (by omega) (by omega), sizeS]
  have h1 : ¬ c = 0 := by omega
  simp [Result.andThen, sliced, h1, Addr.add]
theorem cutI {g n c m : Nat} (hm : m ≤ c) (h0 : 0 < c) (W : World) : (Instr.sliceAt 40 (.slice (some ⟨g, 0, none⟩) n c) none (some (.int .i64 (m : Int))) none).run Try.prog W = .ok (.slice (some ⟨g, 0, none⟩) m c) W := by
  rw [run_sliceAt_slice W _ _ _ _ _ elemI, run_slice_h W _ _ n c elemI .i64 m (by omega) (by omega), sizeI]
  have h1 : ¬ c = 0 := by omega
  simp [Result.andThen, sliced, h1, Addr.add]
/-- A row of bytes, cut, reads its first part. -/
theorem row_own8 {w : World} {B g n c m : Nat} {xs : List Int} (h : Row w B 5 (.slice (some ⟨g, 0, none⟩) n c) (xs.map (Value.int .u8))) (hm : m ≤ xs.length) (hb : ∀ x ∈ xs, 0 ≤ x ∧ x ≤ 255) : Own8 w B (.slice (some ⟨g, 0, none⟩) m c) (xs.take m) := by
  have h1 := h.part (m := m) (by rw [List.length_map]; exact hm)
  rw [← List.map_take] at h1
  refine ⟨?_, fun x hx => hb x (List.mem_of_mem_take hx)⟩
  unfold Row at h1
  rw [List.length_map] at h1
  exact h1
theorem row_isI {w : World} {B g n c m : Nat} {xs : List Int} (h : Row w B 3 (.slice (some ⟨g, 0, none⟩) n c) (xs.map (Value.int .i64))) (hm : m ≤ xs.length) (hb : ∀ x ∈ xs.take m, -9223372036854775808 ≤ x ∧ x ≤ 9223372036854775807) : IsI w (.slice (some ⟨g, 0, none⟩) m c) (xs.take m) := by
  have hl : (xs.take m).length = m := by simp; omega
  have hc := h.cap
  rw [List.length_map] at hc
  refine ⟨hb, some ⟨g, 0, none⟩, c, by rw [hl], by omega, by omega, fun _ => ⟨g, 0, rfl, fun j hj => ?_⟩⟩
  rw [hl] at hj
  rw [Nat.zero_add, h.cellAt (by rw [List.length_map]; omega), List.getElem?_map, List.getElem?_eq_getElem (by omega), List.getD_eq_getElem?_getD, List.getElem?_take_of_lt hj, List.getElem?_eq_getElem (by omega)]
  rfl
/-- The rows that are handed in. -/
def rowL (xs : List Int) (a b c : Int) : List Int := secOf xs ++ [a, b, c]
end Go.Proofs.Ytfgjhlnaaopdeab
