/- Bytes made, copied, and zeros put behind them. -/
import Derived.Test.YtpklbchbldipnaaDoorNAj
import Derived.Laws.CopyOwn
import Derived.Laws.OwnMore
import Derived.Lib.AppendZerosOnto
import Derived.Deep.DeepAppendWide
namespace Go.Proofs.YtpklbchbldipnaaDoor
open Go.RowKit Go.Maps

theorem rep_byte (n : Nat) : ∀ x ∈ List.replicate n (0 : Int), 0 ≤ x ∧ x ≤ 255 := fun x hx => by
  rw [List.eq_of_mem_replicate hx]; omega
section
variable {ops : Array Oper} {rest : List Oper} {o : Oper} {a : Act} {Q : Exit → Act → World → Prop} {w : World}
theorem wpList_make8 (hgd : o.guard = none) (l c : Operand) (ho : o.op = .makeSlice 27 l c) {n : Nat} (hn : n ≤ 10000000) (hl : a.eval l = .int .i64 (n : Int)) (hc : a.eval c = .int .i64 (n : Int))
    (hk : ∀ w', Own8 w' w.heap.size (.slice (some ⟨w.heap.size, 0, none⟩) n n) (List.replicate n 0) → Below w.heap.size w w' → wpList Tryd.prog ops Q rest (a.put o.dst (.slice (some ⟨w.heap.size, 0, none⟩) n n)) w') : wpList Tryd.prog ops Q (o :: rest) a w := by
  refine wpList_plain hgd fun K hK => ?_
  obtain ⟨i0, hi, hz0, hz1, hz2⟩ := info_parts info8
  obtain ⟨w', hrun, r1, r2⟩ := run_make_full (P := Tryd.prog) w w.heap.size 27 5 i0 (.int .u8 0) 1 Tryd.underlying27 hi hz0 hz1 .i64 .i64 n (by rw [hz2]; omega) (by unfold maxLen; omega) (Nat.le_refl _)
  unfold Oper.wp execOp
  simp only [ho, hl, hc, Sem.run_bind, hrun, Result.andThen_ok, Sem.run_pure]
  rw [made8] at r1
  refine hK _ _ (hk w' ⟨?_, rep_byte n⟩ ((Below.refl _ _).grown r2 (Nat.le_refl _) (fun b hb => by cases hb)))
  rw [List.length_replicate, List.map_replicate]
  exact r1
theorem wpList_copy8 (hgd : o.guard = none) (d s : Operand) (ho : o.op = .call { callee := .builtin .copy, args := #[d, s], argTypes := #[27, 27] }) {B g R : Nat} {u : Value} {xs ys : List Int} (hd : a.eval d = .slice (some ⟨g, 0, none⟩) R R) (hs : a.eval s = u)
    (hown : Own8 w B (.slice (some ⟨g, 0, none⟩) R R) xs) (hys : IsB w u ys) (hy0 : 0 < ys.length)
    (hk : ∀ w', Own8 w' B (.slice (some ⟨g, 0, none⟩) R R) (ys.take R ++ xs.drop ys.length) → w.grownBy w' (some g) → ∀ v, wpList Tryd.prog ops Q rest (a.put o.dst v) w') : wpList Tryd.prog ops Q (o :: rest) a w := by
  have hsz : (Tryd.prog.info? 5).map (·.size) = some 1 := by
    obtain ⟨i0, hi, _, hz1, _⟩ := info_parts info8
    rw [hi]; simp [hz1]
  obtain ⟨ua, un, uc, rfl⟩ := hys.shape
  have hun := hys.lenEq
  have hmy := hys.mem
  subst hun
  obtain ⟨_, a2, c2, hv2, _, _, _, hc2⟩ := hys
  obtain ⟨b2, off2, ha2, hcell⟩ := hc2 hy0
  injection hv2 with f1 f2 f3
  subst f1 f3
  subst ha2
  obtain ⟨⟨hlen, hr2⟩, hmx⟩ := hown
  rcases hr2 with ⟨h, _⟩ | ⟨g3, cap, cur, h, hb, hg, hnc, hcm, hcs, htake⟩
  · cases h
  · injection h with h1 h2 h3
    injection h1 with h1
    injection h1 with h1
    subst h1 h3
    simp only [Nat.mul_one] at hcs htake
    have hcur : cur.toList = xs.map (Value.int .u8) := by rw [← htake, List.take_of_length_le (by simp; omega)]
    have hll : (ys.take R).length = Nat.min ys.length R := by rw [List.length_take]; exact Nat.min_comm _ _
    refine wpList_copy_own hgd d s _ _ ho 5 Tryd.underlying27 hsz g 0 R R ⟨b2, off2, none⟩ ys.length _ hd hs cur 5 hg ((ys.take R).map (Value.int .u8)) (by rw [List.length_map, hll]) (fun j v hj => ?_) (by simp; omega) (u8_one _) ?_
    · simp only [List.getElem?_map, Option.map_eq_some_iff] at hj
      obtain ⟨x, hx, rfl⟩ := hj
      have hjl := (List.getElem?_eq_some_iff.1 hx).1
      rw [List.length_take] at hjl
      rw [List.getElem?_take_of_lt (by omega)] at hx
      rw [Addr.add_lit, hcell j (by omega), List.getD_eq_getElem?_getD, hx]
      rfl
    · refine hk _ ?_ ?_ _
      rotate_left
      · exact ⟨rfl, rfl, rfl, by simp, fun k _ hk => setRow_other w g k _ (fun e => hk (by simp [e]))⟩
      refine ⟨?_, fun x hx => ?_⟩
      · have hL : (ys.take R ++ xs.drop ys.length).length = R := by rw [List.length_append, List.length_take, List.length_drop]; omega
        have hD : cur.toList.drop ((ys.take R).map (Value.int .u8)).length = (xs.drop ys.length).map (Value.int .u8) := by
          rw [hcur, List.length_map, List.length_take, List.map_drop]
          by_cases hle : ys.length ≤ R
          · rw [Nat.min_eq_right hle]
          · rw [Nat.min_eq_left (by omega), List.drop_eq_nil_of_le (by simp; omega), List.drop_eq_nil_of_le (by simp; omega)]
        rw [hL]
        refine ⟨by rw [List.length_map, hL, Nat.mul_one], .inr ⟨g, R, _, rfl, hb, setRow_heap w g cur _ _ _ hg, Nat.le_refl _, hcm, ?_, ?_⟩⟩
        · rw [List.take_zero, List.nil_append, Nat.zero_add, hD, ← List.map_append, List.size_toArray, List.length_map, hL, Nat.mul_one]
        · rw [List.take_zero, List.nil_append, Nat.zero_add, hD, ← List.map_append, List.take_of_length_le (by simp only [List.length_map]; omega)]
      · rcases List.mem_append.1 hx with hx | hx
        · exact hmy x (List.mem_of_mem_take hx)
        · exact hmx x (List.mem_of_mem_drop hx)
theorem zero8 (n : Nat) : (Builtin.zeroCells (Value.int .u8 0).cells n).toList = List.replicate n (.int .u8 0) := by
  have h : (Value.int .u8 0).cells = #[.int .u8 0] := rfl
  simp [Builtin.zeroCells, h, Nat.mod_one, List.map_const']
theorem wpList_appZ (hgd : o.guard = none) (d s : Operand) (ho : o.op = .call { callee := .builtin .append, args := #[d, s], argTypes := #[27, 3] }) {g n k : Nat} {xs : List Int} (hd : a.eval d = .slice (some ⟨g, 0, none⟩) n n) (hs : a.eval s = .int .i64 (k : Int))
    (hx : IsB w (.slice (some ⟨g, 0, none⟩) n n) xs) (hn0 : 0 < n) (hk0 : 0 < k) (hl : n + k ≤ 10000000)
    (hk : ∀ v' w', IsB w' v' (xs ++ List.replicate k 0) → Below w.heap.size w w' → wpList Tryd.prog ops Q rest (a.put o.dst v') w') : wpList Tryd.prog ops Q (o :: rest) a w := by
  obtain ⟨i0, hi, hz0, hz1, hz2⟩ := info_parts info8
  have hxl := hx.lenEq
  have hmx := hx.mem
  obtain ⟨_, a2, c2, hv2, _, _, _, hc2⟩ := hx
  obtain ⟨b2, off2, ha2, hcell⟩ := hc2 (by omega)
  injection hv2 with f1 f2 f3
  rw [ha2] at f1
  injection f1 with f1
  injection f1 with e1 e2
  subst e1 e2
  have hold : (Builtin.firstCells i0.size n (.slice (some ⟨g, 0, none⟩) n n)).run Tryd.prog w.drew = .ok (xs.map (Value.int .u8)).toArray w.drew := by
    rw [hz1]
    refine run_firstCells_some (w := w.drew) 1 n ⟨g, 0, none⟩ n n _ (by rw [List.length_map]; omega) (fun j v hj => ?_)
    simp only [List.getElem?_map, Option.map_eq_some_iff] at hj
    obtain ⟨x, hx, rfl⟩ := hj
    have hjl := (List.getElem?_eq_some_iff.1 hx).1
    have := hcell j (by omega)
    rw [Addr.add_lit]
    rw [List.getD_eq_getElem?_getD, hx] at this
    exact this
  have hrun := Go.Lib.run_append_grow_zeros (P := Tryd.prog) w 27 3 o.type 5 i0 (.int .u8 0) .i64 .i64 Tryd.underlying27 Tryd.underlying3 hi hz0 (some ⟨g, 0, none⟩) n n (xs.map (Value.int .u8)) hold k hk0 (by omega) (by omega) (by omega) (by rw [hz2]; omega) (growslice_fits_wide (by omega) (by rw [hz2]; omega))
  refine Go.Lib.wpList_append_run w hgd d s _ _ ho _ _ hd hs _ _ hrun (hk _ _ ?_ ((Below.refl _ _).drew.trans (((Below.refl _ _).alloc (Nat.le_refl _) _).mono (Nat.le_refl _))))
  have hge := grownCap_ge w (n + k) n 5
  have hle := grownCap_le_maxLen w (n + k) n 5 (by unfold maxLen; omega)
  generalize grownCap w (n + k) n 5 = cp at *
  have hL : (xs ++ List.replicate k 0).length = n + k := by rw [List.length_append, List.length_replicate]; omega
  refine ⟨bytes_mem (fun x hx => ?_), some ⟨w.heap.size, 0, none⟩, cp, by rw [hL], by omega, by simpa [maxLen] using hle, (fun e => by cases e), fun _ => ⟨w.heap.size, 0, rfl, fun j hj => ?_⟩⟩
  · rcases List.mem_append.1 hx with hx | hx
    · exact hmx x hx
    · exact rep_byte k x hx
  · have hA := Arr.new w.drew (((xs.map (Value.int .u8)).toArray ++ Builtin.zeroCells (Value.int .u8 0).cells k ++ Builtin.zeroCells (Value.int .u8 0).cells (cp - (n + k))).toList) 5
    rw [Array.toArray_toList] at hA
    have := Arr.cell hA j
    rw [Nat.zero_add]
    rw [show w.drew.heap.size = w.heap.size from rfl] at this
    rw [this, Array.toList_append, Array.toList_append, zero8, List.getElem?_append_left (by simp; omega)]
    rw [← List.map_replicate, ← List.map_append, List.getElem?_map, List.getElem?_eq_getElem hj, List.getD_eq_getElem?_getD, List.getElem?_eq_getElem hj]
    rfl
end
end Go.Proofs.YtpklbchbldipnaaDoor
