/- The document's Copy and Zeros. -/
import Derived.Test.YtbgknbjpbobebaaDoorKH
import Derived.Test.YtbgknbjpbobebaaDoorShare
namespace Go.Proofs.YtbgknbjpbobebaaDoor
open Go.RowKit Go.Maps

section
variable {ops : Array Oper} {rest : List Oper} {o : Oper} {a : Act} {Q : Exit → Act → World → Prop} {w : World} {K : Act → World → Prop}
/-- Bytes copied over the head of a row. -/
theorem wpList_copyRow (hgd : o.guard = none) (d s : Operand) (ho : o.op = .call { callee := .builtin .copy, args := #[d, s], argTypes := #[28, 28] }) {B g R c : Nat} {u : Value} {xs : List Value} {ys : List Int} (hd : a.eval d = .slice (some ⟨g, 0, none⟩) R c) (hs : a.eval s = u)
    (hrow : Row w B 5 (.slice (some ⟨g, 0, none⟩) R c) xs) (hys : IsB w u ys) (hle : ys.length ≤ R)
    (hk : ∀ w', Row w' B 5 (.slice (some ⟨g, 0, none⟩) R c) (ys.map (Value.int .u8) ++ xs.drop ys.length) → w.grownBy w' (some g) → wpList Tryd.prog ops Q rest (a.put o.dst (goInt ys.length)) w') : wpList Tryd.prog ops Q (o :: rest) a w := by
  have hsz : (Tryd.prog.info? 5).map (·.size) = some 1 := by
    obtain ⟨i0, hi, _, hz1, _⟩ := info_parts info8
    rw [hi]; simp [hz1]
  obtain ⟨a1, c1, hv⟩ := hrow.shape
  injection hv with e1 e2 e3
  obtain ⟨ua, un, uc, rfl⟩ := hys.shape
  have hun := hys.lenEq
  subst hun
  by_cases h0 : ys.length = 0
  · obtain rfl : ys = [] := List.eq_nil_of_length_eq_zero h0
    refine wpList_copy_nothing hgd d s _ _ ho 5 Tryd.underlying28 hsz _ _ _ _ _ _ hd hs (by simp) ?_
    exact hk w (by simpa using hrow) ⟨rfl, rfl, rfl, Nat.le_refl _, fun _ _ _ => rfl⟩
  · obtain ⟨_, a2, c2, hv2, _, _, _, hc2⟩ := hys
    obtain ⟨b2, off2, ha2, hcell⟩ := hc2 (by omega)
    injection hv2 with f1 f2 f3
    subst f1 f3
    subst ha2
    obtain ⟨hlen, hr2⟩ := hrow
    rcases hr2 with ⟨h, _⟩ | ⟨g3, cap, cur, h, hb, hg, hnc, hcm, hcs, htake⟩
    · cases h
    · injection h with h1 h2 h3
      injection h1 with h1
      injection h1 with h1
      subst h1 h3
      simp only [Nat.mul_one] at hcs htake
      refine wpList_copy_own hgd d s _ _ ho 5 Tryd.underlying28 hsz g 0 R c ⟨b2, off2, none⟩ ys.length _ hd hs cur 5 hg (ys.map (Value.int .u8)) (by simp [Nat.min_def]; omega) (fun j v hj => ?_) (by simp; omega) (u8_one ys) ?_
      · simp only [List.getElem?_map, Option.map_eq_some_iff] at hj
        obtain ⟨x, hx, rfl⟩ := hj
        have hjl := (List.getElem?_eq_some_iff.1 hx).1
        rw [Addr.add_lit, hcell j hjl, List.getD_eq_getElem?_getD, hx]
        rfl
      · have e : goInt ((ys.map (Value.int .u8)).length) = goInt ys.length := by simp
        rw [e]
        refine hk _ ⟨by simp, .inr ⟨g, c, _, by simp [e2]; omega, hb, setRow_heap w g cur _ _ _ hg, by simp; omega, hcm, by simp; omega, ?_⟩⟩ ⟨rfl, rfl, rfl, by simp, fun k _ hk => setRow_other w g k _ (fun e => hk (by simp [e]))⟩
        simp only [List.take_zero, List.nil_append, Nat.mul_one, Nat.zero_add]
        have hx : xs.drop ys.length = (cur.toList.drop ys.length).take (R - ys.length) := by rw [← htake, List.drop_take, e2]
        rw [hx, List.take_append, List.take_of_length_le (by simp)]
        simp only [List.length_map]
        have e9 : (ys.map (Value.int .u8) ++ List.take (R - ys.length) (List.drop ys.length cur.toList)).length - ys.length = R - ys.length := by
          simp only [List.length_append, List.length_map, List.length_take, List.length_drop, Array.length_toList]
          omega
        rw [e9]
end

theorem made8n (n : Nat) : (madeCells (Value.int .u8 0).cells (n * 1)).toList = List.replicate n (.int .u8 0) := by
  have h : (Value.int .u8 0).cells = #[.int .u8 0] := rfl
  rw [h, Nat.mul_one, toList_madeCells_one]
theorem row_made {w : World} {B n : Nat} {v : Value} (h : w.ownsRow B 5 1 v n (madeCells (Value.int .u8 0).cells (n * 1)).toList) : Row w B 5 v (List.replicate n (.int .u8 0)) := by
  rw [made8n] at h
  unfold Row
  rw [List.length_replicate]
  exact h
theorem below_none {w w' : World} (h : w.grownBy w' none) : Below w.heap.size w w' := ⟨h.os, h.tape, h.output, h.size, fun k hk => h.block k hk (by simp)⟩
set_option maxRecDepth 100000 in
set_option maxHeartbeats 1000000 in
theorem copy_calls {w : World} {v : Value} {xs : List Int} (h : IsB w v xs) (hl : xs.length ≤ 140737488355328) :
    Calls Tryd.prog 42 #[v] w fun e w' => ∃ u, e = .returned u ∧ Own8 w' w.heap.size u xs ∧ Below w.heap.size w w' := by
  obtain ⟨a, n, c, rfl⟩ := h.shape
  have hn := h.lenEq
  have hroom := h.room
  have HB := hide h
  have HL := hide hn
  have HMEM := hide h.mem
  have hnl : n ≤ 140737488355328 := by omega
  have hle : xs.length ≤ n := by omega
  clear h hn
  obtain ⟨i0, hi, hz0, hz1, hz2⟩ := info_parts info8
  go_enter Tryd.func42, Tryd.ntmps42
  go_wp2_with (first
    | (at_make; refine wpList_make_full _ rfl _ _ 28 rfl w.heap.size 5 i0 (.int .u8 0) 1 Tryd.underlying28 hi hz0 hz1 _ _ _ _ n rfl rfl rfl rfl (by rw [hz2]; omega) (by unfold maxLen; omega) (Nat.le_refl _) ?_; intro w1 hr1 hg1; have hrow1 := row_made hr1; have hB1 := HB.out.below (below_none hg1))
    | (refine wpList_copyRow rfl (.tmp 7) (.tmp 8) rfl rfl rfl hrow1 hB1 hle ?_; intro w2 hr2 hg2))
  go_ret
  refine ⟨_, rfl, ⟨?_, HMEM.out⟩, ?_⟩
  · have : (xs.map (Value.int .u8) ++ (List.replicate n (Value.int .u8 0)).drop xs.length) = xs.map (Value.int .u8) := by
      rw [List.drop_eq_nil_of_le (by rw [List.length_replicate, ← HL.out]; exact Nat.le_refl _), List.append_nil]
    rw [this] at hr2
    unfold Row at hr2
    rw [List.length_map] at hr2
    exact hr2
  · have hb1 : Below w.heap.size w w1 := ⟨hg1.os, hg1.tape, hg1.output, hg1.size, fun k hk => hg1.block k hk (by simp)⟩
    exact hb1.grown hg2 hg1.size (fun j hj => by injection hj with hj; omega)
set_option maxRecDepth 100000 in
set_option maxHeartbeats 1000000 in
theorem zeros_calls {w : World} : Calls Tryd.prog 53 #[] w fun e w' => ∃ u, e = .returned u ∧ Own8 w' w.heap.size u zsec ∧ Below w.heap.size w w' := by
  obtain ⟨i0, hi, hz0, hz1, hz2⟩ := info_parts info8
  go_enter Tryd.func53, Tryd.ntmps53
  go_wp2_with (first
    | (at_make; refine wpList_make_full _ rfl _ _ 28 rfl w.heap.size 5 i0 (.int .u8 0) 1 Tryd.underlying28 hi hz0 hz1 _ _ _ _ 512 rfl rfl rfl rfl (by omega) (by unfold maxLen; omega) (Nat.le_refl _) ?_; intro w1 hr1 hg1))
  go_ret
  refine ⟨_, rfl, ⟨?_, zsec_is.2⟩, ⟨hg1.os, hg1.tape, hg1.output, hg1.size, fun k hk => hg1.block k hk (by simp)⟩⟩
  rw [made8n] at hr1
  rw [zsec_is.1]
  have e : zsec.map (Value.int .u8) = List.replicate 512 (Value.int .u8 0) := by unfold zsec; rw [List.map_replicate]
  rw [e]
  exact hr1
end Go.Proofs.YtbgknbjpbobebaaDoor
