/- The document's Copy and Zeros. -/
import Derived.Test.YthhjlopgpmaokabDoorDkU
import Derived.Test.YthhjlopgpmaokabDoorShare
namespace Go.Proofs.YthhjlopgpmaokabDoor
open Go.RowKit Go.Maps

section
variable {ops : Array Oper} {rest : List Oper} {o : Oper} {a : Act} {Q : Exit → Act → World → Prop} {w : World} {K : Act → World → Prop}
/-- Bytes copied over the head of a row. -/
theorem wpList_copyRow (hgd : o.guard = none) (d s : Operand) (ho : o.op = .call { callee := .builtin .copy, args := #[d, s], argTypes := #[48, 48] }) {B g R c : Nat} {u : Value} {xs : List Value} {ys : List Int} (hd : a.eval d = .slice (some ⟨g, 0, none⟩) R c) (hs : a.eval s = u)
    (hrow : Row w B 5 (.slice (some ⟨g, 0, none⟩) R c) xs) (hys : IsB w u ys) (hle : ys.length ≤ R)
    (hk : ∀ w', Row w' B 5 (.slice (some ⟨g, 0, none⟩) R c) (ys.map (Value.int .u8) ++ xs.drop ys.length) → w.grownBy w' (some g) → wpList Tryd.prog ops Q rest (a.put o.dst (goInt ys.length)) w') : wpList Tryd.prog ops Q (o :: rest) a w := by
  have hsz : (Tryd.prog.info? 5).map (·.size) = some 1 := by
    obtain ⟨i0, hi, _, hz1, _⟩ := info_parts info8
    rw [hi]; simp [hz1]
  obtain ⟨a1, c1, hv⟩ := hrow.shape
  injection hv with e1 e2 e3
  obtain ⟨ua, un, uc, rfl⟩ := hys.shape
  have hun := hys.lenEq
  subst hun
  by_cases h0 : ys.length = 0
  · obtain rfl : ys = [] := List.eq_nil_of_length_eq_zero h0
    refine wpList_copy_nothing hgd d s _ _ ho 5 Tryd.underlying48 hsz _ _ _ _ _ _ hd hs (by simp) ?_
    exact hk w (by simpa using hrow) ⟨rfl, rfl, rfl, Nat.le_refl _, fun _ _ _ => rfl⟩
  · obtain ⟨_, a2, c2, hv2, _, _, _, hc2⟩ := hys
    obtain ⟨b2, off2, ha2, hcell⟩ := hc2 (by omega)
    injection hv2 with f1 f2 f3
    subst f1 f3
    subst ha2
    obtain ⟨hlen, hr2⟩ := hrow
    rcases hr2 with ⟨h, _⟩ | ⟨g3, cap, cur, h, hb, hg, hnc, hcm, hcs, htake⟩
    · cases h
    · injection h with h1 h2 h3
      injection h1 with h1
      injection h1 with h1
      subst h1 h3
      simp only [Nat.mul_one] at hcs htake
      refine wpList_copy_own hgd d s _ _ ho 5 Tryd.underlying48 hsz g 0 R c ⟨b2, off2, none⟩ ys.length _ hd hs cur 5 hg (ys.map (Value.int .u8)) (by simp [Nat.min_def]; omega) (fun j v hj => ?_) (by simp; omega) (u8_one ys) ?_
      · simp only [List.getElem?_map, Option.map_eq_some_iff] at hj
        obtain ⟨x, hx, rfl⟩ := hj
        have hjl := (List.getElem?_eq_some_iff.1 hx).1
        rw [Addr.add_lit, hcell j hjl, List.getD_eq_getElem?_getD, hx]
        rfl
      · have e : goInt ((ys.map (Value.int .u8)).length) = goInt ys.length := by simp
        rw [e]
        refine hk _ ⟨by simp, .inr ⟨g, c, _, by simp [e2]; omega, hb, setRow_heap w g cur _ _ _ hg, by simp; omega, hcm, by simp; omega, ?_⟩⟩ ⟨rfl, rfl, rfl, by simp, fun k _ hk => setRow_other w g k _ (fun e => hk (by simp [e]))⟩
        simp only [List.take_zero, List.nil_append, Nat.mul_one, Nat.zero_add]
        have hx : xs.drop ys.length = (cur.toList.drop ys.length).take (R - ys.length) := by rw [← htake, List.drop_take, e2]
        rw [hx, List.take_append, List.take_of_length_le (by simp)]
        simp only [List.length_map]
        have e9 : (ys.map (Value.int .u8) ++ List.take (R - ys.length) (List.drop ys.length cur.toList)).length - ys.length = R - ys.length := by
          simp only [List.length_append, List.length_map, List.length_take, List.length_drop, Array.length_toList]
          omega
        rw [e9]
end

theorem made8n (n : Nat) : (madeCells (Value.int .u8 0).cells (n * 1)).toList = List.replicate n (.int .u8 0) := by
  have h : (Value.int .u8 0).cells = #[.int .u8 0] := rfl
  rw [h, Nat.mul_one, toList_madeCells_one]
theorem row_made {w : World} {B n : Nat} {v : Value} (h : w.ownsRow B 5 1 v n (madeCells (Value.int .u8 0).cells (n * 1)).toList) : Row w B 5 v (List.replicate n (.int .u8 0)) := by
  rw [made8n] at h
  unfold Row
  rw [List.length_replicate]
  exact h
theorem below_none {w w' : World} (h : w.grownBy w' none) : Below w.heap.size w w' := ⟨h.os, h.tape, h.output, h.size, fun k hk => h.block k hk (by simp)⟩
end Go.Proofs.YthhjlopgpmaokabDoor
