/- Bytes of any number copied over the head of a row. -/
import Derived.Test.YtbgknbjpbobebaaDoorDkC
namespace Go.Proofs.YtbgknbjpbobebaaDoor
open Go.RowKit Go.Maps

section
variable {ops : Array Oper} {rest : List Oper} {o : Oper} {a : Act} {Q : Exit → Act → World → Prop} {w : World} {K : Act → World → Prop}
/-- Bytes copied over the head of a row. -/
theorem wpList_copyCut (hgd : o.guard = none) (d s : Operand) (ho : o.op = .call { callee := .builtin .copy, args := #[d, s], argTypes := #[28, 28] }) {B g R c : Nat} {u : Value} {xs : List Value} {ys : List Int} (hd : a.eval d = .slice (some ⟨g, 0, none⟩) R c) (hs : a.eval s = u)
    (hrow : Row w B 5 (.slice (some ⟨g, 0, none⟩) R c) xs) (hys : IsB w u ys)
    (hk : ∀ w', Row w' B 5 (.slice (some ⟨g, 0, none⟩) R c) ((ys.take R).map (Value.int .u8) ++ xs.drop (ys.take R).length) → w.grownBy w' (some g) → wpList Tryd.prog ops Q rest (a.put o.dst (goInt (ys.take R).length)) w') : wpList Tryd.prog ops Q (o :: rest) a w := by
  have hsz : (Tryd.prog.info? 5).map (·.size) = some 1 := by
    obtain ⟨i0, hi, _, hz1, _⟩ := info_parts info8
    rw [hi]; simp [hz1]
  obtain ⟨a1, c1, hv⟩ := hrow.shape
  injection hv with e1 e2 e3
  obtain ⟨ua, un, uc, rfl⟩ := hys.shape
  have hun := hys.lenEq
  subst hun
  by_cases h0 : ys.length = 0
  · obtain rfl : ys = [] := List.eq_nil_of_length_eq_zero h0
    refine wpList_copy_nothing hgd d s _ _ ho 5 Tryd.underlying28 hsz _ _ _ _ _ _ hd hs (by simp) ?_
    have hk2 := hk w (by simpa using hrow) ⟨rfl, rfl, rfl, Nat.le_refl _, fun _ _ _ => rfl⟩
    rw [List.take_nil] at hk2
    exact hk2
  · obtain ⟨_, a2, c2, hv2, _, _, _, hc2⟩ := hys
    obtain ⟨b2, off2, ha2, hcell⟩ := hc2 (by omega)
    injection hv2 with f1 f2 f3
    subst f1 f3
    subst ha2
    obtain ⟨hlen, hr2⟩ := hrow
    rcases hr2 with ⟨h, _⟩ | ⟨g3, cap, cur, h, hb, hg, hnc, hcm, hcs, htake⟩
    · cases h
    · injection h with h1 h2 h3
      injection h1 with h1
      injection h1 with h1
      subst h1 h3
      simp only [Nat.mul_one] at hcs htake
      refine wpList_copy_own hgd d s _ _ ho 5 Tryd.underlying28 hsz g 0 R c ⟨b2, off2, none⟩ ys.length _ hd hs cur 5 hg ((ys.take R).map (Value.int .u8)) (by rw [List.length_map, List.length_take]; exact Nat.min_comm _ _) (fun j v hj => ?_) (by simp; omega) (u8_one (ys.take R)) ?_
      · simp only [List.getElem?_map, Option.map_eq_some_iff] at hj
        obtain ⟨x, hx, rfl⟩ := hj
        have hjt := (List.getElem?_eq_some_iff.1 hx).1
        rw [List.length_take] at hjt
        rw [List.getElem?_take_of_lt (by omega)] at hx
        have hjl := (List.getElem?_eq_some_iff.1 hx).1
        rw [Addr.add_lit, hcell j hjl, List.getD_eq_getElem?_getD, hx]
        rfl
      · have e : goInt (((ys.take R).map (Value.int .u8)).length) = goInt (ys.take R).length := by simp
        rw [e]
        refine hk _ ⟨by simp, .inr ⟨g, c, _, by simp [e2]; omega, hb, setRow_heap w g cur _ _ _ hg, by simp; omega, hcm, by simp; omega, ?_⟩⟩ ⟨rfl, rfl, rfl, by simp, fun k _ hk => setRow_other w g k _ (fun e => hk (by simp [e]))⟩
        have hyl : (ys.take R).length ≤ R := by rw [List.length_take]; omega
        generalize ys.take R = zs at *
        simp only [List.take_zero, List.nil_append, Nat.mul_one, Nat.zero_add]
        have hx : xs.drop zs.length = (cur.toList.drop zs.length).take (R - zs.length) := by rw [← htake, List.drop_take, e2]
        rw [hx, List.take_append, List.take_of_length_le (by simp)]
        simp only [List.length_map]
        have e9 : (zs.map (Value.int .u8) ++ List.take (R - zs.length) (List.drop zs.length cur.toList)).length - zs.length = R - zs.length := by
          simp only [List.length_append, List.length_map, List.length_take, List.length_drop, Array.length_toList]
          omega
        rw [e9]
end
end Go.Proofs.YtbgknbjpbobebaaDoor
