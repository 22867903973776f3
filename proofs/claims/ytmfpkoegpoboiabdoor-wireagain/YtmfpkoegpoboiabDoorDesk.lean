/- A desk: Lend. -/
import Derived.Test.YtmfpkoegpoboiabDoorBook
import Derived.Laws.CopyOwn
import Derived.Deep.DeepCutAuto
namespace Go.Proofs.YtmfpkoegpoboiabDoor
open Go.RowKit

section
variable {ops : Array Oper} {rest : List Oper} {o : Oper} {a : Act} {Q : Exit → Act → World → Prop} {w : World} {K : Act → World → Prop}
/-- Bytes copied over the head of a row. -/
theorem wpList_copyRow (hgd : o.guard = none) (d s : Operand) (ho : o.op = .call { callee := .builtin .copy, args := #[d, s], argTypes := #[23, 23] }) {B g R c : Nat} {u : Value} {xs : List Value} {ys : List Int} (hd : a.eval d = .slice (some ⟨g, 0, none⟩) R c) (hs : a.eval s = u)
    (hrow : Row w B 5 (.slice (some ⟨g, 0, none⟩) R c) xs) (hys : IsB w u ys) (hle : ys.length ≤ R)
    (hk : ∀ w', Row w' B 5 (.slice (some ⟨g, 0, none⟩) R c) (ys.map (Value.int .u8) ++ xs.drop ys.length) → w.grownBy w' (some g) → wpList Tryd.prog ops Q rest (a.put o.dst (goInt ys.length)) w') : wpList Tryd.prog ops Q (o :: rest) a w := by
  have hsz : (Tryd.prog.info? 5).map (·.size) = some 1 := by
    obtain ⟨i0, hi, _, hz1, _⟩ := info_parts info8
    rw [hi]; simp [hz1]
  obtain ⟨a1, c1, hv⟩ := hrow.shape
  injection hv with e1 e2 e3
  obtain ⟨ua, un, uc, rfl⟩ := hys.shape
  have hun := hys.lenEq
  subst hun
  by_cases h0 : ys.length = 0
  · obtain rfl : ys = [] := List.eq_nil_of_length_eq_zero h0
    refine wpList_copy_nothing hgd d s _ _ ho 5 Tryd.underlying23 hsz _ _ _ _ _ _ hd hs (by simp) ?_
    exact hk w (by simpa using hrow) ⟨rfl, rfl, rfl, Nat.le_refl _, fun _ _ _ => rfl⟩
  · obtain ⟨_, a2, c2, hv2, _, _, _, hc2⟩ := hys
    obtain ⟨b2, off2, ha2, hcell⟩ := hc2 (by omega)
    injection hv2 with f1 f2 f3
    subst f1 f3
    subst ha2
    obtain ⟨hlen, hr2⟩ := hrow
    rcases hr2 with ⟨h, _⟩ | ⟨g3, cap, cur, h, hb, hg, hnc, hcm, hcs, htake⟩
    · cases h
    · injection h with h1 h2 h3
      injection h1 with h1
      injection h1 with h1
      subst h1 h3
      simp only [Nat.mul_one] at hcs htake
      refine wpList_copy_own hgd d s _ _ ho 5 Tryd.underlying23 hsz g 0 R c ⟨b2, off2, none⟩ ys.length _ hd hs cur 5 hg (ys.map (Value.int .u8)) (by simp [Nat.min_def]; omega) (fun j v hj => ?_) (by simp; omega) (u8_one ys) ?_
      · simp only [List.getElem?_map, Option.map_eq_some_iff] at hj
        obtain ⟨x, hx, rfl⟩ := hj
        have hjl := (List.getElem?_eq_some_iff.1 hx).1
        rw [Addr.add_lit, hcell j hjl, List.getD_eq_getElem?_getD, hx]
        rfl
      · have e : goInt ((ys.map (Value.int .u8)).length) = goInt ys.length := by simp
        rw [e]
        refine hk _ ⟨by simp, .inr ⟨g, c, _, by simp [e2]; omega, hb, setRow_heap w g cur _ _ _ hg, by simp; omega, hcm, by simp; omega, ?_⟩⟩ ⟨rfl, rfl, rfl, by simp, fun k _ hk => setRow_other w g k _ (fun e => hk (by simp [e]))⟩
        simp only [List.take_zero, List.nil_append, Nat.mul_one, Nat.zero_add]
        have hx : xs.drop ys.length = (cur.toList.drop ys.length).take (R - ys.length) := by rw [← htake, List.drop_take, e2]
        rw [hx, List.take_append, List.take_of_length_le (by simp)]
        congr 2
        · simp; omega
        · simp
end
/-- What lies at a place behind what is lent. -/
def md (i : Nat) : Int := (203 - 5 * (i : Int)) % 256
theorem md_byte (i : Nat) : 0 ≤ md i ∧ md i ≤ 255 := by unfold md; omega
def lentL (bs : List Int) (R : Nat) : List Int := bs ++ ((List.range R).map md).drop bs.length
set_option maxHeartbeats 400000 in
theorem mark_calls (i : Nat) (w : World) (hi : i ≤ 281474976710656) : Calls Tryd.prog 36 #[.int .i64 (i : Int)] w fun e w' => e = .returned (.int .u8 (md i)) ∧ w' = w := by
  have hm : (203 - 5 * (i : Int)) % 256 = md i := rfl
  go_enter Tryd.func36, Tryd.ntmps36
  go_wp2
  go_ret
  exact ⟨rfl, rfl⟩
theorem fill_set {α : Type} (f : Nat → α) {j : Nat} {xs : List α} (h : j < xs.length) : ((List.range j).map f ++ xs.drop j).set j (f j) = (List.range (j + 1)).map f ++ xs.drop (j + 1) := by
  rw [List.set_append_right _ _ (by simp), List.range_succ, List.map_append, List.append_assoc]
  congr 1
  simp only [List.length_map, List.length_range, Nat.sub_self]
  rw [List.drop_eq_getElem_cons h]
  rfl
end Go.Proofs.YtmfpkoegpoboiabDoor
