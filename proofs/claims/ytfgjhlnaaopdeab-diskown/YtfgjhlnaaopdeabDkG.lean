/- Numbers and bytes appended to a list of the document's; put. -/
import Derived.Test.YtfgjhlnaaopdeabDkE
import Derived.Test.YtfgjhlnaaopdeabApp
namespace Go.Proofs.Ytfgjhlnaaopdeab
open Go.RowKit Go.Maps

structure OwnAts (w : World) (B : Nat) (v : Value) (l : Ats) : Prop where
  rd : ∃ es : List (Int × Value), w.ownsRow B 104 2 v l.length (atV es) ∧ es.length = l.length ∧ ∀ j, j < l.length → (es.getD j dE).1 = (l.getD j dA).1 ∧ Own8 w 0 (es.getD j dE).2 (l.getD j dA).2
theorem OwnAts.isAts {w : World} {B : Nat} {v : Value} {l : Ats} (h : OwnAts w B v l) : IsAts w v l := by
  obtain ⟨es, h1, h2, h3⟩ := h.rd
  exact ⟨es, owns_mono h1 (Nat.zero_le _), h2, h3⟩
theorem OwnAts.nil (w : World) (B : Nat) : OwnAts w B (.slice none 0 0) [] := ⟨[], World.ownsRow_nil _ _ _ _, rfl, fun j hj => by simp at hj⟩
theorem OwnAts.below {w w' : World} {B : Nat} {v : Value} {l : Ats} (h : OwnAts w B v l) (hb : Below w.heap.size w w') : OwnAts w' B v l := by
  obtain ⟨es, h1, h2, h3⟩ := h.rd
  exact ⟨es, owns_below h1 hb, h2, fun j hj => ⟨(h3 j hj).1, (h3 j hj).2.below hb⟩⟩
theorem OwnAts.shape {w : World} {B : Nat} {v : Value} {l : Ats} (h : OwnAts w B v l) : ∃ a c, v = .slice a l.length c := by
  obtain ⟨a, c, h1, _⟩ := h.isAts.shape
  exact ⟨a, c, h1⟩
/-- A block of another type is written. -/
theorem Own8.other {w w' : World} {B g : Nat} {v : Value} {xs : List Int} {cs : Array Value} {t : TypeId} {m : Nat × Nat} (h : Own8 w B v xs) (hg : w.grownBy w' (some g)) (hc : w.heap[g]? = some (.cells cs t m)) (ht : t ≠ 5) : Own8 w' B v xs := by
  refine ⟨h.1.kept hg ?_, h.2⟩
  rcases h.1.2 with ⟨rfl, _⟩ | ⟨g', cap, cur, rfl, _, hgg, _⟩
  · exact Or.inl rfl
  · refine Or.inr fun e => ?_
    simp only [Value.ownBlock, Option.some.injEq] at e
    subst e
    rw [hgg] at hc
    simp only [Option.some.injEq, Obj.cells.injEq] at hc
    exact ht hc.2.1.symm
theorem IsAts.other {w w' : World} {g : Nat} {v : Value} {l : Ats} {cs : Array Value} {t : TypeId} {m : Nat × Nat} (h : IsAts w v l) (hg : w.grownBy w' (some g)) (hc : w.heap[g]? = some (.cells cs t m)) (h1 : t ≠ 5) (h2 : t ≠ 104) : IsAts w' v l := by
  obtain ⟨es, k1, k2, k3⟩ := h.rd
  refine ⟨es, k1.kept hg ?_, k2, fun j hj => ⟨(k3 j hj).1, (k3 j hj).2.other hg hc h1⟩⟩
  rcases k1.2 with ⟨rfl, _⟩ | ⟨g', cap, cur, rfl, _, hgg, _⟩
  · exact Or.inl rfl
  · refine Or.inr fun e => ?_
    simp only [Value.ownBlock, Option.some.injEq] at e
    subst e
    rw [hgg] at hc
    simp only [Option.some.injEq, Obj.cells.injEq] at hc
    exact h2 hc.2.1.symm
theorem infoA : (Try.prog.info? 104).map (fun i => (i.zero, i.size, i.bytes)) = some (some (.agg #[.int .i64 0, .slice none 0 0]), 2, 32) := by kernel_rfl
theorem snoc_getD {α : Type} (l : List α) (a d : α) (j : Nat) : (l ++ [a]).getD j d = if j < l.length then l.getD j d else if j = l.length then a else d := by
  rw [List.getD_eq_getElem?_getD, List.getD_eq_getElem?_getD]
  by_cases h1 : j < l.length
  · rw [if_pos h1, List.getElem?_append_left h1]
  · rw [if_neg h1, List.getElem?_append_right (by omega)]
    by_cases h2 : j = l.length
    · subst h2; rw [if_pos rfl, Nat.sub_self]; rfl
    · rw [if_neg h2, List.getElem?_eq_none (by simp; omega)]; rfl
section
variable {ops : Array Oper} {rest : List Oper} {o : Oper} {a : Act} {Q : Exit → Act → World → Prop} {w : World} {K : Act → World → Prop} {E : Prop}
theorem wp_appAt (x y : Operand) (ho : o.op = .call { callee := .builtin .append, args := #[x, y], argTypes := #[83, 83] }) {B g : Nat} {v u : Value} {l : Ats} {i : Int} {s : List Int} (hx : a.eval x = v) (hown : OwnAts w B v l) (hy : a.eval y = .slice (some ⟨g, 0, none⟩) 1 1)
    (hA : Arr w g 104 [.int .i64 i, u]) (hu : Own8 w 0 u s) (hl : l.length ≤ 1099511627776) (hB : B ≤ w.heap.size)
    (hk : ∀ v' w', OwnAts w' B v' (l ++ [(i, s)]) → w.grownBy w' v.ownBlock → (v.ownBlock = none ∨ ∃ b, v.ownBlock = some b ∧ B ≤ b) → K (a.put o.dst v') w') : o.wp Try.prog a w K Q := by
  obtain ⟨i0, hi, hz0, hz1, hz2⟩ := info_parts infoA
  obtain ⟨es, h1, h2, h3⟩ := hown.rd
  have hone : ∀ z ∈ [Value.int .i64 i, u], z.oneCell' = true := by
    obtain ⟨ua, un, uc, rfl⟩ := (Own8.isB hu).shape
    intro z hz
    simp only [List.mem_cons, List.not_mem_nil, or_false] at hz
    rcases hz with rfl | rfl <;> rfl
  refine wp_append_lies w x y 83 ho B 104 i0 _ 2 32 Try.underlying83 hi hz0 hz1 hz2 rfl (by decide) v l.length (atV es) hx h1 ⟨g, 0, none⟩ 1 1 [.int .i64 i, u] hy rfl (fun j z hz => by rw [Addr.add_lit, Nat.zero_add]; exact hA.cell_of hz) hone (by decide) (by unfold maxLen; omega) (by omega) hB _ rfl ?_
  intro g6 c6 w6 hr6 hg6 hat6 hlt6
  have keep8 : ∀ (z : Value) (xs : List Int), Own8 w 0 z xs → Own8 w6 0 z xs := fun z xs hz => ⟨hz.1.kept hg6 (owns_apart hz.1 h1 (by decide)), hz.2⟩
  refine hk _ w6 ⟨es ++ [(i, u)], ?_, by simp [h2], fun j hj => ?_⟩ hg6 ?_
  · rw [atV_snoc, List.length_append, List.length_singleton]
    exact hr6
  · rw [List.length_append, List.length_singleton] at hj
    rw [snoc_getD, snoc_getD, h2]
    by_cases hj1 : j < l.length
    · rw [if_pos hj1, if_pos hj1]; exact ⟨(h3 j hj1).1, keep8 _ _ (h3 j hj1).2⟩
    · have : j = l.length := by omega
      rw [if_neg hj1, if_neg hj1, if_pos this, if_pos this]
      exact ⟨rfl, keep8 _ _ hu⟩
  · cases hv : v.ownBlock with
    | none => exact Or.inl rfl
    | some b => exact Or.inr ⟨b, rfl, (h1.lt b hv).1⟩
theorem wpList_appAt (hgd : o.guard = none) (x y : Operand) (ho : o.op = .call { callee := .builtin .append, args := #[x, y], argTypes := #[83, 83] }) {B g : Nat} {v u : Value} {l : Ats} {i : Int} {s : List Int} (hx : a.eval x = v) (hown : OwnAts w B v l) (hy : a.eval y = .slice (some ⟨g, 0, none⟩) 1 1)
    (hA : Arr w g 104 [.int .i64 i, u]) (hu : Own8 w 0 u s) (hl : l.length ≤ 1099511627776) (hB : B ≤ w.heap.size)
    (hk : ∀ v' w', OwnAts w' B v' (l ++ [(i, s)]) → w.grownBy w' v.ownBlock → (v.ownBlock = none ∨ ∃ b, v.ownBlock = some b ∧ B ≤ b) → wpList Try.prog ops Q rest (a.put o.dst v') w') : wpList Try.prog ops Q (o :: rest) a w :=
  wpList_plain hgd fun _ hK => wp_appAt x y ho hx hown hy hA hu hl hB fun v' w' h1 h2 h3 => hK _ _ (hk v' w' h1 h2 h3)
theorem step_appAt (hgd : o.guard = none) (x y : Operand) (ho : o.op = .call { callee := .builtin .append, args := #[x, y], argTypes := #[83, 83] }) {B g : Nat} {v u : Value} {l : Ats} {i : Int} {s : List Int} (hx : a.eval x = v) (hown : OwnAts w B v l) (hy : a.eval y = .slice (some ⟨g, 0, none⟩) 1 1)
    (hA : Arr w g 104 [.int .i64 i, u]) (hu : Own8 w 0 u s) (hl : l.length ≤ 1099511627776) (hB : B ≤ w.heap.size)
    (hk : ∀ v' w', OwnAts w' B v' (l ++ [(i, s)]) → w.grownBy w' v.ownBlock → (v.ownBlock = none ∨ ∃ b, v.ownBlock = some b ∧ B ≤ b) → K (a.put o.dst v') w') : if Region.wanted o (yielded ops a.tmps) = true then Oper.wp Try.prog o a w K Q else E := by
  rw [if_pos (by simp [Region.wanted, hgd])]
  exact wp_appAt x y ho hx hown hy hA hu hl hB hk
end
theorem below_app {B : Nat} {a w w' : World} {v : Value} (h : Below B a w) (hg : w.grownBy w' v.ownBlock) (hB : B ≤ w.heap.size) (hv : v.ownBlock = none ∨ ∃ b, v.ownBlock = some b ∧ B ≤ b) : Below B a w' :=
  h.grown hg hB (fun j hj => by
    rcases hv with hv | ⟨b, hv, hb⟩
    · rw [hv] at hj; cases hj
    · rw [hv] at hj; injection hj with hj; omega)
theorem fil_take (l : Ats) (x : Int) {k : Nat} (hk : k < l.length) : (l.take (k + 1)).filter (fun a => a.1 != x) = (l.take k).filter (fun a => a.1 != x) ++ (if (l.getD k dA).1 = x then [] else [l.getD k dA]) := by
  rw [List.take_succ_eq_append_getElem hk, List.filter_append, getD_eq hk]
  congr 1
  by_cases h : l[k].1 = x <;> simp [h]
set_option maxRecDepth 100000 in
set_option maxHeartbeats 2000000 in
theorem put_calls {w : World} {va u : Value} {l : Ats} {x : Int} {s : List Int} (h : IsAts w va l) (hu : Own8 w 0 u s) (hl : l.length ≤ 549755813888) :
    Calls Try.prog 52 #[va, .int .i64 x, u] w fun e w' => ∃ v, e = .returned v ∧ IsAts w' v (putL l x s) ∧ Below w.heap.size w w' := by
  obtain ⟨a, c, rfl, hp⟩ := h.shape
  obtain ⟨ua, un, uc, rfl⟩ := (Own8.isB hu).shape
  have HA := hide h
  have HU := hide hu
  have HF : Hid (∀ k, ((l.take k).filter fun a => a.1 != x).length ≤ 549755813888) := fun k => Nat.le_trans (List.length_filter_le _ _) (Nat.le_trans (List.length_take_le' _ _) hl)
  have HT := hide (fun k (hk : k < l.length) => fil_take l x hk)
  clear h hu
  generalize hm : l.length = m at *
  have HM := hide hm
  clear hm
  go_enter Try.func52, Try.ntmps52
  go_wp2
  go_loopw [7, 8] (fun vv iv wr => ∃ k : Nat, k ≤ m ∧ iv = .int .i64 (k : Int) ∧ OwnAts wr w.heap.size vv ((l.take k).filter fun a => a.1 != x) ∧ Below w.heap.size w wr) (fun _ iv _ => m - (intOf iv).toNat)
  case atStart => exact ⟨0, by omega, rfl, by simpa using OwnAts.nil w w.heap.size, Below.refl _ _⟩
  case round =>
    obtain ⟨k, hk, rfl, hown, hnx⟩ := hrel
    have hsz := hnx.size
    obtain ⟨pa, pc, rfl⟩ := hown.shape
    by_cases hlt : k < m
    · obtain ⟨g, rfl, hle, hcm⟩ := hp (by omega)
      obtain ⟨z, hc1, hc2, hz⟩ := (HA.out.below hnx).elem (j := k) (by rw [HM.out]; exact hlt)
      have hft := unhide HT k hlt
      have HFT := hide hft
      have hfl := unhide HF k
      obtain ⟨za, zn, zc, rfl⟩ := (Own8.isB hz).shape
      have HOWN := hide hown
      have HZ := hide hz
      have HNX := hide hnx
      generalize hy : (l.getD k dA).1 = y at *
      generalize hys : (l.getD k dA).2 = ys at *
      have HYS : Hid (l.getD k dA = (y, ys)) := hide (by rw [← hy, ← hys])
      generalize hn2 : ((l.take k).filter fun a => a.1 != x).length = n2 at *
      have HN2 := hide hn2
      clear hft hown hz hnx hy hys hn2
      by_cases he : y = x
      · have HE := hide he
        have HNE : Hid (((l.take (k + 1)).filter fun a => a.1 != x) = (l.take k).filter fun a => a.1 != x) := hide (by rw [HFT.out, if_pos HE.out, List.append_nil])
        subst he
        go_wp2
        go_roundw
        case rel => exact ⟨k + 1, by omega, by go_num, by rw [HNE.out]; exact HOWN.out, HNX.out⟩
        case measure => simp [intOf]; omega
      · have HNE : Hid (((l.take (k + 1)).filter fun a => a.1 != x) = ((l.take k).filter fun a => a.1 != x) ++ [(y, ys)]) := hide (by rw [HFT.out, if_neg he, HYS.out])
        have hAn := Arr.new wr [.int .i64 y, .slice za zn zc] 104
        have hbn := (Below.refl wr.heap.size wr).alloc (Nat.le_refl _) (.cells [.int .i64 y, .slice za zn zc].toArray 104)
        have HO2 := hide (HOWN.out.below hbn)
        have HZ2 := hide (HZ.out.below hbn)
        have hsz2 : w.heap.size ≤ (wr.alloc (.cells [.int .i64 y, .slice za zn zc].toArray 104)).heap.size := by simp; omega
        go_wp2_with (first
          | (at_builtin; refine wpList_appAt rfl (.tmp 22) (.tmp 27) rfl rfl (unhide HO2) rfl hAn (unhide HZ2) (by rw [HN2.out]; omega) hsz2 ?_; intro v6 w6 hO6 hg6 hv6))
        go_roundw
        case rel => exact ⟨k + 1, by omega, by go_num, by rw [HNE.out]; exact hO6, below_app (HNX.out.trans (hbn.mono hsz)) hg6 hsz2 hv6⟩
        case measure => simp [intOf]; omega
    · have hkm : k = m := by omega
      have HP : Hid (putL l x s = ((l.take k).filter fun a => a.1 != x) ++ [(x, s)]) := hide (by unfold putL; rw [List.take_of_length_le (by rw [HM.out]; omega)])
      have hfl := unhide HF k
      have hAn := Arr.new wr [.int .i64 x, .slice ua un uc] 104
      have hbn := (Below.refl wr.heap.size wr).alloc (Nat.le_refl _) (.cells [.int .i64 x, .slice ua un uc].toArray 104)
      have HO2 := hide (hown.below hbn)
      have HU2 := hide ((HU.out.below hnx).below hbn)
      have hsz2 : w.heap.size ≤ (wr.alloc (.cells [.int .i64 x, .slice ua un uc].toArray 104)).heap.size := by simp; omega
      have HNX := hide hnx
      generalize hn2 : ((l.take k).filter fun a => a.1 != x).length = n2 at *
      have HN2 := hide hn2
      clear hn2 hkm hown hnx
      go_wp2_with (first
        | (at_builtin; refine wpList_appAt rfl (.tmp 29) (.tmp 33) rfl rfl (unhide HO2) rfl hAn (unhide HU2) (by rw [HN2.out]; omega) hsz2 ?_; intro v6 w6 hO6 hg6 hv6))
      go_ret
      exact ⟨v6, rfl, by rw [HP.out]; exact hO6.isAts, below_app (HNX.out.trans (hbn.mono hsz)) hg6 hsz2 hv6⟩
end Go.Proofs.Ytfgjhlnaaopdeab
