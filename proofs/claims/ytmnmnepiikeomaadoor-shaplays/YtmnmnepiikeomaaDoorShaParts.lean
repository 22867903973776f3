/- What parts and Joined answer. -/
import Derived.Test.YtmnmnepiikeomaaDoorShaTold
import Derived.Test.YtmnmnepiikeomaaDoorInts
import Derived.Maps.AppendAt
namespace Go.Proofs.YtmnmnepiikeomaaDoor
open Go.RowKit

set_option maxHeartbeats 1000000 in
theorem joined_in (b off n cap : Nat) (xss : List (List Int)) (w : World) (hn : n = xss.length) (hl : n ≤ cap) (hm : cap ≤ 9223372036854775807) (hs : xss.flatten.length ≤ 140737488350000)
    (hcell : ∀ j, j < n → ∃ u, w.cell? ⟨b, off + j, none⟩ = some u ∧ IsB w u (xss.getD j [])) :
    Calls Tryd.prog 13 #[.slice (some ⟨b, off, none⟩) n cap] w fun e w' => ∃ v, e = .returned v ∧ Own8 w' w.heap.size v xss.flatten ∧ Below w.heap.size w w' := by
  have HN := hide hn
  have HC := hide hcell
  have HS := hide hs
  clear hn hcell hs
  go_enter Tryd.func13, Tryd.ntmps13
  go_wp2
  go_loopw [3, 4] (fun l i wr => ∃ (k : Nat), k ≤ n ∧ i = .int .i64 (k : Int) ∧ Own8 wr w.heap.size l (xss.take k).flatten ∧ Below w.heap.size w wr) (fun _ i _ => n - (intOf i).toNat)
  case atStart => exact ⟨0, by omega, rfl, Own8.nil _ _, Below.refl _ _⟩
  case round =>
    obtain ⟨k, hk, rfl, hown, hnx⟩ := hrel
    have hsz := hnx.size
    by_cases hlt : k < n
    · have hkx : k < xss.length := by rw [← HN.out]; exact hlt
      obtain ⟨u, hu, hb0⟩ := unhide HC k hlt
      have hb := hb0.below hnx
      have hu1 : wr.cell? ⟨b, off + k, none⟩ = some u := (hnx.cell (p := ⟨b, off + k, none⟩) (World.block_lt_of_cell? w _ hu)).trans hu
      have hft := flatten_take hkx
      have hfl := flatten_le (xss := xss) (k + 1)
      rw [hft, List.length_append] at hfl
      have hfl2 := Nat.le_trans hfl HS.out
      have HFT := hide hft
      have HFL := hide hfl2
      generalize xss.getD k [] = xs at *
      have HB := hide hb
      clear hft hfl hfl2 hu hb0 hkx hb
      go_wp2_with (at_builtin; refine wpList_appB rfl (.tmp 11) (.tmp 15) rfl rfl hown rfl (unhide HB) (by have := HFL.out; omega) hsz ?_; intro v2 w2 hown2 hgrow)
      have hB2 := hnx.grown hgrow hsz (fun j hj => (hown.1.lt j hj).1)
      clear hgrow hown
      go_roundw
      case rel => exact ⟨k + 1, by omega, by go_num, by rw [HFT.out]; exact hown2, hB2⟩
      case measure => simp [intOf]; omega
    · go_wp2
      go_ret
      have e : xss.take k = xss := List.take_of_length_le (by rw [← HN.out]; omega)
      rw [e] at hown
      exact ⟨_, rfl, hown, hnx⟩
set_option maxHeartbeats 400000 in
theorem joined_none (a : Option Addr) (cap : Nat) (w : World) :
    Calls Tryd.prog 13 #[.slice a 0 cap] w fun e w' => e = .returned (.slice none 0 0) ∧ w' = w := by
  go_enter Tryd.func13, Tryd.ntmps13
  go_wp2
  refine wp_loop_rounds 1 ?_
  rw [rounds_succ]
  go_wp2
  go_ret
  exact ⟨rfl, rfl⟩
theorem joined_calls {w : World} {v : Value} {xss : List (List Int)} (h : IsBB w v xss) (hs : xss.flatten.length ≤ 140737488350000) :
    Calls Tryd.prog 13 #[v] w fun e w' => ∃ a n c, e = .returned (.slice a n c) ∧ IsB w' (.slice a n c) xss.flatten ∧ Below w.heap.size w w' := by
  obtain ⟨a, cap, rfl, hl, hm, hc⟩ := h
  by_cases h0 : 0 < xss.length
  · obtain ⟨b, off, rfl, hcell⟩ := hc h0
    refine (joined_in b off _ cap xss w rfl hl hm hs hcell).mono ?_
    rintro e w' ⟨u, rfl, hown, hbel⟩
    obtain ⟨a, n, c, rfl⟩ := hown.shape
    exact ⟨a, n, c, rfl, hown.isB, hbel⟩
  · obtain rfl : xss = [] := List.eq_nil_of_length_eq_zero (by omega)
    refine (joined_none a cap w).mono ?_
    rintro e w' ⟨rfl, rfl⟩
    exact ⟨none, 0, 0, rfl, isB_nil _, Below.refl _ _⟩

section
variable {ops : Array Oper} {rest : List Oper} {o : Oper} {a : Act} {Q : Exit → Act → World → Prop} {w : World} {K : Act → World → Prop}
/-- One slice of bytes appended, out of a literal, and where the row lies then. -/
theorem wpList_appAt (hw : Region.wanted o (yielded ops a.tmps) = true) (x y : Operand) (ho : o.op = .call { callee := .builtin .append, args := #[x, y], argTypes := #[22, 22] }) {B : Nat} {v : Value} {us : List Value} (hx : a.eval x = v) (hown : w.ownsRow B 26 1 v us.length us)
    {aa : Option Addr} {n c : Nat} (hy : a.eval y = .slice (some ⟨w.heap.size, 0, none⟩) 1 1) (hl : us.length ≤ 1000000000) (hB : B ≤ w.heap.size)
    (hk : ∀ v' w', w'.ownsRow B 26 1 v' (us ++ [Value.slice aa n c]).length (us ++ [Value.slice aa n c]) → w.grownBy w' v.ownBlock → (v'.ownBlock = v.ownBlock ∨ v'.ownBlock = some (w.heap.size + 1)) → wpList Tryd.prog ops Q rest (a.put o.dst v') w') : wpList Tryd.prog ops Q (o :: rest) a (w.alloc (.cells #[.slice aa n c] 26)) := by
  obtain ⟨i0, hi, hz0, hz1, hz2⟩ := info_parts infoSl
  refine wpList_on hw fun K hK => ?_
  obtain ⟨v', w', hr, h2, h3, h4, h5⟩ := run_append_own_at (P := Tryd.prog) (w.alloc (.cells #[.slice aa n c] 26)) B 22 o.type 26 i0 (.slice none 0 0) 1 24 Tryd.underlying22 hi hz0 hz1 hz2 rfl (by decide) v us.length us (hown.alloc _) ⟨w.heap.size, 0, none⟩ 1 1 [.slice aa n c] rfl (cell_one_new _ _ _) (by intro u hu; simp at hu; subst hu; rfl) (by unfold maxLen; omega) (by omega) (by simp; omega)
  have hg : w.grownBy w' v.ownBlock := by
    have h1 : Below w.heap.size w (w.alloc (.cells #[.slice aa n c] 26)) := (Below.refl _ _).alloc (Nat.le_refl _) _
    exact ⟨h3.os.trans h1.os, h3.tape.trans h1.tape, h3.output.trans h1.output, Nat.le_trans h1.size h3.size, fun k hk hne => (h3.block k (Nat.lt_of_lt_of_le hk h1.size) hne).trans (h1.block k hk)⟩
  unfold Oper.wp execOp
  simp only [ho, resolve, invoke, builtin, Sem.run_bind, Sem.run_pure, Result.andThen_ok, List.map_toArray, List.map_cons, List.map_nil, hx, hy, hr]
  refine hK _ _ (hk v' w' (by simpa using h2) hg ?_)
  rw [size_alloc] at h5
  exact h5
end
/-- Two rows of slices of bytes: copies with marks behind them, and copies. -/
structure Parts (w : World) (B : Nat) (o d : Value) (us : List Value) (yss : List (List Int)) (vs : List Value) (zss : List (List Int)) : Prop where
  ownO : w.ownsRow B 26 1 o us.length us
  ownD : w.ownsRow B 26 1 d vs.length vs
  apart : o.ownBlock = none ∨ d.ownBlock = none ∨ o.ownBlock ≠ d.ownBlock
  lu : us.length = yss.length
  lv : vs.length = zss.length
  eachO : ∀ j, j < us.length → ∃ g n c, us.getD j undef = .slice (some ⟨g, 0, none⟩) n c ∧ IsLaid w B g n c (yss.getD j [])
  eachD : ∀ j, j < vs.length → ∃ a n c, vs.getD j undef = .slice a n c ∧ Own8 w B (.slice a n c) (zss.getD j [])
theorem Parts.nil (w : World) (B : Nat) : Parts w B (.slice none 0 0) (.slice none 0 0) [] [] [] [] := ⟨World.ownsRow_nil _ _ _ _, World.ownsRow_nil _ _ _ _, Or.inl rfl, rfl, rfl, fun j hj => by simp at hj, fun j hj => by simp at hj⟩
theorem Parts.below {w w' : World} {B : Nat} {o d : Value} {us vs : List Value} {yss zss : List (List Int)} (h : Parts w B o d us yss vs zss) (hb : Below w.heap.size w w') : Parts w' B o d us yss vs zss :=
  ⟨owns_below h.ownO hb, owns_below h.ownD hb, h.apart, h.lu, h.lv, fun j hj => by
    obtain ⟨g, n, c, e, hl⟩ := h.eachO j hj
    exact ⟨g, n, c, e, hl.below hb⟩, fun j hj => by
    obtain ⟨a, n, c, e, hl⟩ := h.eachD j hj
    exact ⟨a, n, c, e, hl.below hb⟩⟩
theorem laid_far {w w' : World} {B g n c : Nat} {v : Value} {us : List Value} {ys : List Int} (h : IsLaid w B g n c ys) (ho : w.ownsRow B 26 1 v us.length us) (hg : w.grownBy w' v.ownBlock) : IsLaid w' B g n c ys := by
  rcases owns_apart h.own ho (by decide) with e | e
  · simp [Value.ownBlock] at e
  · exact h.kept hg e
theorem own_far {w w' : World} {B : Nat} {u v : Value} {us : List Value} {ys : List Int} (h : Own8 w B u ys) (ho : w.ownsRow B 26 1 v us.length us) (hg : w.grownBy w' v.ownBlock) : Own8 w' B u ys := h.kept hg (owns_apart h.1 ho (by decide))
theorem getD_snoc_lt {α : Type} {l : List α} {x d : α} {j : Nat} (h : j < l.length) : (l ++ [x]).getD j d = l.getD j d := by
  rw [List.getD_eq_getElem?_getD, List.getElem?_append_left h, ← List.getD_eq_getElem?_getD]
theorem getD_snoc_eq {α : Type} {l : List α} {x d : α} : (l ++ [x]).getD l.length d = x := by simp [List.getD_eq_getElem?_getD]
theorem Parts.addO {w w' : World} {B g n c K : Nat} {o o' d : Value} {us vs : List Value} {yss zss : List (List Int)} {ys : List Int} (h : Parts w B o d us yss vs zss) (h2 : w'.ownsRow B 26 1 o' (us ++ [Value.slice (some ⟨g, 0, none⟩) n c]).length (us ++ [Value.slice (some ⟨g, 0, none⟩) n c])) (hg : w.grownBy w' o.ownBlock)
    (hat : o'.ownBlock = o.ownBlock ∨ o'.ownBlock = some K) (hK : w.heap.size ≤ K) (hL : IsLaid w B g n c ys) : Parts w' B o' d (us ++ [Value.slice (some ⟨g, 0, none⟩) n c]) (yss ++ [ys]) vs zss := by
  have hdo : d.ownBlock = none ∨ d.ownBlock ≠ o.ownBlock := by
    rcases h.apart with e | e | e
    · rw [e]
      by_cases e2 : d.ownBlock = none
      · exact Or.inl e2
      · exact Or.inr e2
    · exact Or.inl e
    · exact Or.inr (Ne.symm e)
  refine ⟨h2, h.ownD.kept hg hdo, ?_, by simp [h.lu], h.lv, fun j hj => ?_, fun j hj => ?_⟩
  · rcases hat with e | e
    · rw [e]; exact h.apart
    · cases e2 : d.ownBlock with
      | none => exact Or.inr (Or.inl rfl)
      | some k =>
        have := (h.ownD.lt k e2).2
        refine Or.inr (Or.inr fun e3 => ?_)
        rw [e] at e3
        injection e3 with e3
        omega
  · by_cases hj' : j < us.length
    · obtain ⟨g', n', c', e, hl⟩ := h.eachO j hj'
      rw [getD_snoc_lt hj', getD_snoc_lt (by rw [← h.lu]; exact hj')]
      exact ⟨g', n', c', e, laid_far hl h.ownO hg⟩
    · have hj2 : j = us.length := by simp at hj; omega
      subst hj2
      rw [getD_snoc_eq]
      refine ⟨g, n, c, rfl, ?_⟩
      rw [h.lu, getD_snoc_eq]
      exact laid_far hL h.ownO hg
  · obtain ⟨a', n', c', e, hl⟩ := h.eachD j hj
    exact ⟨a', n', c', e, own_far hl h.ownO hg⟩
theorem Parts.addD {w w' : World} {B n c K : Nat} {a : Option Addr} {o d d' : Value} {us vs : List Value} {yss zss : List (List Int)} {ys : List Int} (h : Parts w B o d us yss vs zss) (h2 : w'.ownsRow B 26 1 d' (vs ++ [Value.slice a n c]).length (vs ++ [Value.slice a n c])) (hg : w.grownBy w' d.ownBlock)
    (hat : d'.ownBlock = d.ownBlock ∨ d'.ownBlock = some K) (hK : w.heap.size ≤ K) (hL : Own8 w B (.slice a n c) ys) : Parts w' B o d' us yss (vs ++ [Value.slice a n c]) (zss ++ [ys]) := by
  have hdo : o.ownBlock = none ∨ o.ownBlock ≠ d.ownBlock := by
    rcases h.apart with e | e | e
    · exact Or.inl e
    · rw [e]
      by_cases e2 : o.ownBlock = none
      · exact Or.inl e2
      · exact Or.inr e2
    · exact Or.inr e
  refine ⟨h.ownO.kept hg hdo, h2, ?_, h.lu, by simp [h.lv], fun j hj => ?_, fun j hj => ?_⟩
  · rcases hat with e | e
    · rw [e]; exact h.apart
    · cases e2 : o.ownBlock with
      | none => exact Or.inl rfl
      | some k =>
        have := (h.ownO.lt k e2).2
        refine Or.inr (Or.inr fun e3 => ?_)
        rw [e] at e3
        injection e3 with e3
        omega
  · obtain ⟨g', n', c', e, hl⟩ := h.eachO j hj
    exact ⟨g', n', c', e, laid_far hl h.ownD hg⟩
  · by_cases hj' : j < vs.length
    · obtain ⟨a', n', c', e, hl⟩ := h.eachD j hj'
      rw [getD_snoc_lt hj', getD_snoc_lt (by rw [← h.lv]; exact hj')]
      exact ⟨a', n', c', e, own_far hl h.ownD hg⟩
    · have hj2 : j = vs.length := by simp at hj; omega
      subst hj2
      rw [getD_snoc_eq]
      refine ⟨a, n, c, rfl, ?_⟩
      rw [h.lv, getD_snoc_eq]
      exact own_far hL h.ownD hg
theorem Parts.bbO {w : World} {B : Nat} {o d : Value} {us vs : List Value} {yss zss : List (List Int)} (h : Parts w B o d us yss vs zss) : IsBB w o yss :=
  OwnBB.isBB (us := us) (B := B) ⟨h.ownO, h.lu, fun j hj => by
    obtain ⟨g, n, c, e, hl⟩ := h.eachO j hj
    rw [e]
    exact hl.isB⟩
theorem Parts.bbD {w : World} {B : Nat} {o d : Value} {us vs : List Value} {yss zss : List (List Int)} (h : Parts w B o d us yss vs zss) : IsBB w d zss :=
  OwnBB.isBB (us := vs) (B := B) ⟨h.ownD, h.lv, fun j hj => by
    obtain ⟨a, n, c, e, hl⟩ := h.eachD j hj
    rw [e]
    exact hl.isB⟩
theorem Parts.ltO {w : World} {B : Nat} {o d : Value} {us vs : List Value} {yss zss : List (List Int)} (h : Parts w B o d us yss vs zss) : ∀ k, o.ownBlock = some k → B ≤ k := fun k e => (h.ownO.lt k e).1
theorem Parts.ltD {w : World} {B : Nat} {o d : Value} {us vs : List Value} {yss zss : List (List Int)} (h : Parts w B o d us yss vs zss) : ∀ k, d.ownBlock = some k → B ≤ k := fun k e => (h.ownD.lt k e).1
theorem IsLaid.mono {w : World} {B B' g n c : Nat} {xs : List Int} (h : IsLaid w B g n c xs) (hb : B' ≤ B) : IsLaid w B' g n c xs := ⟨h.mem, h.len, owns_mono h.own hb⟩
set_option maxRecDepth 100000 in
set_option maxHeartbeats 2000000 in
theorem parts_in (b off n cap : Nat) (xss : List (List Int)) (w : World) (hn : n = xss.length)
    (hcell : ∀ j, j < n → ∃ u, w.cell? ⟨b, off + j, none⟩ = some u ∧ IsB w u (xss.getD j [])) :
    Calls Tryd.prog 10 #[.slice (some ⟨b, off, none⟩) n cap] w fun e w' => ∃ o d, e = .returned (.tuple #[o, d]) ∧ ∃ us vs yss, Parts w' w.heap.size o d us yss vs yss ∧ yss.flatten.length ≤ 70000 ∧ yss.length ≤ 40 ∧ Below w.heap.size w w' := by
  have HN := hide hn
  have HC := hide hcell
  clear hn hcell
  go_enter Tryd.func10, Tryd.ntmps10
  go_wp2
  go_loopw [4, 5, 6, 7] (fun o d lf i wr => ∃ (k r : Nat) (us vs : List Value) (yss : List (List Int)), k ≤ n ∧ k ≤ 40 ∧ i = .int .i64 (k : Int) ∧ lf = .int .i64 (r : Int) ∧ Hid (r + yss.flatten.length = 70000) ∧ r ≤ 70000 ∧ Hid (yss.length = k) ∧ Parts wr w.heap.size o d us yss vs yss ∧ Below w.heap.size w wr) (fun _ _ _ i _ => n - (intOf i).toNat)
  case atStart => exact ⟨0, 70000, [], [], [], by omega, by omega, rfl, rfl, rfl, by omega, rfl, Parts.nil _ _, Below.refl _ _⟩
  case round =>
    obtain ⟨k, r, us, vs, yss, hk, hk40, rfl, rfl, HR, hr7, HYL, hP, hnx⟩ := hrel
    have hsz := hnx.size
    by_cases hlt : k < n ∧ k < 40
    · obtain ⟨hlt1, hlt2⟩ := hlt
      obtain ⟨u, hu, hb0⟩ := unhide HC k hlt1
      have hb := hb0.below hnx
      have hu1 : wr.cell? ⟨b, off + k, none⟩ = some u := (hnx.cell (p := ⟨b, off + k, none⟩) (World.block_lt_of_cell? w _ hu)).trans hu
      generalize xss.getD k [] = xs at *
      obtain ⟨a, m0, c0, rfl⟩ := hb.shape
      have HB0 := hide hb0
      have hul : us.length ≤ 1000000000 := by have h1 := HYL.out; have := hP.lu; omega
      have hvl : vs.length ≤ 1000000000 := by have h1 := HYL.out; have := hP.lv; omega
      have hlt2I : (k : Int) < 40 := by omega
      clear hu hb0
      go_wp2_with fail
      refine (cut_calls hb r (by omega)).mono ?_
      rintro e w0 ⟨⟨m, rfl, hm0, hX⟩, hw0⟩
      obtain rfl := hw0.symm
      have hml := hX.lenEq
      have hmr : m ≤ r := by rw [hml, List.length_take]; omega
      have hX00 : IsB w (.slice a m c0) (xs.take r) := by
        have h1 := (unhide HB0).cut (k := m) hm0
        have e : xs.take m = xs.take r := by
          rw [hml, List.length_take]
          by_cases h : r ≤ xs.length
          · rw [Nat.min_eq_left h]
          · rw [Nat.min_eq_right (by omega), List.take_of_length_le (Nat.le_refl _), List.take_of_length_le (by omega)]
        rw [e] at h1
        exact h1
      generalize xs.take r = ys at *
      have HML := hide hml
      have HX := hide hX
      have HX0 : Hid (IsB w (.slice a m c0) ys) := hX00
      clear hb hX hml hw0 hX00
      go_wp2_with fail
      refine (laid_calls (unhide HX) (by have := HML.out; omega)).mono ?_
      rintro e w1 ⟨g, c1, rfl, hL1, hb1⟩
      have hL1' := hL1.mono hsz
      have hP1 := hP.below hb1
      have hx1 := below_then hnx hb1
      have hX1 := (unhide HX).below hb1
      have hz1 := hx1.size
      clear hL1 hP
      have hrm : (r : Int) - (m : Int) = ((r - m : Nat) : Int) := by omega
      have hml7 : m ≤ 70000 := by omega
      go_wp2_with (first
        | (at_builtin; refine wpList_appAt rfl (.tmp 29) (.tmp 32) rfl rfl hP1.ownO rfl hul hz1 ?_; intro o2 w2 h2 hg2 hat2; have hP2 := hP1.addO h2 hg2 hat2 (by omega) hL1'; have hx2 := hx1.grown hg2 hz1 hP1.ltO; have hX2 := (unhide HX0).below hx2; have hz2 := hx2.size; clear h2 hat2)
        | (at_builtin; refine wpList_appB rfl (.const (.slice none 0 0)) (.tmp 35) rfl (v := .slice none 0 0) rfl (Own8.nil w2 w.heap.size) rfl hX2 (by have := HML.out; simp; omega) hz2 ?_; intro v3 w3 hO3 hg3; rw [List.nil_append] at hO3; have hb3 := (Below.refl w2.heap.size w2).grown hg3 (Nat.le_refl _) (fun k hk => (by simp [Value.ownBlock] at hk)); have hP3 := hP2.below hb3; have hx3 := below_then hx2 hb3; have hz3 := hx3.size; obtain ⟨a3, n3, c3, rfl⟩ := hO3.shape; clear hg3)
        | (at_builtin; refine wpList_appAt rfl (.tmp 34) (.tmp 37) rfl rfl hP3.ownD rfl hvl hz3 ?_; intro d4 w4 h4 hg4 hat4; have hP4 := hP3.addD h4 hg4 hat4 (by omega) hO3; have hx4 := hx3.grown hg4 hz3 hP3.ltD; clear h4 hat4))
      go_roundw
      case rel => exact ⟨k + 1, r - m, _, _, yss ++ [ys], by omega, by omega, by go_num, rfl, by show _ = _; have h1 := HR.out; have h2 := HML.out; have e3 : [ys].flatten = ys := (by simp); rw [List.flatten_append, List.length_append, e3]; omega, by omega, by show _ = _; rw [List.length_append, HYL.out]; rfl, hP4, hx4⟩
      case measure => simp [intOf]; omega
    · have hlt' : ¬ ((k : Int) < (n : Int) ∧ (k : Int) < 40) := by omega
      by_cases h1 : (k : Int) < (n : Int)
      · have h2 : ¬ (k : Int) < 40 := by omega
        go_wp2
        go_ret2
        exact ⟨_, _, rfl, us, vs, yss, hP, by have h9 := HR.out; simp only [List.length_flatten] at h9 ⊢; omega, by rw [HYL.out]; exact hk40, hnx⟩
      · go_wp2
        go_ret2
        exact ⟨_, _, rfl, us, vs, yss, hP, by have h9 := HR.out; simp only [List.length_flatten] at h9 ⊢; omega, by rw [HYL.out]; exact hk40, hnx⟩
set_option maxRecDepth 100000 in
set_option maxHeartbeats 1000000 in
theorem parts_none (a : Option Addr) (cap : Nat) (w : World) :
    Calls Tryd.prog 10 #[.slice a 0 cap] w fun e w' => e = .returned (.tuple #[.slice none 0 0, .slice none 0 0]) ∧ w' = w := by
  go_enter Tryd.func10, Tryd.ntmps10
  go_wp2
  refine wp_loop_rounds 1 ?_
  rw [rounds_succ]
  go_wp2
  go_ret2
  exact ⟨rfl, rfl⟩
theorem parts_calls {w : World} {v : Value} {xss : List (List Int)} (h : IsBB w v xss) :
    Calls Tryd.prog 10 #[v] w fun e w' => ∃ o d, e = .returned (.tuple #[o, d]) ∧ ∃ us vs yss, Parts w' w.heap.size o d us yss vs yss ∧ yss.flatten.length ≤ 70000 ∧ yss.length ≤ 40 ∧ Below w.heap.size w w' := by
  obtain ⟨a, cap, rfl, _, _, hc⟩ := h
  by_cases h0 : 0 < xss.length
  · obtain ⟨b, off, rfl, hcell⟩ := hc h0
    exact parts_in b off _ cap xss w rfl hcell
  · obtain rfl : xss = [] := List.eq_nil_of_length_eq_zero (by omega)
    refine (parts_none a cap w).mono ?_
    rintro e w' ⟨rfl, rfl⟩
    exact ⟨_, _, rfl, [], [], [], Parts.nil _ _, by simp, by simp, Below.refl _ _⟩
end Go.Proofs.YtmnmnepiikeomaaDoor
