/- ShaCuts' walk. -/
import Derived.Test.YtmnmnepiikeomaaDoorShaTold
import Derived.Test.YtmnmnepiikeomaaDoorInts
import Derived.Test.YtmnmnepiikeomaaDoorSub
import Derived.Deep.DeepCutAuto
import Derived.Deep.RegionHeld3
import Derived.Deep.MidRow
namespace Go.Proofs.YtmnmnepiikeomaaDoor
open Go.RowKit

theorem IsHash.keptRow {w w' : World} {g : Nat} {row : Option Nat} {xs : List Int} (h : IsHash w g xs) (hg : w.grownBy w' row) (hne : row ≠ some g) : IsHash w' g xs := by
  obtain ⟨h1, h2, rest, h3, h4, h5, h6⟩ := h
  exact ⟨h1, h2, rest, h3, h4, h5, h6.keep (hg.block g h6.lt (fun e => hne e.symm))⟩
theorem OwnBB.kept {w w' : World} {B g : Nat} {v : Value} {us : List Value} {xss : List (List Int)} (h : OwnBB w B v us xss) (hg : w.grownBy w' (some g)) (hgB : g < B) (hf : ∀ j, j < us.length → ∀ aj nj cj, us.getD j undef = .slice aj nj cj → 0 < nj → ∀ ad, aj = some ad → ad.block ≠ g) : OwnBB w' B v us xss := by
  refine ⟨h.own.kept hg ?_, h.len, fun j hj => ?_⟩
  · cases e : v.ownBlock with
    | none => exact Or.inl rfl
    | some k => exact Or.inr (fun e2 => by injection e2 with e2; have := (h.own.lt k e).1; omega)
  · have h1 := h.each j hj
    obtain ⟨aj, nj, cj, e⟩ := h1.shape
    rw [e] at h1 ⊢
    have hne := hf j hj aj nj cj e
    have hn := h1.lenEq
    obtain ⟨h1, a', cap, hv, hl', hm, hz, hc⟩ := h1
    injection hv with e1 e2 e3
    subst e1 e3
    refine ⟨h1, aj, cj, by rw [hn], hl', hm, hz, fun hp => ?_⟩
    obtain ⟨b, off, ha, hcell⟩ := hc hp
    refine ⟨b, off, ha, fun j hj => ?_⟩
    rw [← hcell j hj]
    exact World.cell?_of_block (hg.block b (World.block_lt_of_cell? w _ (hcell j hj)) (fun e => hne (by omega) _ ha (by injection e)))
theorem tmod_bd {c : Int} {d : Nat} (hd : 0 < d) : -(d : Int) < c.tmod d ∧ c.tmod d < d := by
  have h1 := Int.tmod_lt_of_pos c (show (0 : Int) < d by omega)
  have h2 := Int.lt_tmod_of_pos c (show (0 : Int) < d by omega)
  exact ⟨h2, h1⟩

set_option maxRecDepth 100000 in
set_option maxHeartbeats 4000000 in
theorem cuts_walk {w : World} {vb vc : Value} {xs0 cs : List Int} (hb0 : IsB w vb xs0) (hc0 : IsI w vc cs) (hT : Tabs w) :
    Calls Tryd.prog 6 #[vb, vc] w fun e w' => e = .returned (.bool true) ∧ Below w.heap.size w w' := by
  obtain ⟨a, n0, cb, rfl⟩ := hb0.shape
  obtain ⟨hcbd, ac, cc, rfl, hcl, hcm, hcc⟩ := hc0
  have HT := hide hT
  have hKl := hT.ltK
  have hSl := hT.ltS
  have hke := keyV_eql
  have hkn := keyV_neq
  have hkg := keyV_guard
  obtain ⟨L, hL⟩ : ∃ L, L = cs.length := ⟨_, rfl⟩
  rw [← hL] at hcl hcc ⊢
  have HCBD := hide hcbd
  have HCC := hide hcc
  have HL := hide hL
  clear hT hcbd hcc hL
  go_enter Tryd.func6, Tryd.ntmps6
  go_wp2_with (first
    | (go_at_call 17; refine (cut_calls hb0 3000 (by decide)).mono ?_; rintro e w0 ⟨⟨n, rfl, hn0, hX⟩, hw0⟩; obtain rfl := hw0.symm)
    | (go_at_call 15; refine (shaNew_calls (unhide HT).s).mono ?_; rintro e w1 ⟨rfl, hH1, hb1⟩; have hT1 := (unhide HT).below hb1)
    | (go_at_call 9; refine (told_calls hT1).mono ?_; rintro e w2 ⟨rfl, hb2⟩; have hH2 := hH1.below hb2; have hB2 := below_then hb1 hb2))
  have hg2 := hH2.lt
  have hn := hX.lenEq
  have hn3 : n ≤ 3000 := by rw [hn, List.length_take]; omega
  generalize xs0.take 3000 = xs at *
  have HX := hide hX
  have HN := hide hn
  clear hb0 hX hH1 hb1 hT1 hb2 hn
  go_loopw [6, 7, 8] (fun l at_ i wr => ∃ (k q : Nat) (us : List Value) (xss : List (List Int)), k ≤ L ∧ k ≤ 40 ∧ i = .int .i64 (k : Int) ∧ at_ = .int .i64 (q : Int) ∧ q ≤ n ∧ us.length = k ∧ Hid (xss.flatten = xs.take q) ∧ OwnBB wr w2.heap.size l us xss ∧ Hid (∀ j, j < us.length → ∀ aj nj cj, us.getD j undef = .slice aj nj cj → 0 < nj → ∀ ad, aj = some ad → ad.block < w.heap.size) ∧ IsHash wr w.heap.size (xs.take q) ∧ w2.heap.size ≤ wr.heap.size ∧ Below w.heap.size w wr) (fun _ _ i _ => L - (intOf i).toNat)
  case atStart => exact ⟨0, 0, [], [], by omega, by omega, rfl, rfl, by omega, rfl, by show _ = _; simp, OwnBB.nil _ _, fun j hj => by simp at hj, by rw [List.take_zero]; exact hH2, Nat.le_refl _, hB2⟩
  case round =>
    clear hH2 hB2
    obtain ⟨k, q, us, xss, hk, hk40, rfl, rfl, hq, hus, HFL, hl, HLOW, hH, hz, hx⟩ := hrel
    by_cases hlt : k < L ∧ k < 40
    · obtain ⟨hlt1, hlt2⟩ := hlt
      obtain ⟨bc, oc, rfl, hcell⟩ := unhide HCC (by omega)
      have hck := hcell k hlt1
      have hck1 : wr.cell? ⟨bc, oc + k, none⟩ = some (.int .i64 (cs.getD k 0)) := (hx.cell (World.block_lt_of_cell? w _ hck)).trans hck
      have hcb := unhide HCBD _ (getD_mem (by rw [← HL.out]; exact hlt1))
      generalize cs.getD k 0 = c at *
      have HCK := hide hcell
      clear hcell hck
      obtain ⟨tt, hqt, htn, hcase⟩ : ∃ tt : Nat, q ≤ tt ∧ tt ≤ n ∧ ((q < n ∧ ∃ s : Nat, c.tmod ((n : Int) - (q : Int) + 1) = (s : Int) ∧ (q : Int) + (s : Int) = (tt : Int)) ∨ (q < n ∧ ∃ s : Nat, 0 < s ∧ c.tmod ((n : Int) - (q : Int) + 1) = -(s : Int) ∧ (q : Int) + (s : Int) = (tt : Int)) ∨ (¬ q < n ∧ tt = q)) := by
        by_cases hqn : q < n
        · have h1 := tmod_bd (c := c) (d := n - q + 1) (by omega)
          have e : ((n - q + 1 : Nat) : Int) = (n : Int) - (q : Int) + 1 := by omega
          rw [e] at h1
          by_cases h0 : 0 ≤ c.tmod ((n : Int) - (q : Int) + 1)
          · exact ⟨q + (c.tmod ((n : Int) - (q : Int) + 1)).toNat, by omega, by omega, Or.inl ⟨hqn, (c.tmod ((n : Int) - (q : Int) + 1)).toNat, by omega, by omega⟩⟩
          · exact ⟨q + (-(c.tmod ((n : Int) - (q : Int) + 1))).toNat, by omega, by omega, Or.inr (Or.inl ⟨hqn, (-(c.tmod ((n : Int) - (q : Int) + 1))).toNat, by omega, by omega, by omega⟩)⟩
        · exact ⟨q, by omega, by omega, Or.inr (Or.inr ⟨hqn, rfl⟩)⟩
      have hXr := (unhide HX).below hx
      have hrm := hXr.room
      have hs1 := slice_lh a n cb q tt hqt (by omega)
      have hs2 := slice_h a n cb tt (by omega)
      have hP := (unhide HX).sub hqt htn
      have hlow : 0 < tt - q → ∀ ad, subA a cb q = some ad → ad.block < w.heap.size := fun h0 => sub_block ((unhide HX).blockLt (by omega))
      have hP2 := (unhide HX).sub (Nat.zero_le tt) htn
      have hP2' : IsB w (.slice (subA a cb 0) tt cb) (xs.take tt) := by simpa using hP2
      have HTK : Hid (xs.take q ++ (xs.drop q).take (tt - q) = xs.take tt) := by
        show _ = _
        rw [← List.take_add, show q + (tt - q) = tt by omega]
      have HPL : Hid (((xs.drop q).take (tt - q)).length + q = tt) := by
        show _ = _
        rw [List.length_take, List.length_drop, ← HN.out]
        omega
      have hxn := HN.out
      generalize subA a cb q = A1 at *
      generalize subA a cb 0 = A2 at *
      generalize hm : tt - q = m at *
      generalize cb - q = C1 at *
      have HM := hide hm
      have HP := hide hP
      have HP2 := hide hP2'
      have HLW := hide hlow
      have HQT := hide hqt
      clear hm hXr hP hP2 hP2' hlow hxn
      have HSUM : Hid (∀ (W : World) (v' : Value), IsBB W v' [xs.take tt] → Below w.heap.size w W → Calls Tryd.prog 11 #[v'] W fun e w' => e = .returned (keyV (xs.take tt)) ∧ Below W.heap.size W w') := fun W v' h1 h2 => by
        have hT2 := (unhide HT).below h2
        have := sums_calls h1 (by simp; omega) hT2.k hT2.s
        simpa using this
      have hlow2 : ∀ j, j < us.length → ∀ aj nj cj, us.getD j undef = .slice aj nj cj → 0 < nj → ∀ ad, aj = some ad → ad.block < w2.heap.size := fun j hj aj nj cj e h0 ad had => by
        have := unhide HLOW j hj aj nj cj e h0 ad had
        omega
      have HL2 := hide hlow2
      clear hlow2
      have HLOW3 : Hid (∀ j, j < (us ++ [Value.slice A1 m C1]).length → ∀ aj nj cj, (us ++ [Value.slice A1 m C1]).getD j undef = .slice aj nj cj → 0 < nj → ∀ ad, aj = some ad → ad.block < w.heap.size) := fun j hj aj nj cj e h0 ad had => by
        by_cases hj' : j < us.length
        · rw [List.getD_eq_getElem?_getD, List.getElem?_append_left hj', ← List.getD_eq_getElem?_getD] at e
          exact unhide HLOW j hj' aj nj cj e h0 ad had
        · have hj2 : j = us.length := by simp at hj; omega
          subst hj2
          have e1 : (us ++ [Value.slice A1 m C1]).getD us.length undef = .slice A1 m C1 := by simp [List.getD_eq_getElem?_getD]
          rw [e1] at e
          injection e with e1 e2 e3
          subst e1 e2
          exact unhide HLW h0 ad had
      have HFL3 : Hid ((xss ++ [(xs.drop q).take m]).flatten = xs.take tt) := by
        show _ = _
        rw [List.flatten_append, HFL.out, ← HTK.out]
        simp
      have HWR : Hid (∀ W : World, IsHash W w.heap.size (xs.take q) → Below w.heap.size w W → Calls Tryd.prog 19 #[.pointer (some ⟨w.heap.size, 0, none⟩), .slice A1 m C1] W fun e w' => (∃ v, e = .returned v) ∧ IsHash w' w.heap.size (xs.take tt) ∧ W.grownBy w' (some w.heap.size)) := fun W h1 h2 => by
        have := write_calls h1 ((unhide HP).below h2) (fun h0 ad had => by have := unhide HLW h0 ad had; omega) (by have := HPL.out; rw [List.length_take]; omega) ((unhide HT).k.below h2) (by omega)
        rw [HTK.out] at this
        exact this
      have hlenT : (xs.take tt).length = tt := by rw [List.length_take, ← HN.out]; omega
      have HLT := hide hlenT
      have HFAR : Hid (∀ (v : Value) (us' : List Value) (xss' : List (List Int)) (W : World), OwnBB W w2.heap.size v us' xss' → v.ownBlock ≠ some w.heap.size) := fun v us' xss' W h e => by have := (h.own.lt _ e).1; omega
      have HLIT : Hid (∀ W : World, Below w.heap.size w W → IsBB (W.alloc (.cells #[.slice A2 tt cb] 26)) (.slice (some ⟨W.heap.size, 0, none⟩) 1 1) [xs.take tt]) := fun W hW => isBB_one ((unhide HP2).below hW)
      clear hlenT
      rcases hcase with ⟨hqn, s, hr, hqs⟩ | ⟨hqn, s, hs0, hr, hqs⟩ | ⟨hqn, hte⟩
      rotate_left 2
      subst hte
      all_goals
        go_wp2_with (first
          | (at_builtin; refine wpList_appS rfl (.tmp 52) (.tmp 57) rfl rfl hl rfl ((unhide HP).below hx) (fun h0 ad had e => (by have h1 := unhide HLW h0 ad had; have h2 := (hl.own.lt _ e).1; omega)) (fun j hj aj nj cj e h0 ad had e2 => (by have h1 := unhide HL2 j hj aj nj cj e h0 ad had; have h2 := (hl.own.lt _ e2).1; omega)) (by omega) hz ?_; intro v3 w3 hl3 hg3; have hx3 := hx.grown hg3 hx.size (fun k hk => (by have := (hl.own.lt k hk).1; omega)); have hH3 := hH.keptRow hg3 (unhide HFAR _ _ _ _ hl); have hz3 := Nat.le_trans hz hg3.size)
          | (go_at_call 19; refine (unhide HWR _ hH3 hx3).mono ?_; rintro e w4 ⟨⟨v4, rfl⟩, hH4, hg4⟩; have hx4 := hx3.grown hg4 hx3.size (fun k hk => (by injection hk with hk; omega)); have hl4 := hl3.kept hg4 hg2 (fun j hj aj nj cj e h0 ad had => (by have := unhide HLOW3 j hj aj nj cj e h0 ad had; omega)); have hz4 := Nat.le_trans hz3 hg4.size))
        have HK4 : Hid (∀ W, Below w4.heap.size w4 W → Calls Tryd.prog 22 #[.pointer (some ⟨w.heap.size, 0, none⟩)] W fun e w' => e = .returned (keyV (xs.take tt)) ∧ Below W.heap.size W w') := fun W hW => keys_calls (hH4.below hW) (((unhide HT).k.below hx4).below hW)
        have HLN : Hid (∀ W, Below w4.heap.size w4 W → Calls Tryd.prog 20 #[.pointer (some ⟨w.heap.size, 0, none⟩)] W fun e w' => e = .returned (.int .i64 (tt : Int)) ∧ w' = W) := fun W hW => by
          have := len_calls (hH4.below hW)
          rw [HLT.out] at this
          exact this
        have hkg3 := fun op x y W => hkg op x y (xs.take tt) (xs.take tt) W
        have hkn3 := fun W => hkn (xs.take tt) W
        generalize hKV : keyV (xs.take tt) = KV at *
        have HKV := hide hKV
        have hz4s := hx4.size
        have HX4 := hide hx4
        clear hKV hl3 hg3 hx3 hH3 hz3 hg4 HWR hl hx hH
        go_region_held3 (fun W => Below w4.heap.size w4 W) (repeat (first | assumption | exact Below.refl _ _ | refine Below.drew ?_ | exact lit_below _ _ | exact Below.alloc (by assumption) (Below.size (by assumption)) _))
          (first
            | (go_at_call 22; refine (unhide HK4 _ (by repeat (first | assumption | exact Below.refl _ _ | refine Below.drew ?_ | exact lit_below _ _))).mono ?_; rintro e w5 ⟨rfl, hb5⟩; have hB5 : Below w4.heap.size w4 w5 := (by first | exact below_drew hb5 | exact below_alloc (below_drew hb5)))
            | (go_at_call 11; refine (unhide HSUM _ _ (by first | exact unhide HLIT w5 (below_then (unhide HX4) hB5) | exact (unhide HLIT w4 (unhide HX4)).below (below_drew hb5)) (by first | exact below_then (unhide HX4) hB5 | exact below_then (unhide HX4) (Below.alloc hB5 hB5.size _))).mono ?_; rintro e w6 ⟨rfl, hb6⟩; have hB6 : Below w4.heap.size w4 w6 := (by first | exact below_then hB5 hb6 | exact below_then hB5 (below_alloc hb6)))
            | (go_at_call 20; refine (unhide HLN _ (by repeat (first | assumption | exact Below.refl _ _ | refine Below.drew ?_))).mono ?_; rintro e w7 ⟨rfl, hw7⟩; obtain rfl := hw7.symm))
        all_goals
          go_wp2
          exact ⟨⟨k + 1, tt, us ++ [Value.slice A1 m C1], _, by omega, by omega, by go_num, rfl, htn, by rw [List.length_append, hus]; rfl, HFL3, hl4.below hB6, HLOW3, hH4.below hB6, Nat.le_trans hz4 hB6.size, below_then (unhide HX4) hB6⟩, by simp [intOf]; omega⟩
    · have hXr := (unhide HX).below hx
      have hs1 := slice_l a n cb q hq
      have hP : IsB w (.slice (subA a cb q) (n - q) (cb - q)) (xs.drop q) := by
        have h1 := (unhide HX).sub hq (Nat.le_refl n)
        rw [List.take_of_length_le (by rw [List.length_drop, ← HN.out]; exact Nat.le_refl _)] at h1
        exact h1
      have hlow : 0 < n - q → ∀ ad, subA a cb q = some ad → ad.block < w.heap.size := fun h0 => sub_block ((unhide HX).blockLt (by omega))
      have hxn := HN.out
      generalize subA a cb q = A1 at *
      generalize n - q = m at *
      generalize cb - q = C1 at *
      have HP := hide hP
      have HLW := hide hlow
      clear hP hlow hXr
      have HLOW3 : Hid (∀ j, j < (us ++ [Value.slice A1 m C1]).length → ∀ aj nj cj, (us ++ [Value.slice A1 m C1]).getD j undef = .slice aj nj cj → 0 < nj → ∀ ad, aj = some ad → ad.block < w.heap.size) := fun j hj aj nj cj e h0 ad had => by
        by_cases hj' : j < us.length
        · rw [List.getD_eq_getElem?_getD, List.getElem?_append_left hj', ← List.getD_eq_getElem?_getD] at e
          exact unhide HLOW j hj' aj nj cj e h0 ad had
        · have hj2 : j = us.length := by simp at hj; omega
          subst hj2
          have e1 : (us ++ [Value.slice A1 m C1]).getD us.length undef = .slice A1 m C1 := by simp [List.getD_eq_getElem?_getD]
          rw [e1] at e
          injection e with e1 e2 e3
          subst e1 e2
          exact unhide HLW h0 ad had
      have HFL3 : Hid ((xss ++ [xs.drop q]).flatten = xs) := by
        show _ = _
        rw [List.flatten_append, HFL.out]
        simp
      have HWR : Hid (∀ W : World, IsHash W w.heap.size (xs.take q) → Below w.heap.size w W → Calls Tryd.prog 19 #[.pointer (some ⟨w.heap.size, 0, none⟩), .slice A1 m C1] W fun e w' => (∃ v, e = .returned v) ∧ IsHash w' w.heap.size xs ∧ W.grownBy w' (some w.heap.size)) := fun W h1 h2 => by
        have := write_calls h1 ((unhide HP).below h2) (fun h0 ad had => by have := unhide HLW h0 ad had; omega) (by rw [← List.length_append, List.take_append_drop]; omega) ((unhide HT).k.below h2) (by omega)
        rw [List.take_append_drop] at this
        exact this
      have HL2 : Hid (∀ j, j < us.length → ∀ aj nj cj, us.getD j undef = .slice aj nj cj → 0 < nj → ∀ ad, aj = some ad → ad.block < w2.heap.size) := fun j hj aj nj cj e h0 ad had => by
        have := unhide HLOW j hj aj nj cj e h0 ad had
        omega
      have HFAR : Hid (∀ (v : Value) (us' : List Value) (xss' : List (List Int)) (W : World), OwnBB W w2.heap.size v us' xss' → v.ownBlock ≠ some w.heap.size) := fun v us' xss' W h e => by have := (h.own.lt _ e).1; omega
      have HSB : Hid (∀ (W : World) (v' : Value) (yss : List (List Int)), IsBB W v' yss → yss.flatten = xs → Below w.heap.size w W → Calls Tryd.prog 11 #[v'] W fun e w' => e = .returned (keyV xs) ∧ Below W.heap.size W w') := fun W v' yss h1 hy h2 => by
        have hT2 := (unhide HT).below h2
        have := sums_calls h1 (by rw [hy]; omega) hT2.k hT2.s
        rw [hy] at this
        exact this
      have HKY : Hid (∀ W : World, IsHash W w.heap.size xs → Below w.heap.size w W → Calls Tryd.prog 22 #[.pointer (some ⟨w.heap.size, 0, none⟩)] W fun e w' => e = .returned (keyV xs) ∧ Below W.heap.size W w') := fun W h1 h2 => keys_calls h1 ((unhide HT).k.below h2)
      have hk1 : ¬ ((k : Int) < (L : Int) ∧ (k : Int) < 40) := by omega
      clear hxn
      by_cases hk2 : (k : Int) < (L : Int)
      · have hk3 : ¬ (k : Int) < 40 := by omega
        go_wp2_with (first
          | (at_builtin; refine wpList_appS rfl (.tmp 80) (.tmp 84) rfl rfl hl rfl ((unhide HP).below hx) (fun h0 ad had e => (by have h1 := unhide HLW h0 ad had; have h2 := (hl.own.lt _ e).1; omega)) (fun j hj aj nj cj e h0 ad had e2 => (by have h1 := unhide HL2 j hj aj nj cj e h0 ad had; have h2 := (hl.own.lt _ e2).1; omega)) (by omega) hz ?_; intro v3 w3 hl3 hg3; have hx3 := hx.grown hg3 hx.size (fun k hk => (by have := (hl.own.lt k hk).1; omega)); have hH3 := hH.keptRow hg3 (unhide HFAR _ _ _ _ hl))
          | (go_at_call 19; refine (unhide HWR _ hH3 hx3).mono ?_; rintro e w4 ⟨⟨v4, rfl⟩, hH4, hg4⟩; have hx4 := hx3.grown hg4 hx3.size (fun k hk => (by injection hk with hk; omega)); have hl4 := hl3.kept hg4 hg2 (fun j hj aj nj cj e h0 ad had => (by have := unhide HLOW3 j hj aj nj cj e h0 ad had; omega)); have hX4 := (unhide HX).below hx4))
        clear hl3 hg3 hg4 hH3 hx3 hl hH hx HWR
        refine (unhide HKY w4 hH4 hx4).mono ?_
        rintro e w5 ⟨rfl, hb5⟩; have hx5 := below_then hx4 hb5
        go_wp2_with fail
        refine (unhide HSB _ _ _ (isBB_one (hX4.below hb5)) (by simp) (below_then hx5 (lit_below _ _))).mono ?_
        rintro e w6 ⟨rfl, hb6⟩; have hb6' := below_then hb5 (below_alloc hb6); have hx6 := below_then hx4 hb6'
        go_wp2_with fail
        refine (unhide HSB _ _ _ (hl4.below hb6').isBB HFL3.out hx6).mono ?_
        rintro e w7 ⟨rfl, hb7⟩; have hb7' := below_then hb6' hb7; have hx7 := below_then hx4 hb7'
        go_wp2_with fail
        refine (unhide HKY _ (hH4.below hb7') hx7).mono ?_
        rintro e w8 ⟨rfl, hb8⟩; have hx8 := below_then hx7 hb8
        go_wp2
        go_ret
        exact ⟨rfl, hx8⟩
      · go_wp2_with (first
          | (at_builtin; refine wpList_appS rfl (.tmp 80) (.tmp 84) rfl rfl hl rfl ((unhide HP).below hx) (fun h0 ad had e => (by have h1 := unhide HLW h0 ad had; have h2 := (hl.own.lt _ e).1; omega)) (fun j hj aj nj cj e h0 ad had e2 => (by have h1 := unhide HL2 j hj aj nj cj e h0 ad had; have h2 := (hl.own.lt _ e2).1; omega)) (by omega) hz ?_; intro v3 w3 hl3 hg3; have hx3 := hx.grown hg3 hx.size (fun k hk => (by have := (hl.own.lt k hk).1; omega)); have hH3 := hH.keptRow hg3 (unhide HFAR _ _ _ _ hl))
          | (go_at_call 19; refine (unhide HWR _ hH3 hx3).mono ?_; rintro e w4 ⟨⟨v4, rfl⟩, hH4, hg4⟩; have hx4 := hx3.grown hg4 hx3.size (fun k hk => (by injection hk with hk; omega)); have hl4 := hl3.kept hg4 hg2 (fun j hj aj nj cj e h0 ad had => (by have := unhide HLOW3 j hj aj nj cj e h0 ad had; omega)); have hX4 := (unhide HX).below hx4))
        clear hl3 hg3 hg4 hH3 hx3 hl hH hx HWR
        refine (unhide HKY w4 hH4 hx4).mono ?_
        rintro e w5 ⟨rfl, hb5⟩; have hx5 := below_then hx4 hb5
        go_wp2_with fail
        refine (unhide HSB _ _ _ (isBB_one (hX4.below hb5)) (by simp) (below_then hx5 (lit_below _ _))).mono ?_
        rintro e w6 ⟨rfl, hb6⟩; have hb6' := below_then hb5 (below_alloc hb6); have hx6 := below_then hx4 hb6'
        go_wp2_with fail
        refine (unhide HSB _ _ _ (hl4.below hb6').isBB HFL3.out hx6).mono ?_
        rintro e w7 ⟨rfl, hb7⟩; have hb7' := below_then hb6' hb7; have hx7 := below_then hx4 hb7'
        go_wp2_with fail
        refine (unhide HKY _ (hH4.below hb7') hx7).mono ?_
        rintro e w8 ⟨rfl, hb8⟩; have hx8 := below_then hx7 hb8
        go_wp2
        go_ret
        exact ⟨rfl, hx8⟩
end Go.Proofs.YtmnmnepiikeomaaDoor
