/- The document's SameImage and Image. -/
import Derived.Test.YtfgjhlnaaopdeabDkG
namespace Go.Proofs.Ytfgjhlnaaopdeab
open Go.RowKit Go.Maps

set_option maxRecDepth 100000 in
set_option maxHeartbeats 2000000 in
theorem sameImg_some {w : World} {ga oa gb ob n ca cb : Nat} {xss : List (List Int)} (ha : ∀ j, j < n → ∃ u, w.cell? ⟨ga, oa + j, none⟩ = some u ∧ IsB w u (xss.getD j [])) (hb : ∀ j, j < n → ∃ u, w.cell? ⟨gb, ob + j, none⟩ = some u ∧ IsB w u (xss.getD j [])) (hca : n ≤ ca) (hc1 : ca ≤ 9223372036854775807) :
    Calls Try.prog 23 #[.slice (some ⟨ga, oa, none⟩) n ca, .slice (some ⟨gb, ob, none⟩) n cb] w fun e w' => e = .returned (.bool true) ∧ Below w.heap.size w w' := by
  have HA := hide ha
  have HB := hide hb
  clear ha hb
  go_enter Try.func23, Try.ntmps23
  go_wp2
  go_loopw [5] (fun iv wr => ∃ i : Nat, i ≤ n ∧ iv = .int .i64 (i : Int) ∧ Below w.heap.size w wr) (fun i _ => n - (intOf i).toNat)
  case atStart => exact ⟨0, by omega, rfl, Below.refl _ _⟩
  case round =>
    obtain ⟨i, hin, rfl, hnx⟩ := hrel
    by_cases hlt : i < n
    · obtain ⟨u1, h1, hI1⟩ := unhide HA i hlt
      obtain ⟨u2, h2, hI2⟩ := unhide HB i hlt
      obtain ⟨a1, m1, c1, rfl⟩ := hI1.shape
      obtain ⟨a2, m2, c2, rfl⟩ := hI2.shape
      have HSS : Hid (∀ W, Below w.heap.size w W → (W.cell? ⟨ga, oa + i, none⟩ = some (.slice a1 m1 c1) ∧ W.cell? ⟨gb, ob + i, none⟩ = some (.slice a2 m2 c2) ∧ (convert 23 9 (.slice a1 m1 c1)).run Try.prog W = .ok (.string (mkS (xss.getD i []))) W ∧ (convert 23 9 (.slice a2 m2 c2)).run Try.prog W = .ok (.string (mkS (xss.getD i []))) W)) := fun W hW =>
        ⟨(hW.cell (p := ⟨ga, oa + i, none⟩) (World.block_lt_of_cell? _ _ h1)).trans h1, (hW.cell (p := ⟨gb, ob + i, none⟩) (World.block_lt_of_cell? _ _ h2)).trans h2, conv_isB (hI1.below hW), conv_isB (hI2.below hW)⟩
      have HNX := hide hnx
      clear hI1 hI2 h1 h2 hnx
      generalize mkS (xss.getD i []) = st at *
      go_wp2_with fail
      focus (go_region_held3 (fun W => W.cell? ⟨ga, oa + i, none⟩ = some (.slice a1 m1 c1) ∧ W.cell? ⟨gb, ob + i, none⟩ = some (.slice a2 m2 c2) ∧ (convert 23 9 (.slice a1 m1 c1)).run Try.prog W = .ok (.string st) W ∧ (convert 23 9 (.slice a2 m2 c2)).run Try.prog W = .ok (.string st) W)
        ((exact unhide HSS _ (unhide HNX).drew)) (fail))
      go_wp2
      go_roundw
      case rel => exact ⟨i + 1, by omega, by go_num, HNX.out.drew⟩
      case measure => simp [intOf]; omega
    · go_wp2
      go_ret
      exact ⟨rfl, hnx⟩
theorem sameImg_calls {w : World} {va vb : Value} {xss : List (List Int)} (ha : IsBB w va xss) (hb : IsBB w vb xss) (hn : 0 < xss.length) :
    Calls Try.prog 23 #[va, vb] w fun e w' => e = .returned (.bool true) ∧ Below w.heap.size w w' := by
  obtain ⟨a1, c1, rfl, hl1, hm1, hc1⟩ := ha
  obtain ⟨a2, c2, rfl, _, _, hc2⟩ := hb
  obtain ⟨g1, o1, rfl, h1⟩ := hc1 hn
  obtain ⟨g2, o2, rfl, h2⟩ := hc2 hn
  exact sameImg_some h1 h2 hl1 hm1
theorem lastOf_take {l : Ats} {k : Nat} (hk : k < l.length) (i : Int) : lastOf (l.take (k + 1)) i = if i = (l.getD k dA).1 then (l.getD k dA).2 else lastOf (l.take k) i := by
  rw [List.take_succ_eq_append_getElem hk, lastOf_snoc, getD_eq hk]
/-- Slices of bytes of the document's, side by side. -/
structure Pile (w : World) (g n k : Nat) (f : Nat → List Int) : Prop where
  rd : ∃ us, Arr w g 23 us ∧ us.length = n ∧ ∀ j, j < k → Own8 w 0 (us.getD j undef) (f j)
theorem Pile.cell {w : World} {g n : Nat} {f : Nat → List Int} (h : Pile w g n n f) {j : Nat} (hj : j < n) : ∃ u, w.cell? ⟨g, j, none⟩ = some u ∧ Own8 w 0 u (f j) := by
  obtain ⟨us, h1, h2, h3⟩ := h.rd
  exact ⟨us.getD j undef, by rw [h1.cell, List.getD_eq_getElem?_getD, List.getElem?_eq_getElem (by omega)]; rfl, h3 j hj⟩
theorem Pile.below {w w' : World} {g n k : Nat} {f : Nat → List Int} (h : Pile w g n k f) (hb : Below w.heap.size w w') : Pile w' g n k f := by
  obtain ⟨us, h1, h2, h3⟩ := h.rd
  exact ⟨us, h1.below hb, h2, fun j hj => (h3 j hj).below hb⟩
theorem Pile.set {w : World} {g n k k1 k2 : Nat} {f : Nat → List Int} {u : Value} {s : List Int} (h : Pile w g n k1 f) (hk : k < n) (hu : Own8 w 0 u s) (h12 : ∀ j, j < k2 → j = k ∨ j < k1) : Pile (w.setCell ⟨g, k, none⟩ u) g n k2 (updF f k s) := by
  obtain ⟨us, h1, h2, h3⟩ := h.rd
  have hg := grown_cell w g k u
  refine ⟨us.set k u, h1.set k u, by rw [List.length_set]; exact h2, fun j hj => ?_⟩
  by_cases e : j = k
  · subst e
    rw [updF_same, List.getD_eq_getElem?_getD, List.getElem?_set_self (by omega)]
    exact hu.other hg h1 (by decide)
  · rw [updF_other _ _ e, List.getD_eq_getElem?_getD, List.getElem?_set_ne (by omega), ← List.getD_eq_getElem?_getD]
    exact (h3 j ((h12 j hj).resolve_left e)).other hg h1 (by decide)
theorem Pile.frozen {w : World} {g n k : Nat} {f : Nat → List Int} (h : Pile w g n k f) (j : Nat) : w.frozen? ⟨g, j, none⟩ = false := by
  obtain ⟨us, h1, _⟩ := h.rd
  exact h1.frozen j
theorem Pile.isBB {w : World} {g n : Nat} {f : Nat → List Int} (h : Pile w g n n f) (hn : n ≤ 65536) : IsBB w (.slice (some ⟨g, 0, none⟩) n n) ((List.range n).map f) := by
  have hl : ((List.range n).map f).length = n := by simp
  refine ⟨some ⟨g, 0, none⟩, n, by rw [hl], by omega, by omega, fun _ => ⟨g, 0, rfl, fun j hj => ?_⟩⟩
  rw [hl] at hj
  obtain ⟨u, h1, h2⟩ := h.cell hj
  refine ⟨u, by rw [Nat.zero_add]; exact h1, ?_⟩
  have e : ((List.range n).map f).getD j [] = f j := by rw [List.getD_eq_getElem?_getD, List.getElem?_map, List.getElem?_range hj]; rfl
  rw [e]
  exact Own8.isB h2
theorem Pile.some {w : World} {g n k : Nat} {f : Nat → List Int} (h : Pile w g n k f) {j : Nat} (hj : j < n) : ∃ u, w.cell? ⟨g, j, none⟩ = Option.some u := by
  obtain ⟨us, h1, h2, _⟩ := h.rd
  exact ⟨_, by rw [h1.cell, List.getElem?_eq_getElem (by omega)]⟩
theorem Pile.lt {w : World} {g n k : Nat} {f : Nat → List Int} (h : Pile w g n k f) : g < w.heap.size := by
  obtain ⟨us, h1, _⟩ := h.rd
  exact h1.lt
theorem Pile.ext {w : World} {g n k : Nat} {f f' : Nat → List Int} (h : Pile w g n k f) (he : ∀ j, j < k → f' j = f j) : Pile w g n k f' := by
  obtain ⟨us, h1, h2, h3⟩ := h.rd
  exact ⟨us, h1, h2, fun j hj => by rw [he j hj]; exact h3 j hj⟩
set_option maxRecDepth 100000 in
set_option maxHeartbeats 4000000 in
theorem rimage_calls {w : World} {va vb : Value} {n : Nat} {rd wt fl : Int} {l : Ats} (h : IsAts w va l) (hok : AtsOk n l) (hn : n ≤ 65536) :
    Calls Try.prog 46 #[.agg #[.int .i64 (n : Int), va, vb, .int .i64 rd, .int .i64 wt, .int .i64 fl]] w fun e w' => ∃ v, e = .returned v ∧ IsBB w' v ((List.range n).map fun i : Nat => lastOf l (i : Int)) ∧ Below w.heap.size w w' := by
  obtain ⟨a, c, rfl, hp⟩ := h.shape
  have hb1 := (Below.refl w.heap.size w).alloc (Nat.le_refl _) (.cells #[.int .i64 (n : Int), .slice a l.length c, vb, .int .i64 rd, .int .i64 wt, .int .i64 fl] 85)
  have hX0 := Arr.new w [.int .i64 (n : Int), .slice a l.length c, vb, .int .i64 rd, .int .i64 wt, .int .i64 fl] 85
  have HA := hide h
  have HZ : Hid (∀ W, Calls Try.prog 56 #[] W fun e w' => ∃ u, e = .returned u ∧ Own8 w' W.heap.size u zsec ∧ Below W.heap.size W w') := fun W => zeros_calls
  have HC : Hid (∀ (W : World) (v : Value) (xs : List Int), IsB W v xs → xs.length ≤ 140737488355328 → Calls Try.prog 51 #[v] W fun e w' => ∃ u, e = .returned u ∧ Own8 w' W.heap.size u xs ∧ Below W.heap.size W w') := fun W v xs h1 h2 => copy_calls h1 h2
  have HOK : Hid (∀ j, j < l.length → ∃ q : Nat, (l.getD j dA).1 = (q : Int) ∧ q < n ∧ IsSec (l.getD j dA).2) := fun j hj => by
    have := hok _ (List.getElem_mem hj)
    rw [getD_eq hj]
    exact ⟨l[j].1.toNat, by omega, by omega, this.2.2⟩
  have HLT : Hid (∀ k, k < l.length → ∀ i, lastOf (l.take (k + 1)) i = if i = (l.getD k dA).1 then (l.getD k dA).2 else lastOf (l.take k) i) := fun k hk i => lastOf_take hk i
  have hlen : l.length ≤ 9223372036854775807 := by
    by_cases h0 : 0 < l.length
    · obtain ⟨g, _, h1, h2⟩ := hp h0; omega
    · omega
  clear h hok
  generalize hm : l.length = m at *
  have HM := hide hm
  clear hm
  obtain ⟨i1, hi1, hy0, hy1, hy2⟩ := info_parts infoBy
  have hX0' : (w.alloc (.cells #[.int .i64 (n : Int), .slice a m c, vb, .int .i64 rd, .int .i64 wt, .int .i64 fl] 85)).heap[w.heap.size]? = some (.cells #[.int .i64 (n : Int), .slice a m c, vb, .int .i64 rd, .int .i64 wt, .int .i64 fl] 85 (0, 0)) := hX0
  have hs1 : (w.alloc (.cells #[.int .i64 (n : Int), .slice a m c, vb, .int .i64 rd, .int .i64 wt, .int .i64 fl] 85)).heap.size = w.heap.size + 1 := by simp
  go_enter Try.func46, Try.ntmps46
  go_wp2_with (at_make; refine wpList_make_full _ rfl _ _ 33 rfl (w.heap.size + 1) 23 i1 (.slice none 0 0) 1 Try.underlying33 hi1 hy0 hy1 _ _ _ _ n rfl rfl rfl rfl (by rw [hy2]; omega) (by unfold maxLen; omega) (by simp) ?_; intro w1 hr1 hg1)
  obtain ⟨hI1, _⟩ := arr_full hr1
  have hml : (madeCells (Value.slice none 0 0).cells (n * 1)).toList.length = n := by simp [madeCells]
  have hP1 : Pile w1 (w.heap.size + 1) n 0 (fun _ => zsec) := ⟨_, by rw [← hs1]; exact hI1, hml, fun j hj => by omega⟩
  have hbb : Below (w.alloc (.cells #[.int .i64 (n : Int), .slice a m c, vb, .int .i64 rd, .int .i64 wt, .int .i64 fl] 85)).heap.size (w.alloc (.cells #[.int .i64 (n : Int), .slice a m c, vb, .int .i64 rd, .int .i64 wt, .int .i64 fl] 85)) w1 := below_none hg1
  have hB1 : Below w.heap.size w w1 := hb1.trans (hbb.mono (by simp))
  have hX1 : Arr w1 w.heap.size 85 [.int .i64 (n : Int), .slice a m c, vb, .int .i64 rd, .int .i64 wt, .int .i64 fl] := Arr.below hX0 hbb
  clear hI1 hr1 hg1 hbb hml hX0 hX0' hb1 hs1 hy0
  go_loopw [4] (fun iv wr => ∃ k : Nat, k ≤ n ∧ iv = .int .i64 (k : Int) ∧ Pile wr (w.heap.size + 1) n k (fun _ => zsec) ∧ Arr wr w.heap.size 85 [.int .i64 (n : Int), .slice a m c, vb, .int .i64 rd, .int .i64 wt, .int .i64 fl] ∧ Below w.heap.size w wr) (fun iv _ => n - (intOf iv).toNat)
  case atStart => exact ⟨0, by omega, rfl, hP1, hX1, hB1⟩
  case round =>
    clear hP1 hX1 hB1
    obtain ⟨k, hk, rfl, hP, hX, hnx⟩ := hrel
    have hx0 := hX.cell_of (j := 0) rfl
    have hsz := hnx.size
    by_cases hlt : k < n
    · have HP := hide hP
      have HX := hide hX
      have HNX := hide hnx
      clear hP hX hnx
      go_wp2_with (go_at_call 56; refine (unhide HZ _).mono ?_; rintro e w2 ⟨u, rfl, hu, hb2⟩; have hP2 := HP.out.below hb2; obtain ⟨z, hz⟩ := hP2.some hlt; have hfz := hP2.frozen k; obtain ⟨ua, un, uc, rfl⟩ := (Own8.isB hu).shape)
      have hset := hP2.set (k2 := k + 1) hlt (hu.mono (Nat.zero_le _)) (fun j hj => by omega)
      have hX2 := (HX.out.below hb2).other ⟨w.heap.size + 1, k, none⟩ (.slice ua un uc) (by simp)
      have hbn : Below w.heap.size w (w2.setCell ⟨w.heap.size + 1, k, none⟩ (.slice ua un uc)) := (below_then HNX.out hb2).setCell (by simp) _
      go_roundw
      case rel => exact ⟨k + 1, by omega, by go_num, hset.ext (fun j _ => by unfold updF; split <;> rfl), hX2, hbn⟩
      case measure => simp [intOf]; omega
    · have hkn : k = n := by omega
      have hP0 : Pile wr (w.heap.size + 1) n n (fun j => lastOf (l.take 0) (j : Int)) := by rw [hkn] at hP; exact hP.ext (fun j _ => rfl)
      have HP := hide hP0
      have HX := hide hX
      have HNX := hide hnx
      clear hkn hP hX hnx hP0
      go_wp2
      go_loopw [5] (fun iv wq => ∃ k : Nat, k ≤ m ∧ iv = .int .i64 (k : Int) ∧ Pile wq (w.heap.size + 1) n n (fun j => lastOf (l.take k) (j : Int)) ∧ Arr wq w.heap.size 85 [.int .i64 (n : Int), .slice a m c, vb, .int .i64 rd, .int .i64 wt, .int .i64 fl] ∧ Below w.heap.size w wq) (fun iv _ => m - (intOf iv).toNat)
      case atStart => exact ⟨0, by omega, rfl, HP.out, HX.out, HNX.out⟩
      case round =>
        clear HP HX HNX hx0 hsz
        obtain ⟨k, hk, rfl, hP, hX, hnx⟩ := hrel
        have hx1 := hX.cell_of (j := 1) rfl
        have hsz := hnx.size
        by_cases hlt : k < m
        · obtain ⟨g, rfl, hle, hcm⟩ := hp (by omega)
          obtain ⟨u, hc1, hc2, hu⟩ := (HA.out.below hnx).elem (j := k) (by rw [HM.out]; exact hlt)
          obtain ⟨q, hq, hqn, hsec⟩ := unhide HOK k hlt
          have HLK := hide (unhide HLT k hlt)
          obtain ⟨ua, un, uc, rfl⟩ := (Own8.isB hu).shape
          have hglt : g < wr.heap.size := World.block_lt_of_cell? _ _ hc1
          have hxlt := hX.lt
          rw [hq] at hc1 HLK
          have HCU : Hid (∀ W, Below wr.heap.size wr W → Calls Try.prog 51 #[.slice ua un uc] W fun e w' => ∃ u, e = .returned u ∧ Own8 w' W.heap.size u (l.getD k dA).2 ∧ Below W.heap.size W w') := fun W hW => unhide HC _ _ _ ((Own8.isB hu).below hW) (by rw [hsec.1]; decide)
          have HS : Hid (∀ W : World, W.heap[w.heap.size]? = wr.heap[w.heap.size]? → W.heap[g]? = wr.heap[g]? → (W.cell? ⟨w.heap.size, 1, none⟩ = some (.slice (some ⟨g, 0, none⟩) m c) ∧ W.cell? ⟨g, k * 2, none⟩ = some (.int .i64 (q : Int)) ∧ W.cell? ⟨g, k * 2 + 1, none⟩ = some (.slice ua un uc))) := fun W h1 h2 =>
            ⟨(World.cell?_of_block (a := ⟨w.heap.size, 1, none⟩) h1).trans hx1, (World.cell?_of_block (a := ⟨g, k * 2, none⟩) h2).trans hc1, (World.cell?_of_block (a := ⟨g, k * 2 + 1, none⟩) h2).trans hc2⟩
          have hgne : g ≠ w.heap.size + 1 := fun e => by
            obtain ⟨us, h1, _⟩ := hP.rd
            obtain ⟨es, k1, _⟩ := (HA.out.below hnx).rd
            rcases k1.2 with ⟨hv, _⟩ | ⟨g', cap, cur, hv, _, hgg, _⟩
            · cases hv
            · injection hv with e1
              injection e1 with e1
              injection e1 with e1
              subst e1
              unfold Arr at h1
              rw [← e, hgg] at h1
              simp only [Option.some.injEq, Obj.cells.injEq] at h1
              exact absurd h1.2.1 (by decide)
          have HP := hide hP
          have HX := hide hX
          have HNX := hide hnx
          clear hP hX hnx hu hq hsec hc1 hc2
          generalize (l.getD k dA).2 = bs at *
          go_wp2_with fail
          focus (go_region_held3 (fun W => W.cell? ⟨w.heap.size, 1, none⟩ = some (.slice (some ⟨g, 0, none⟩) m c) ∧ W.cell? ⟨g, k * 2, none⟩ = some (.int .i64 (q : Int)) ∧ W.cell? ⟨g, k * 2 + 1, none⟩ = some (.slice ua un uc))
            ((first | exact unhide HS _ rfl rfl | exact unhide HS _ hs2 hs3 | exact unhide HS _ hs4 hs5))
            (first
              | (go_at_call 51; refine (unhide HCU _ (Below.refl _ _).drew).mono ?_; rintro e w2 ⟨u2, rfl, hu2, hb2'⟩; have hb2 := below_drew hb2'; have hs2 := hb2.block w.heap.size hxlt; have hs3 := hb2.block g hglt; have hP2 := HP.out.below hb2; obtain ⟨z, hz⟩ := hP2.some hqn; have hfz := hP2.frozen q; obtain ⟨va, vn, vc, rfl⟩ := (Own8.isB hu2).shape; have hs4 := (Below.heap_setCell w2 ⟨w.heap.size + 1, q, none⟩ (.slice va vn vc) w.heap.size (by simp)).trans hs2; have hs5 := (Below.heap_setCell w2 ⟨w.heap.size + 1, q, none⟩ (.slice va vn vc) g hgne).trans hs3)))
          have hset := hP2.set (k2 := n) hqn (hu2.mono (Nat.zero_le _)) (fun j hj => Or.inr hj)
          have hX2 := (HX.out.below hb2).other ⟨w.heap.size + 1, q, none⟩ (.slice va vn vc) (by simp)
          have hbn : Below w.heap.size w (w2.setCell ⟨w.heap.size + 1, q, none⟩ (.slice va vn vc)) := (below_then HNX.out hb2).setCell (by simp) _
          go_wp2
          go_roundw
          case rel => exact ⟨k + 1, by omega, by go_num, hset.ext (fun j _ => by
              rw [unhide HLK]
              by_cases e : j = q
              · subst e; rw [if_pos rfl, updF_same]
              · rw [if_neg (by omega), updF_other _ _ e]), hX2, hbn⟩
          case measure => simp [intOf]; omega
        · have hkm : k = m := by omega
          have HF : Hid (∀ j : Nat, lastOf (l.take k) (j : Int) = lastOf l (j : Int)) := fun j => by rw [List.take_of_length_le (by rw [HM.out]; omega)]
          clear hkm
          go_wp2
          go_ret
          exact ⟨_, rfl, (hP.ext (fun j _ => (unhide HF j).symm)).isBB hn, hnx⟩
end Go.Proofs.Ytfgjhlnaaopdeab
