/- ShaSums' walk. -/
import Derived.Test.YtmnmnepiikeomaaDoorShaParts
import Derived.Test.YtmnmnepiikeomaaDoorShaLong
namespace Go.Proofs.YtmnmnepiikeomaaDoor
open Go.RowKit

theorem IsB.keptRow {w w' : World} {b off n cap : Nat} {ys : List Int} {row : Option Nat} (h : IsB w (.slice (some ⟨b, off, none⟩) n cap) ys) (hg : w.grownBy w' row) (hne : row ≠ some b) : IsB w' (.slice (some ⟨b, off, none⟩) n cap) ys := by
  have hn := h.lenEq
  obtain ⟨h1, a', cp, hv, hl', hm, hz, hc⟩ := h
  injection hv with e1 e2 e3
  subst e1 e3
  refine ⟨h1, some ⟨b, off, none⟩, cap, by rw [hn], hl', hm, hz, fun hp => ?_⟩
  obtain ⟨b', off', ha, hcell⟩ := hc hp
  injection ha with ha
  injection ha with hb ho
  subst hb ho
  refine ⟨b, off, rfl, fun j hj => ?_⟩
  rw [← hcell j hj]
  exact World.cell?_of_block (hg.block b (World.block_lt_of_cell? w _ (hcell j hj)) (fun e => hne e.symm))
/-- The copies, and one slice of marks behind them in the row's room. -/
structure Marked (w : World) (B g cap : Nat) (d : Value) (us vs : List Value) (yss : List (List Int)) (gm : Nat) : Prop where
  cells : ∀ j, j < us.length + 1 → w.cell? ⟨g, j, none⟩ = (us ++ [.slice (some ⟨gm, 0, none⟩) 4 4])[j]?
  room : us.length + 1 ≤ cap ∧ cap ≤ 9223372036854775807
  ownD : w.ownsRow B 26 1 d vs.length vs
  lu : us.length = yss.length
  lv : vs.length = yss.length
  eachO : ∀ j, j < us.length → ∃ g n c, us.getD j undef = .slice (some ⟨g, 0, none⟩) n c ∧ IsLaid w B g n c (yss.getD j [])
  eachD : ∀ j, j < vs.length → ∃ a n c, vs.getD j undef = .slice a n c ∧ Own8 w B (.slice a n c) (yss.getD j [])
  mark : IsB w (.slice (some ⟨gm, 0, none⟩) 4 4) [109, 97, 114, 107]
theorem Marked.below {w w' : World} {B g cap : Nat} {d : Value} {us vs : List Value} {yss : List (List Int)} {gm : Nat} (h : Marked w B g cap d us vs yss gm) (hb : Below w.heap.size w w') : Marked w' B g cap d us vs yss gm :=
  ⟨fun j hj => by
    have h1 := h.cells j hj
    have hl : j < (us ++ [Value.slice (some ⟨gm, 0, none⟩) 4 4]).length := by simp; omega
    rw [List.getElem?_eq_getElem hl] at h1 ⊢
    exact (hb.cell (World.block_lt_of_cell? w _ h1)).trans h1, h.room, owns_below h.ownD hb, h.lu, h.lv, fun j hj => by
    obtain ⟨g, n, c, e, hl⟩ := h.eachO j hj
    exact ⟨g, n, c, e, hl.below hb⟩, fun j hj => by
    obtain ⟨a, n, c, e, hl⟩ := h.eachD j hj
    exact ⟨a, n, c, e, hl.below hb⟩, h.mark.below hb⟩
theorem Parts.mark {w w' : World} {B : Nat} {o o' d : Value} {us vs : List Value} {yss : List (List Int)} (h : Parts w B o d us yss vs yss)
    (h2 : w'.ownsRow B 26 1 o' (us ++ [Value.slice (some ⟨w.heap.size, 0, none⟩) 4 4]).length (us ++ [Value.slice (some ⟨w.heap.size, 0, none⟩) 4 4])) (hg : (w.alloc (.cells #[.int .u8 109, .int .u8 97, .int .u8 114, .int .u8 107] 5 (4, 5))).grownBy w' o.ownBlock) :
    ∃ g cap, o' = .slice (some ⟨g, 0, none⟩) (us.length + 1) cap ∧ Marked w' B g cap d us vs yss w.heap.size := by
  have hA := h.below (lit_below w (.cells #[.int .u8 109, .int .u8 97, .int .u8 114, .int .u8 107] 5 (4, 5)))
  have hm := isB_litm w [109, 97, 114, 107] (4, 5) (by decide) (by decide)
  have hdo : d.ownBlock = none ∨ d.ownBlock ≠ o.ownBlock := by
    rcases h.apart with e | e | e
    · rw [e]
      by_cases e2 : d.ownBlock = none
      · exact Or.inl e2
      · exact Or.inr e2
    · exact Or.inl e
    · exact Or.inr (Ne.symm e)
  have hl1 : (us ++ [Value.slice (some ⟨w.heap.size, 0, none⟩) 4 4]).length = us.length + 1 := by simp
  rw [hl1] at h2
  obtain ⟨g, cap, rfl, hc1, hc2, _, hcell⟩ := owns_shape h2 (by omega)
  refine ⟨g, cap, rfl, fun j hj => hcell j (by omega), ⟨hc1, hc2⟩, hA.ownD.kept hg hdo, h.lu, h.lv, fun j hj => ?_, fun j hj => ?_, hm.keptRow hg (fun e => ?_)⟩
  · obtain ⟨g', n', c', e, hl⟩ := hA.eachO j hj
    exact ⟨g', n', c', e, laid_far hl hA.ownO hg⟩
  · obtain ⟨a', n', c', e, hl⟩ := hA.eachD j hj
    exact ⟨a', n', c', e, own_far hl hA.ownO hg⟩
  · have := (h.ownO.lt _ e).2
    omega
theorem Marked.bbO {w : World} {B g cap : Nat} {d : Value} {us vs : List Value} {yss : List (List Int)} {gm : Nat} (h : Marked w B g cap d us vs yss gm) : IsBB w (.slice (some ⟨g, 0, none⟩) us.length cap) yss := by
  have hr := h.room
  refine ⟨some ⟨g, 0, none⟩, cap, by rw [h.lu], by have := h.lu; omega, hr.2, fun _ => ⟨g, 0, rfl, fun j hj => ?_⟩⟩
  rw [← h.lu] at hj
  obtain ⟨g', n', c', e, hl⟩ := h.eachO j hj
  refine ⟨us.getD j undef, ?_, by rw [e]; exact hl.isB⟩
  rw [Nat.zero_add, h.cells j (by omega), List.getElem?_append_left hj, List.getElem?_eq_getElem hj, List.getD_eq_getElem?_getD, List.getElem?_eq_getElem hj]
  rfl
theorem Marked.bbD {w : World} {B g cap : Nat} {d : Value} {us vs : List Value} {yss : List (List Int)} {gm : Nat} (h : Marked w B g cap d us vs yss gm) : IsBB w d yss :=
  OwnBB.isBB (us := vs) (B := B) ⟨h.ownD, h.lv, fun j hj => by
    obtain ⟨a, n, c, e, hl⟩ := h.eachD j hj
    rw [e]
    exact hl.isB⟩

set_option maxRecDepth 100000 in
set_option maxHeartbeats 4000000 in
theorem sums_walk {w : World} {v : Value} {xss : List (List Int)} (h : IsBB w v xss) (hT : Tabs w) :
    Calls Tryd.prog 3 #[v] w fun e w' => e = .returned (.bool true) ∧ Below w.heap.size w w' := by
  have HT := hide hT
  have HI := hide h
  obtain ⟨a0, c0, rfl, _⟩ := h
  have hcv := conv_lit
  have hke := keyV_eql
  have hkn := keyV_neq
  have hkg := keyV_guard
  obtain ⟨L, hL⟩ : ∃ L, L = xss.length := ⟨_, rfl⟩
  rw [← hL] at HI ⊢
  clear hT hL
  go_enter Tryd.func3, Tryd.ntmps3
  go_wp2_with (go_at_call 9; refine (told_calls (unhide HT)).mono ?_; rintro e w1 ⟨rfl, hB1⟩)
  refine (parts_calls ((unhide HI).below hB1)).mono ?_
  rintro e w2 ⟨o, d, rfl, us, vs, yss, hP, hfl, hyl, hb2⟩
  have hB2 := below_then hB1 hb2
  have hul : us.length ≤ 1000000000 := by have := hP.lu; omega
  have hz2 := hb2.size
  have hz1 := hB1.size
  have HFL := hide hfl
  have HYL := hide hyl
  clear hfl hyl
  obtain ⟨k, hk⟩ : ∃ k, k = us.length := ⟨_, rfl⟩
  have hk40 : k ≤ 40 := by have := hP.lu; have := HYL.out; omega
  have HSB : Hid (∀ (W : World) (v' : Value), IsBB W v' yss → Below w.heap.size w W → Calls Tryd.prog 11 #[v'] W fun e w' => e = .returned (keyV yss.flatten) ∧ Below W.heap.size W w') := fun W v' h1 h2 => by
    have hT2 := (unhide HT).below h2
    exact sums_calls h1 (by have := HFL.out; omega) hT2.k hT2.s
  go_wp2_with (at_builtin; refine wpList_appAt rfl (.tmp 14) (.tmp 17) rfl rfl (hP.below (lit_below w2 (.cells #[.int .u8 109, .int .u8 97, .int .u8 114, .int .u8 107] 5 (4, 5)))).ownO (by simp; rfl) hul (by simp; omega) ?_; intro o2 w3 h3 hg3 _; obtain ⟨g, cap, ho2, hM⟩ := hP.mark h3 hg3; have hB3 := (below_then hB2 (lit_below w2 (.cells #[.int .u8 109, .int .u8 97, .int .u8 114, .int .u8 107] 5 (4, 5)))).grown hg3 (by simp; omega) (fun j hj => Nat.le_trans hz1 (hP.ltO j hj)); have hr := hM.room; rw [← hk] at ho2 hr; subst ho2; have HK := hide hk; clear hk; have hkc : (k : Int) ≤ (cap : Int) := (by omega); clear h3 hg3)
  have HBB : Hid (∀ W, Below w3.heap.size w3 W → IsBB W (.slice (some ⟨g, 0, none⟩) k cap) yss) := fun W hW => by rw [HK.out]; exact (hM.below hW).bbO
  have HDD : Hid (∀ W, Below w3.heap.size w3 W → IsBB W d yss) := fun W hW => (hM.below hW).bbD
  have hi48 : (Tryd.prog.info? 28).map (·.size) = some ((shaOf yss.flatten).map (Value.int .u8)).length := by rw [keyV_len]; kernel_rfl
  have hl48 : (row32 []).length = ((shaOf yss.flatten).map (Value.int .u8)).length := by rw [keyV_len]; rfl
  have hk32 := keyV_len yss.flatten
  have hone48 := u8_one (shaOf yss.flatten)
  have hu48 := Tryd.underlying28
  have HSU : Hid (∀ (W : World), Below w3.heap.size w3 W → Calls Tryd.prog 11 #[.slice (some ⟨g, 0, none⟩) k cap] W fun e w' => e = .returned (.agg ((shaOf yss.flatten).map (Value.int .u8)).toArray) ∧ Below W.heap.size W w') := fun W hW => unhide HSB W _ (unhide HBB W hW) (below_then hB3 hW)
  have HJN : Hid (∀ (W : World), Below w3.heap.size w3 W → Calls Tryd.prog 13 #[d] W fun e w' => ∃ a n c, e = .returned (.slice a n c) ∧ IsB w' (.slice a n c) yss.flatten ∧ Below W.heap.size W w') := fun W hW => joined_calls (unhide HDD W hW) (by have := HFL.out; omega)
  have HRS : Hid (∀ (W : World) (a : Option Addr) (n c : Nat), IsB W (.slice a n c) yss.flatten → Calls Tryd.prog 12 #[.slice a n c] W fun e w' => e = .returned (.agg ((shaOf yss.flatten).map (Value.int .u8)).toArray) ∧ Below W.heap.size W w') := fun W a n c hW => rsum_calls hW (by have := HFL.out; omega)
  have hke2 := hke yss.flatten
  have hkn2 := hkn yss.flatten
  have hkg2 := fun op x y W => hkg op x y yss.flatten yss.flatten W
  have hke0 := hke []
  have hkg0 := fun op x y W => hkg op x y [] [] W
  rw [keyV] at hke2 hkn2 hkg2
  clear hke hkn hkg hcv
  generalize (shaOf yss.flatten).map (Value.int .u8) = KV at *
  refine (unhide HSU w3 (Below.refl _ _)).mono ?_
  rintro e w4 ⟨rfl, hb4⟩
  go_wp2_with (refine wpList_storeArr2 (cs' := KV) rfl (.tmp 5) (.tmp 25) 28 rfl rfl rfl (Arr.new w4 (row32 []) 28) hi48 hl48 hone48 ?_; intro w5 hR5 hw5; have hb5 := below_then hb4 (hw5.below _ _ ((lit_below w4 (.cells (row32 []).toArray 28))) (Nat.le_refl _)))
  have hM5 := hM.below hb5
  have hx5 := below_then hB3 hb5
  have hcK : w5.cell? ⟨g, k, none⟩ = some (.slice (some ⟨w2.heap.size, 0, none⟩) 4 4) := by
    have h1 := hM5.cells k (by rw [HK.out]; omega)
    rw [h1, HK.out, List.getElem?_append_right (Nat.le_refl _), Nat.sub_self]
    rfl
  have hmk : mkS [109, 97, 114, 107] = ⟨#[109, 97, 114, 107]⟩ := by decide
  have hR5' := hR5.range
  have HS : Hid (∀ W, Below w5.heap.size w5 W → (Below w5.heap.size w5 W ∧ W.rangeAt w4.heap.size 0 KV ∧ W.cell? ⟨g, k, none⟩ = some (.slice (some ⟨w2.heap.size, 0, none⟩) 4 4) ∧ (convert 26 9 (.slice (some ⟨w2.heap.size, 0, none⟩) 4 4)).run Tryd.prog W = .ok (.string ⟨#[109, 97, 114, 107]⟩) W)) := fun W hW =>
    ⟨hW, range_below hR5' hW, (hW.cell (World.block_lt_of_cell? _ _ hcK)).trans hcK, by rw [conv_isB (hM5.mark.below hW), hmk]⟩
  have hkc1 : (k : Int) + 1 ≤ (cap : Int) := by omega
  have hk0 : (0 : Int) ≤ (k : Int) := by omega
  have hkk : (k : Int) < (k : Int) + 1 := by omega
  have hkk2 : k < k + 1 := by omega
  have hwr : IntKind.i64.wrap ((k : Int) + 1) = (k : Int) + 1 := by rw [IntKind.wrap_i64]; omega
  have hk01 : (0 : Int) ≤ (k : Int) + 1 := by omega
  have HM5 := hide hM5
  have HM := hide hM
  clear hM hM5 hcK hmk hR5' hP hb2 hw5
  go_region_held3 (fun W => Below w5.heap.size w5 W ∧ W.rangeAt w4.heap.size 0 KV ∧ W.cell? ⟨g, k, none⟩ = some (.slice (some ⟨w2.heap.size, 0, none⟩) 4 4) ∧ (convert 26 9 (.slice (some ⟨w2.heap.size, 0, none⟩) 4 4)).run Tryd.prog W = .ok (.string ⟨#[109, 97, 114, 107]⟩) W)
    ((refine unhide HS _ ?_; repeat (first | assumption | exact Below.refl _ _ | refine Below.drew ?_ | exact lit_below _ _)))
    (first
      | (go_at_call 13; refine (unhide HJN _ (below_then hb5 (Below.drew (Below.refl _ _)))).mono ?_; rintro e w6 ⟨a6, n6, c6, rfl, hI6, hb6⟩; have hB6 : Below w5.heap.size w5 w6 := below_drew hb6)
      | (go_at_call 12; refine (unhide HRS _ _ _ _ hI6).mono ?_; rintro e w7 ⟨rfl, hb7⟩; have hB7 : Below w5.heap.size w5 w7 := below_then hB6 hb7))
  have hRX := hide hR5
  clear hI6 hb6 hB6 hb7 hR5 HJN HRS
  go_wp2
  go_loopw [6] (fun i wr => ∃ t : Nat, t ≤ k ∧ i = .int .i64 (t : Int) ∧ Below w5.heap.size w5 wr) (fun i _ => k - (intOf i).toNat)
  case atStart => exact ⟨0, by omega, rfl, hB7⟩
  case round =>
    clear hB7
    obtain ⟨i, hik, rfl, hnx⟩ := hrel
    by_cases hlt : i < k
    · have hM6 := (unhide HM5).below hnx
      have hvk : vs.length = k := by rw [HK.out, hM6.lv, hM6.lu]
      obtain ⟨gd, cd, rfl, hcd1, hcd2, _, hcd⟩ := owns_shape hM6.ownD (by omega)
      obtain ⟨gi, ni, ci, ei, hL⟩ := hM6.eachO i (by rw [← HK.out]; exact hlt)
      obtain ⟨ai, mi, di, ei2, hO⟩ := hM6.eachD i (by omega)
      have hc1 := hM6.cells i (by rw [← HK.out]; omega)
      rw [List.getElem?_append_left (by rw [← HK.out]; exact hlt)] at hc1
      have hc1' : wr.cell? ⟨g, i, none⟩ = some (.slice (some ⟨gi, 0, none⟩) ni ci) := by
        rw [hc1, ← ei, List.getElem?_eq_getElem (by rw [← HK.out]; exact hlt), List.getD_eq_getElem?_getD, List.getElem?_eq_getElem (by rw [← HK.out]; exact hlt)]
        rfl
      have hc2 := hcd i (by omega)
      have hc2' : wr.cell? ⟨gd, i, none⟩ = some (.slice ai mi di) := by
        rw [hc2, ← ei2, List.getElem?_eq_getElem (by omega), List.getD_eq_getElem?_getD, List.getElem?_eq_getElem (by omega)]
        rfl
      have hyi : (yss.getD i []).length ≤ 70000 := by
        have h1 := flatten_le (xss := yss) (i + 1)
        rw [flatten_take (by rw [← hM6.lu, ← HK.out]; exact hlt), List.length_append] at h1
        have := HFL.out
        omega
      have hni : ni ≤ 140737488350000 := by have := hL.len; omega
      have HIN : Hid (∀ W, Below wr.heap.size wr W → Calls Tryd.prog 14 #[.slice (some ⟨gi, 0, none⟩) ni ci, .slice ai mi di] W fun e w' => e = .returned (.bool true) ∧ Below W.heap.size W w') := fun W hW => by
        refine (intact_calls (hL.below hW) (hO.isB.below hW) hni).mono ?_
        rintro e w' ⟨rfl, hd⟩
        exact ⟨rfl, below_same hd⟩
      have HSS : Hid (∀ W, Below wr.heap.size wr W → (Below wr.heap.size wr W ∧ W.cell? ⟨g, i, none⟩ = some (.slice (some ⟨gi, 0, none⟩) ni ci) ∧ W.cell? ⟨gd, i, none⟩ = some (.slice ai mi di))) := fun W hW => ⟨hW, (hW.cell (World.block_lt_of_cell? _ _ hc1')).trans hc1', (hW.cell (World.block_lt_of_cell? _ _ hc2')).trans hc2'⟩
      rw [hvk] at hcd1
      have hik0 : (0 : Int) ≤ (i : Int) := by omega
      have hikI : (i : Int) < (k : Int) := by omega
      have hdk : (vs.length : Int) = (k : Int) := by omega
      rw [hvk]
      clear hc1 hc1' hc2 hc2' hM6 hcd hL hO ei ei2 hyi hni hvk hdk
      go_wp2_with fail
      go_region_held3 (fun W => Below wr.heap.size wr W ∧ W.cell? ⟨g, i, none⟩ = some (.slice (some ⟨gi, 0, none⟩) ni ci) ∧ W.cell? ⟨gd, i, none⟩ = some (.slice ai mi di))
        ((refine unhide HSS _ ?_; repeat (first | assumption | exact Below.refl _ _ | refine Below.drew ?_ | exact lit_below _ _)))
        (first
          | (go_at_call 14; refine (unhide HIN _ (Below.drew (Below.refl _ _))).mono ?_; rintro e w6 ⟨rfl, hb6⟩; have hB6 : Below wr.heap.size wr w6 := below_drew hb6))
      go_wp2
      go_roundw
      case rel => exact ⟨i + 1, by omega, by go_num, below_then hnx hB6⟩
      case measure => simp [intOf]; omega
    · have hRw := ((unhide hRX).below hnx).range
      have HSS : Hid (∀ W, Below wr.heap.size wr W → (Below wr.heap.size wr W ∧ W.rangeAt w4.heap.size 0 KV)) := fun W hW => ⟨hW, range_below hRw hW⟩
      have hxr := below_then hx5 hnx
      have HSU2 : Hid (∀ W, Below wr.heap.size wr W → Calls Tryd.prog 11 #[.slice (some ⟨g, 0, none⟩) k cap] W fun e w' => e = .returned (.agg KV.toArray) ∧ Below W.heap.size W w') := fun W hW => unhide HSU W (below_then hb5 (below_then hnx hW))
      have HSN : Hid (∀ W, Below wr.heap.size wr W → Calls Tryd.prog 11 #[.slice none 0 0] W fun e w' => e = .returned (keyV []) ∧ Below W.heap.size W w') := fun W hW => by
        have hT2 := (unhide HT).below (below_then hxr hW)
        exact sums_none none 0 W hT2.k hT2.s
      have HRN : Hid (∀ W : World, Calls Tryd.prog 12 #[.slice none 0 0] W fun e w' => e = .returned (keyV []) ∧ Below W.heap.size W w') := fun W => rsum_calls (isB_nil W) (by simp)
      clear hRw
      go_wp2_with fail
      go_region_held3 (fun W => Below wr.heap.size wr W ∧ W.rangeAt w4.heap.size 0 KV)
        ((refine unhide HSS _ ?_; repeat (first | assumption | exact Below.refl _ _ | refine Below.drew ?_ | exact lit_below _ _)))
        (first
          | (go_at_call 11; with_reducible refine (unhide HSU2 _ (by repeat (first | assumption | exact Below.refl _ _ | refine Below.drew ?_))).mono ?_; rintro e w6 ⟨rfl, hb6⟩; have hB6 : Below wr.heap.size wr w6 := below_drew hb6)
          | (go_at_call 11; refine (unhide HSN _ (by repeat (first | assumption | exact Below.refl _ _ | refine Below.drew ?_))).mono ?_; rintro e w7 ⟨rfl, hb7⟩; have hB7 : Below wr.heap.size wr w7 := below_then hB6 hb7)
          | (go_at_call 12; refine (unhide HRN _).mono ?_; rintro e w8 ⟨rfl, hb8⟩; have hB8 : Below wr.heap.size wr w8 := below_then hB7 hb8))
      go_wp2
      go_ret
      exact ⟨rfl, below_then hxr (by repeat (first | assumption | exact Below.refl _ _ | refine Below.drew ?_))⟩
end Go.Proofs.YtmnmnepiikeomaaDoor
