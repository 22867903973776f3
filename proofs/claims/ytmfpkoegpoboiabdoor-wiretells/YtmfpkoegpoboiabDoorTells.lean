/- WireTells' walk. -/
import Derived.Test.YtmfpkoegpoboiabDoorBurst
import Derived.Test.YtmfpkoegpoboiabDoorTurned0
import Derived.Test.YtmfpkoegpoboiabDoorSums
namespace Go.Proofs.YtmfpkoegpoboiabDoor
open Go.RowKit

theorem own_lt {w : World} {B g n cap : Nat} {xs : List Int} (h : Own8 w B (.slice (some ⟨g, 0, none⟩) n cap) xs) : B ≤ g ∧ g < w.heap.size := by
  rcases h.1.2 with ⟨h', _⟩ | ⟨g', cap', cur, h', hb, hgg, _⟩
  · simp at h'
  · simp only [Value.slice.injEq, Option.some.injEq, Addr.mk.injEq, and_true] at h'
    obtain ⟨rfl, _⟩ := h'
    exact ⟨hb, (Array.getElem?_eq_some_iff.1 hgg).1⟩
theorem below_grown {w w1 w2 : World} {g : Nat} (h1 : Below w.heap.size w w1) (h2 : w1.grownBy w2 (some g)) (hg : w.heap.size ≤ g) : Below w.heap.size w w2 :=
  h1.grown h2 h1.size (fun j hj => by injection hj with e; omega)
theorem row_cells {w : World} {x y z : Int} : ∀ t, t < 3 → (w.alloc (.cells #[.int .i64 x, .int .i64 y, .int .i64 z] 3)).cell? ⟨w.heap.size, 0 + t, none⟩ = some (.int .i64 ([x, y, z].getD t 0)) := by
  intro t ht
  rw [cell_of_row _ w.heap.size (0 + t) #[.int .i64 x, .int .i64 y, .int .i64 z] 3 (0, 0) (heap_alloc_new w _)]
  match t, ht with
  | 0, _ => rfl
  | 1, _ => rfl
  | 2, _ => rfl
theorem own_zero {w : World} {B : Nat} {t : TypeId} {s : Nat} {v : Value} {cs : List Value} (h : w.ownsRow B t s v 0 cs) : ∃ a c, v = .slice a 0 c := by
  rcases h.2 with ⟨rfl, _⟩ | ⟨g', cap', cur, rfl, _⟩
  · exact ⟨_, _, rfl⟩
  · exact ⟨_, _, rfl⟩
theorem infoI : (Tryd.prog.info? 3).map (fun i => (i.zero, i.size, i.bytes)) = some (some (.int .i64 0), 1, 8) := by kernel_rfl
theorem one_i64 (x : Int) : ∀ u ∈ [Value.int .i64 x], u.oneCell' = true := by intro u hu; simp at hu; subst hu; rfl
theorem shr_cast (P q : Nat) : (P : Int) / 2 ^ q = ((P / 2 ^ q : Nat) : Int) := by simp
theorem and_one {P q : Nat} (h : P < 2 ^ 32) : bits .and .u32 ((P : Int) / 2 ^ q) 1 = ((P / 2 ^ q % 2 : Nat) : Int) := by
  rw [shr_cast]
  have hlt : P / 2 ^ q < 2 ^ 32 := Nat.lt_of_le_of_lt (Nat.div_le_self _ _) h
  generalize P / 2 ^ q = r at hlt
  have h1 : bits .and .u32 (r : Int) 1 = (r : Int) % 2 := bits_mask .u32 32 (by decide) wraps_u32 1 (by decide) r (by omega) (by exact_mod_cast hlt)
  rw [h1]
  omega

set_option maxRecDepth 100000 in
set_option maxHeartbeats 8000000 in
theorem tells_1 {w : World} {ba : Option Addr} {n cap : Nat} {xs ys : List Int} {i j k A : Int} {P : Nat} (hb : IsB w (.slice ba n cap) xs) (hys : ys = xs.take n) (hn0 : 0 < n) (hn : n ≤ 4096) (hl : n ≤ 140737488351232) (hP : P < 2 ^ 32) (ht : Tab w) :
    Calls Tryd.prog 5 #[.slice ba n cap, .int .i64 i, .int .i64 j, .int .i64 k, .int .i64 A, .int .u32 (P : Int)] w fun e w' => e = .returned (.bool true) ∧ Below w.heap.size w w' := by
  have HB := hide hb
  have HT := hide ht
  have HNL := hide hb.lenEq
  have hnc : n ≤ cap := hb.room
  have hF0 := hb.cut (k := n) (Nat.le_refl _)
  rw [← hys] at hF0
  have HF := hide hF0
  have hyl : ys.length = n := by rw [hys, List.length_take, ← HNL.out]; omega
  have HYL := hide hyl
  have HPP := hide hP
  clear hb ht hys hyl hF0 hP
  go_enter Tryd.func5, Tryd.ntmps5
  go_wp2_with fail
  have hbs := isBB_lit w [.slice ba n cap] [ys] _ rfl 1 rfl rfl (by decide) (fun j hj => by
    match j, hj with
    | 0, _ => exact unhide HF)
  have hbw : Below w.heap.size w (w.alloc (.cells #[.slice ba n cap] 23)) := (Below.refl _ _).alloc (Nat.le_refl _) _
  refine (join_calls hbs (by simpa using (unhide HF).mem) (by have := HYL.out; simp; omega)).mono ?_
  rintro e w1 ⟨va, vn, vc, rfl, hO1, hb1⟩
  rw [show [ys].flatten = ys by simp] at hO1
  have hO1' : Own8 w1 w.heap.size (.slice va vn vc) ys := ⟨owns_mono hO1.1 (by simp), hO1.2⟩
  have hB1 : Below w.heap.size w w1 := below_on hbw hb1
  obtain ⟨g, cp, hv, _⟩ := owns_shape hO1'.1 (by rw [HYL.out]; omega)
  rw [HYL.out] at hv
  injection hv with e1 e2 e3
  subst e1
  obtain rfl := e2.symm
  obtain rfl := e3.symm
  have hgl := own_lt hO1'
  have HO1 := hide hO1'
  clear hbs hbw hb1 hO1 hO1'
  go_wp2_with fail
  have hb2 : Below w1.heap.size w1 (w1.alloc (.cells #[.int .i64 i, .int .i64 j, .int .i64 k] 3)) := (Below.refl _ _).alloc (Nat.le_refl _) _
  have hO2 : Own8 (w1.alloc (.cells #[.int .i64 i, .int .i64 j, .int .i64 k] 3)) w.heap.size (.slice (some ⟨g, 0, none⟩) n cp) ys := ⟨owns_below (unhide HO1).1 hb2, (unhide HO1).2⟩
  refine (turned_in (bs := [i, j, k]) hO2 rfl (Nat.le_refl 3) (by decide) (by rw [HYL.out]; omega) (by omega) row_cells).mono ?_
  rintro e w3 ⟨rfl, hO3, hgr3⟩
  have hB3 : Below w.heap.size w w3 := below_grown (below_on hB1 hb2) hgr3 hgl.1
  have HO3 := hide hO3
  clear hb2 hO2 hO3 hgr3 hB1 HO1
  by_cases hT : ys = turnAll ys [i, j, k]
  focus
    rw [decide_eq_true hT]
    clear hT HO3
    go_wp2_with fail
    have hBX := hB3
    generalize w3 = wX at *
    clear hB3
  rotate_left
  rw [decide_eq_false hT]
  have hne0 : sumOf [turnAll ys [i, j, k]] ≠ sumOf [ys] := fun e => hT (three_stay (unhide HF).mem (by rw [HYL.out]; omega) (sum_turn e)).symm
  obtain ⟨S1, hS1⟩ : ∃ S, S = sumOf [turnAll ys [i, j, k]] := ⟨_, rfl⟩
  obtain ⟨S2, hS2⟩ : ∃ S, S = sumOf [ys] := ⟨_, rfl⟩
  have hne : (S1 == S2) = false := by rw [hS1, hS2]; simpa using hne0
  have HS1 := hide hS1
  have HS2 := hide hS2
  clear hT hne0 hS1 hS2
  go_wp2_with fail
  have hq1 := isBB_base (unhide HO3).isB (Below.refl _ _) rfl
  have hn1 := below_alloc (o := .cells #[.slice (some ⟨g, 0, none⟩) n cp] 23) hB3
  have hc1 := sum_calls hq1 ((unhide HT).below hn1)
  rw [← HS1.out] at hc1
  refine hc1.mono ?_
  rintro e w4 ⟨rfl, hw4⟩
  have hB4 : Below w.heap.size w w4 := by rw [hw4]; exact hn1
  clear hq1 hn1 hc1 hw4 HO3 hB3
  go_wp2_with fail
  have hq2 := isBB_base ((unhide HF).below hB4) (Below.refl _ _) rfl
  have hn2 := below_alloc (o := .cells #[.slice ba n cap] 23) hB4
  have hc2 := sum_calls hq2 ((unhide HT).below hn2)
  rw [← HS2.out] at hc2
  refine hc2.mono ?_
  rintro e wX ⟨rfl, hw5⟩
  have hBX : Below w.heap.size w wX := by rw [hw5]; exact hn2
  clear hq2 hn2 hc2 hw5 hB4 HS1 HS2
  focus (go_wp2_with fail)
  all_goals
    have hbs := isBB_lit wX [.slice ba n cap] [xs] _ rfl 1 rfl rfl (by decide) (fun j hj => by
      match j, hj with
      | 0, _ => exact (unhide HB).below hBX)
    have hbw := below_alloc (o := .cells #[.slice ba n cap] 23) (Below.refl wX.heap.size wX)
    refine (join_calls hbs (by simpa using (unhide HB).mem) (by have := HNL.out; simp; omega)).mono ?_
    rintro e w6 ⟨va, vn, vc, rfl, hO6, hb6⟩
    rw [show [xs].flatten = xs by simp] at hO6
    have hO6' : Own8 w6 wX.heap.size (.slice va vn vc) xs := ⟨owns_mono hO6.1 (by simp), hO6.2⟩
    have hB6 : Below wX.heap.size wX w6 := below_on hbw hb6
    obtain ⟨g2, cp2, hv, _⟩ := owns_shape hO6'.1 (by rw [← HNL.out]; omega)
    rw [← HNL.out] at hv
    injection hv with e1 e2 e3
    subst e1
    obtain rfl := e2.symm
    obtain rfl := e3.symm
    have hgl2 := own_lt hO6'
    have HO6 := hide hO6'
    have hBY : Below w.heap.size w w6 := below_on hBX hB6
    have hXs := hBX.size
    clear hbs hbw hb6 hO6 hO6' hB6
    go_wp2_with fail
    by_cases hA0 : A < 0
    · refine wp_loop_rounds 1 ?_
      rw [rounds_succ]
      go_wp2_with fail
      refine (started_calls _ ((unhide HT).below hBY)).mono ?_
      rintro e w7 ⟨rfl, hb7⟩
      go_wp2_with fail
      refine (turned_m0 ((unhide HO6).isB.below hb7) (by rw [← HNL.out]; omega)).mono ?_
      rintro e w8 ⟨rfl, hb8⟩
      have hB8 := below_on (below_on hBY hb7) hb8
      clear hb7 hb8
      go_wp2
      go_ret
      exact ⟨rfl, hB8⟩
    · by_cases hA1 : 8 * (n : Int) ≤ A
      · refine wp_loop_rounds 1 ?_
        rw [rounds_succ]
        go_wp2_with fail
        refine (started_calls _ ((unhide HT).below hBY)).mono ?_
        rintro e w7 ⟨rfl, hb7⟩
        go_wp2_with fail
        refine (turned_m0 ((unhide HO6).isB.below hb7) (by rw [← HNL.out]; omega)).mono ?_
        rintro e w8 ⟨rfl, hb8⟩
        have hB8 := below_on (below_on hBY hb7) hb8
        clear hb7 hb8
        go_wp2
        go_ret
        exact ⟨rfl, hB8⟩
      · obtain ⟨a, rfl⟩ := Int.eq_ofNat_of_zero_le (show 0 ≤ A by omega)
        obtain ⟨i0, hi, hz0, hz1, hz2⟩ := info_parts infoI
        have ha : a < 8 * n := by omega
        have hcI : (a : Int) < 8 * (n : Int) := by omega
        go_loopw [16, 17] (fun bv nv wr => ∃ (q L : Nat), q ≤ 32 ∧ nv = .int .i64 (q : Int) ∧ Hid (L = (burst a P q).length) ∧ L ≤ q ∧ wr.ownsRow w6.heap.size 3 1 bv L ((burst a P q).map (Value.int .i64)) ∧ Below w6.heap.size w6 wr) (fun _ nv _ => 32 - (intOf nv).toNat)
        case atStart => exact ⟨0, 0, by omega, rfl, rfl, Nat.le_refl _, World.ownsRow_nil _ _ _ _, Below.refl _ _⟩
        case round =>
          obtain ⟨q, L, hq, rfl, HL, hLq, hown, hnx⟩ := hrel
          have hsz := hnx.size
          by_cases hq32 : q < 32
          · have hand := and_one (q := q) HPP.out
            by_cases hbit : P / 2 ^ q % 2 = 1
            · rw [hbit] at hand
              have HBU : Hid (burst a P (q + 1) = burst a P q ++ [(a : Int) + q]) := by show _ = _; rw [burst, if_pos hbit]
              clear hbit
              go_wp2_with (first
                | (at_builtin; refine wpList_append_own _ rfl _ _ 43 rfl w6.heap.size 3 i0 (.int .i64 0) 1 8 Tryd.underlying43 hi hz0 hz1 hz2 rfl (by decide) _ _ _ rfl (hown.alloc _) ⟨wr.heap.size, 0, none⟩ 1 1 [.int .i64 ((a : Int) + q)] rfl rfl (cell_one_new _ _ _) (one_i64 _) (by unfold maxLen; omega) (by omega) (by simp; omega) ?_; intro v' w9 hown' hgrow hnil))
              go_roundw
              case rel =>
                exact ⟨q + 1, L + 1, by omega, by go_num, by show _ = _; rw [HBU.out, List.length_append, ← HL.out]; rfl, by omega, by rw [HBU.out]; simpa using hown',
                  (hnx.alloc hsz _).grown hgrow (by simp; omega) (fun k hk => (hown.lt k hk).1)⟩
              case measure => simp [intOf]; omega
            · have hz : P / 2 ^ q % 2 = 0 := by omega
              rw [hz] at hand
              have HBU : Hid (burst a P (q + 1) = burst a P q) := by show _ = _; rw [burst, if_neg hbit]
              clear hbit hz
              go_wp2
              go_roundw
              case rel => exact ⟨q + 1, L, by omega, by go_num, by rw [HBU.out]; exact HL, by omega, by rw [HBU.out]; exact hown, hnx⟩
              case measure => simp [intOf]; omega
          · obtain rfl : q = 32 := by omega
            have hBr := below_on hBY hnx
            have hOr : Own8 wr wX.heap.size (.slice (some ⟨g2, 0, none⟩) n cp2) xs := ⟨owns_below (unhide HO6).1 hnx, (unhide HO6).2⟩
            have HOR := hide hOr
            clear hOr HO6 hBY
            by_cases hL0 : 0 < L
            · obtain ⟨g3, cp3, rfl, hc1, hc2, hg3, hcell⟩ := owns_shape hown hL0
              have HCE := hide hcell
              clear hcell hown
              go_wp2_with fail
              refine (started_calls _ ((unhide HT).below hBr)).mono ?_
              rintro e w7 ⟨rfl, hb7⟩
              have hO7 : Own8 w7 wX.heap.size (.slice (some ⟨g2, 0, none⟩) n cp2) xs := ⟨owns_below (unhide HOR).1 hb7, (unhide HOR).2⟩
              have hB7 := below_on hBr hb7
              have hce7 : ∀ t, t < L → w7.cell? ⟨g3, 0 + t, none⟩ = some (.int .i64 ((burst a P 32).getD t 0)) := fun t ht => by
                have h1 := unhide HCE t (by omega)
                have h2 : t < (burst a P 32).length := by rw [← HL.out]; exact ht
                rw [List.getElem?_map, List.getElem?_eq_getElem h2] at h1
                rw [Nat.zero_add, List.getD_eq_getElem?_getD, List.getElem?_eq_getElem h2]
                exact (hb7.cell (p := ⟨g3, t, none⟩) (World.block_lt_of_cell? wr _ h1)).trans h1
              have HO7 := hide hO7
              have HC7 := hide hce7
              clear hO7 hce7 hb7 HCE HOR
              go_wp2_with fail
              refine (turned_in (unhide HO7) HL.out hc1 hc2 (by rw [← HNL.out]; omega) (by omega) (unhide HC7)).mono ?_
              rintro e w8 ⟨rfl, hO8, hgr8⟩
              have hB8 : Below w.heap.size w w8 := below_grown hB7 hgr8 (by omega)
              have HO8 := hide hO8
              clear hO8 hgr8 hB7 HO7 HC7
              by_cases hT2 : xs = turnAll xs (burst a P 32)
              · rw [decide_eq_true hT2]
                clear hT2
                go_wp2
                go_ret
                exact ⟨rfl, hB8⟩
              · rw [decide_eq_false hT2]
                have hne0 : sumOf [turnAll xs (burst a P 32)] ≠ sumOf [xs] := fun e => hT2 (burst_stay (by rw [← HNL.out]; exact ha) (sum_turn e)).symm
                obtain ⟨S1, hS1⟩ : ∃ S, S = sumOf [turnAll xs (burst a P 32)] := ⟨_, rfl⟩
                obtain ⟨S2, hS2⟩ : ∃ S, S = sumOf [xs] := ⟨_, rfl⟩
                have hne2 : (S1 != S2) = true := by rw [hS1, hS2]; simpa using hne0
                have HS1 := hide hS1
                have HS2 := hide hS2
                clear hT2 hne0 hS1 hS2
                go_wp2_with fail
                have hq1 := isBB_base (unhide HO8).isB (Below.refl _ _) rfl
                have hn1 := below_alloc (o := .cells #[.slice (some ⟨g2, 0, none⟩) n cp2] 23) hB8
                have hc1 := sum_calls hq1 ((unhide HT).below hn1)
                rw [← HS1.out] at hc1
                refine hc1.mono ?_
                rintro e w9 ⟨rfl, hw9⟩
                have hB9 : Below w.heap.size w w9 := by rw [hw9]; exact hn1
                clear hq1 hn1 hc1 hw9 HO8 hB8
                go_wp2_with fail
                have hq2 := isBB_base ((unhide HB).below hB9) (Below.refl _ _) rfl
                have hn2 := below_alloc (o := .cells #[.slice ba n cap] 23) hB9
                have hc2 := sum_calls hq2 ((unhide HT).below hn2)
                rw [← HS2.out] at hc2
                refine hc2.mono ?_
                rintro e w10 ⟨rfl, hw10⟩
                have hB10 : Below w.heap.size w w10 := by rw [hw10]; exact hn2
                clear hq2 hn2 hc2 hw10 hB9 HS1 HS2
                go_wp2
                go_ret
                exact ⟨rfl, hB10⟩
            · obtain rfl : L = 0 := by omega
              obtain ⟨xa, xc, rfl⟩ := own_zero hown
              clear hown
              go_wp2_with fail
              refine (started_calls _ ((unhide HT).below hBr)).mono ?_
              rintro e w7 ⟨rfl, hb7⟩
              go_wp2_with fail
              refine (turned_m0 ((unhide HOR).isB.below hb7) (by rw [← HNL.out]; omega)).mono ?_
              rintro e w8 ⟨rfl, hb8⟩
              have hB8 := below_on (below_on hBr hb7) hb8
              clear hb7 hb8
              go_wp2
              go_ret
              exact ⟨rfl, hB8⟩

set_option maxRecDepth 100000 in
set_option maxHeartbeats 8000000 in
theorem tells_2 {w : World} {ba : Option Addr} {n cap : Nat} {xs ys : List Int} {i j k A : Int} {P : Nat} (hb : IsB w (.slice ba n cap) xs) (hys : ys = xs.take 4096) (hn0 : 0 < n) (hn : 4096 < n) (hl : n ≤ 140737488351232) (hP : P < 2 ^ 32) (ht : Tab w) :
    Calls Tryd.prog 5 #[.slice ba n cap, .int .i64 i, .int .i64 j, .int .i64 k, .int .i64 A, .int .u32 (P : Int)] w fun e w' => e = .returned (.bool true) ∧ Below w.heap.size w w' := by
  have HB := hide hb
  have HT := hide ht
  have HNL := hide hb.lenEq
  have hnc : n ≤ cap := hb.room
  have hF0 := hb.cut (k := 4096) (by omega)
  rw [← hys] at hF0
  have HF := hide hF0
  have hyl : ys.length = 4096 := by rw [hys, List.length_take, ← HNL.out]; omega
  have HYL := hide hyl
  have HPP := hide hP
  clear hb ht hys hyl hF0 hP
  go_enter Tryd.func5, Tryd.ntmps5
  go_wp2_with fail
  have hbs := isBB_lit w [.slice ba 4096 cap] [ys] _ rfl 1 rfl rfl (by decide) (fun j hj => by
    match j, hj with
    | 0, _ => exact unhide HF)
  have hbw : Below w.heap.size w (w.alloc (.cells #[.slice ba 4096 cap] 23)) := (Below.refl _ _).alloc (Nat.le_refl _) _
  refine (join_calls hbs (by simpa using (unhide HF).mem) (by have := HYL.out; simp; omega)).mono ?_
  rintro e w1 ⟨va, vn, vc, rfl, hO1, hb1⟩
  rw [show [ys].flatten = ys by simp] at hO1
  have hO1' : Own8 w1 w.heap.size (.slice va vn vc) ys := ⟨owns_mono hO1.1 (by simp), hO1.2⟩
  have hB1 : Below w.heap.size w w1 := below_on hbw hb1
  obtain ⟨g, cp, hv, _⟩ := owns_shape hO1'.1 (by rw [HYL.out]; omega)
  rw [HYL.out] at hv
  injection hv with e1 e2 e3
  subst e1
  obtain rfl := e2.symm
  obtain rfl := e3.symm
  have hgl := own_lt hO1'
  have HO1 := hide hO1'
  clear hbs hbw hb1 hO1 hO1'
  go_wp2_with fail
  have hb2 : Below w1.heap.size w1 (w1.alloc (.cells #[.int .i64 i, .int .i64 j, .int .i64 k] 3)) := (Below.refl _ _).alloc (Nat.le_refl _) _
  have hO2 : Own8 (w1.alloc (.cells #[.int .i64 i, .int .i64 j, .int .i64 k] 3)) w.heap.size (.slice (some ⟨g, 0, none⟩) 4096 cp) ys := ⟨owns_below (unhide HO1).1 hb2, (unhide HO1).2⟩
  refine (turned_in (bs := [i, j, k]) hO2 rfl (Nat.le_refl 3) (by decide) (by rw [HYL.out]; omega) (by omega) row_cells).mono ?_
  rintro e w3 ⟨rfl, hO3, hgr3⟩
  have hB3 : Below w.heap.size w w3 := below_grown (below_on hB1 hb2) hgr3 hgl.1
  have HO3 := hide hO3
  clear hb2 hO2 hO3 hgr3 hB1 HO1
  by_cases hT : ys = turnAll ys [i, j, k]
  focus
    rw [decide_eq_true hT]
    clear hT HO3
    go_wp2_with fail
    have hBX := hB3
    generalize w3 = wX at *
    clear hB3
  rotate_left
  rw [decide_eq_false hT]
  have hne0 : sumOf [turnAll ys [i, j, k]] ≠ sumOf [ys] := fun e => hT (three_stay (unhide HF).mem (by rw [HYL.out]; omega) (sum_turn e)).symm
  obtain ⟨S1, hS1⟩ : ∃ S, S = sumOf [turnAll ys [i, j, k]] := ⟨_, rfl⟩
  obtain ⟨S2, hS2⟩ : ∃ S, S = sumOf [ys] := ⟨_, rfl⟩
  have hne : (S1 == S2) = false := by rw [hS1, hS2]; simpa using hne0
  have HS1 := hide hS1
  have HS2 := hide hS2
  clear hT hne0 hS1 hS2
  go_wp2_with fail
  have hq1 := isBB_base (unhide HO3).isB (Below.refl _ _) rfl
  have hn1 := below_alloc (o := .cells #[.slice (some ⟨g, 0, none⟩) 4096 cp] 23) hB3
  have hc1 := sum_calls hq1 ((unhide HT).below hn1)
  rw [← HS1.out] at hc1
  refine hc1.mono ?_
  rintro e w4 ⟨rfl, hw4⟩
  have hB4 : Below w.heap.size w w4 := by rw [hw4]; exact hn1
  clear hq1 hn1 hc1 hw4 HO3 hB3
  go_wp2_with fail
  have hq2 := isBB_base ((unhide HF).below hB4) (Below.refl _ _) rfl
  have hn2 := below_alloc (o := .cells #[.slice ba 4096 cap] 23) hB4
  have hc2 := sum_calls hq2 ((unhide HT).below hn2)
  rw [← HS2.out] at hc2
  refine hc2.mono ?_
  rintro e wX ⟨rfl, hw5⟩
  have hBX : Below w.heap.size w wX := by rw [hw5]; exact hn2
  clear hq2 hn2 hc2 hw5 hB4 HS1 HS2
  focus (go_wp2_with fail)
  all_goals
    have hbs := isBB_lit wX [.slice ba n cap] [xs] _ rfl 1 rfl rfl (by decide) (fun j hj => by
      match j, hj with
      | 0, _ => exact (unhide HB).below hBX)
    have hbw := below_alloc (o := .cells #[.slice ba n cap] 23) (Below.refl wX.heap.size wX)
    refine (join_calls hbs (by simpa using (unhide HB).mem) (by have := HNL.out; simp; omega)).mono ?_
    rintro e w6 ⟨va, vn, vc, rfl, hO6, hb6⟩
    rw [show [xs].flatten = xs by simp] at hO6
    have hO6' : Own8 w6 wX.heap.size (.slice va vn vc) xs := ⟨owns_mono hO6.1 (by simp), hO6.2⟩
    have hB6 : Below wX.heap.size wX w6 := below_on hbw hb6
    obtain ⟨g2, cp2, hv, _⟩ := owns_shape hO6'.1 (by rw [← HNL.out]; omega)
    rw [← HNL.out] at hv
    injection hv with e1 e2 e3
    subst e1
    obtain rfl := e2.symm
    obtain rfl := e3.symm
    have hgl2 := own_lt hO6'
    have HO6 := hide hO6'
    have hBY : Below w.heap.size w w6 := below_on hBX hB6
    have hXs := hBX.size
    clear hbs hbw hb6 hO6 hO6' hB6
    go_wp2_with fail
    by_cases hA0 : A < 0
    · refine wp_loop_rounds 1 ?_
      rw [rounds_succ]
      go_wp2_with fail
      refine (started_calls _ ((unhide HT).below hBY)).mono ?_
      rintro e w7 ⟨rfl, hb7⟩
      go_wp2_with fail
      refine (turned_m0 ((unhide HO6).isB.below hb7) (by rw [← HNL.out]; omega)).mono ?_
      rintro e w8 ⟨rfl, hb8⟩
      have hB8 := below_on (below_on hBY hb7) hb8
      clear hb7 hb8
      go_wp2
      go_ret
      exact ⟨rfl, hB8⟩
    · by_cases hA1 : 8 * (n : Int) ≤ A
      · refine wp_loop_rounds 1 ?_
        rw [rounds_succ]
        go_wp2_with fail
        refine (started_calls _ ((unhide HT).below hBY)).mono ?_
        rintro e w7 ⟨rfl, hb7⟩
        go_wp2_with fail
        refine (turned_m0 ((unhide HO6).isB.below hb7) (by rw [← HNL.out]; omega)).mono ?_
        rintro e w8 ⟨rfl, hb8⟩
        have hB8 := below_on (below_on hBY hb7) hb8
        clear hb7 hb8
        go_wp2
        go_ret
        exact ⟨rfl, hB8⟩
      · obtain ⟨a, rfl⟩ := Int.eq_ofNat_of_zero_le (show 0 ≤ A by omega)
        obtain ⟨i0, hi, hz0, hz1, hz2⟩ := info_parts infoI
        have ha : a < 8 * n := by omega
        have hcI : (a : Int) < 8 * (n : Int) := by omega
        go_loopw [16, 17] (fun bv nv wr => ∃ (q L : Nat), q ≤ 32 ∧ nv = .int .i64 (q : Int) ∧ Hid (L = (burst a P q).length) ∧ L ≤ q ∧ wr.ownsRow w6.heap.size 3 1 bv L ((burst a P q).map (Value.int .i64)) ∧ Below w6.heap.size w6 wr) (fun _ nv _ => 32 - (intOf nv).toNat)
        case atStart => exact ⟨0, 0, by omega, rfl, rfl, Nat.le_refl _, World.ownsRow_nil _ _ _ _, Below.refl _ _⟩
        case round =>
          obtain ⟨q, L, hq, rfl, HL, hLq, hown, hnx⟩ := hrel
          have hsz := hnx.size
          by_cases hq32 : q < 32
          · have hand := and_one (q := q) HPP.out
            by_cases hbit : P / 2 ^ q % 2 = 1
            · rw [hbit] at hand
              have HBU : Hid (burst a P (q + 1) = burst a P q ++ [(a : Int) + q]) := by show _ = _; rw [burst, if_pos hbit]
              clear hbit
              go_wp2_with (first
                | (at_builtin; refine wpList_append_own _ rfl _ _ 43 rfl w6.heap.size 3 i0 (.int .i64 0) 1 8 Tryd.underlying43 hi hz0 hz1 hz2 rfl (by decide) _ _ _ rfl (hown.alloc _) ⟨wr.heap.size, 0, none⟩ 1 1 [.int .i64 ((a : Int) + q)] rfl rfl (cell_one_new _ _ _) (one_i64 _) (by unfold maxLen; omega) (by omega) (by simp; omega) ?_; intro v' w9 hown' hgrow hnil))
              go_roundw
              case rel =>
                exact ⟨q + 1, L + 1, by omega, by go_num, by show _ = _; rw [HBU.out, List.length_append, ← HL.out]; rfl, by omega, by rw [HBU.out]; simpa using hown',
                  (hnx.alloc hsz _).grown hgrow (by simp; omega) (fun k hk => (hown.lt k hk).1)⟩
              case measure => simp [intOf]; omega
            · have hz : P / 2 ^ q % 2 = 0 := by omega
              rw [hz] at hand
              have HBU : Hid (burst a P (q + 1) = burst a P q) := by show _ = _; rw [burst, if_neg hbit]
              clear hbit hz
              go_wp2
              go_roundw
              case rel => exact ⟨q + 1, L, by omega, by go_num, by rw [HBU.out]; exact HL, by omega, by rw [HBU.out]; exact hown, hnx⟩
              case measure => simp [intOf]; omega
          · obtain rfl : q = 32 := by omega
            have hBr := below_on hBY hnx
            have hOr : Own8 wr wX.heap.size (.slice (some ⟨g2, 0, none⟩) n cp2) xs := ⟨owns_below (unhide HO6).1 hnx, (unhide HO6).2⟩
            have HOR := hide hOr
            clear hOr HO6 hBY
            by_cases hL0 : 0 < L
            · obtain ⟨g3, cp3, rfl, hc1, hc2, hg3, hcell⟩ := owns_shape hown hL0
              have HCE := hide hcell
              clear hcell hown
              go_wp2_with fail
              refine (started_calls _ ((unhide HT).below hBr)).mono ?_
              rintro e w7 ⟨rfl, hb7⟩
              have hO7 : Own8 w7 wX.heap.size (.slice (some ⟨g2, 0, none⟩) n cp2) xs := ⟨owns_below (unhide HOR).1 hb7, (unhide HOR).2⟩
              have hB7 := below_on hBr hb7
              have hce7 : ∀ t, t < L → w7.cell? ⟨g3, 0 + t, none⟩ = some (.int .i64 ((burst a P 32).getD t 0)) := fun t ht => by
                have h1 := unhide HCE t (by omega)
                have h2 : t < (burst a P 32).length := by rw [← HL.out]; exact ht
                rw [List.getElem?_map, List.getElem?_eq_getElem h2] at h1
                rw [Nat.zero_add, List.getD_eq_getElem?_getD, List.getElem?_eq_getElem h2]
                exact (hb7.cell (p := ⟨g3, t, none⟩) (World.block_lt_of_cell? wr _ h1)).trans h1
              have HO7 := hide hO7
              have HC7 := hide hce7
              clear hO7 hce7 hb7 HCE HOR
              go_wp2_with fail
              refine (turned_in (unhide HO7) HL.out hc1 hc2 (by rw [← HNL.out]; omega) (by omega) (unhide HC7)).mono ?_
              rintro e w8 ⟨rfl, hO8, hgr8⟩
              have hB8 : Below w.heap.size w w8 := below_grown hB7 hgr8 (by omega)
              have HO8 := hide hO8
              clear hO8 hgr8 hB7 HO7 HC7
              by_cases hT2 : xs = turnAll xs (burst a P 32)
              · rw [decide_eq_true hT2]
                clear hT2
                go_wp2
                go_ret
                exact ⟨rfl, hB8⟩
              · rw [decide_eq_false hT2]
                have hne0 : sumOf [turnAll xs (burst a P 32)] ≠ sumOf [xs] := fun e => hT2 (burst_stay (by rw [← HNL.out]; exact ha) (sum_turn e)).symm
                obtain ⟨S1, hS1⟩ : ∃ S, S = sumOf [turnAll xs (burst a P 32)] := ⟨_, rfl⟩
                obtain ⟨S2, hS2⟩ : ∃ S, S = sumOf [xs] := ⟨_, rfl⟩
                have hne2 : (S1 != S2) = true := by rw [hS1, hS2]; simpa using hne0
                have HS1 := hide hS1
                have HS2 := hide hS2
                clear hT2 hne0 hS1 hS2
                go_wp2_with fail
                have hq1 := isBB_base (unhide HO8).isB (Below.refl _ _) rfl
                have hn1 := below_alloc (o := .cells #[.slice (some ⟨g2, 0, none⟩) n cp2] 23) hB8
                have hc1 := sum_calls hq1 ((unhide HT).below hn1)
                rw [← HS1.out] at hc1
                refine hc1.mono ?_
                rintro e w9 ⟨rfl, hw9⟩
                have hB9 : Below w.heap.size w w9 := by rw [hw9]; exact hn1
                clear hq1 hn1 hc1 hw9 HO8 hB8
                go_wp2_with fail
                have hq2 := isBB_base ((unhide HB).below hB9) (Below.refl _ _) rfl
                have hn2 := below_alloc (o := .cells #[.slice ba n cap] 23) hB9
                have hc2 := sum_calls hq2 ((unhide HT).below hn2)
                rw [← HS2.out] at hc2
                refine hc2.mono ?_
                rintro e w10 ⟨rfl, hw10⟩
                have hB10 : Below w.heap.size w w10 := by rw [hw10]; exact hn2
                clear hq2 hn2 hc2 hw10 hB9 HS1 HS2
                go_wp2
                go_ret
                exact ⟨rfl, hB10⟩
            · obtain rfl : L = 0 := by omega
              obtain ⟨xa, xc, rfl⟩ := own_zero hown
              clear hown
              go_wp2_with fail
              refine (started_calls _ ((unhide HT).below hBr)).mono ?_
              rintro e w7 ⟨rfl, hb7⟩
              go_wp2_with fail
              refine (turned_m0 ((unhide HOR).isB.below hb7) (by rw [← HNL.out]; omega)).mono ?_
              rintro e w8 ⟨rfl, hb8⟩
              have hB8 := below_on (below_on hBr hb7) hb8
              clear hb7 hb8
              go_wp2
              go_ret
              exact ⟨rfl, hB8⟩

set_option maxRecDepth 100000 in
set_option maxHeartbeats 4000000 in
theorem tells_0 {w : World} {ba : Option Addr} {cap : Nat} {i j k A : Int} {P : Int} (hb : IsB w (.slice ba 0 cap) []) (ht : Tab w) :
    Calls Tryd.prog 5 #[.slice ba 0 cap, .int .i64 i, .int .i64 j, .int .i64 k, .int .i64 A, .int .u32 P] w fun e w' => e = .returned (.bool true) ∧ Below w.heap.size w w' := by
  have HB := hide hb
  have HT := hide ht
  clear hb ht
  go_enter Tryd.func5, Tryd.ntmps5
  go_wp2_with fail
  have hbs := isBB_lit w [.slice ba 0 cap] [[]] _ rfl 1 rfl rfl (by decide) (fun j hj => by
    match j, hj with
    | 0, _ => exact unhide HB)
  have hbw := below_alloc (o := .cells #[.slice ba 0 cap] 23) (Below.refl w.heap.size w)
  refine (join_calls hbs (by simp) (by simp)).mono ?_
  rintro e w1 ⟨va, vn, vc, rfl, hO1, hb1⟩
  rw [show [([] : List Int)].flatten = [] by simp] at hO1
  have hI1 := hO1.isB
  obtain rfl : vn = 0 := hI1.lenEq
  have hB1 : Below w.heap.size w w1 := below_on hbw hb1
  have HI1 := hide hI1
  clear hbs hbw hb1 hO1 hI1
  go_wp2_with fail
  have hb2 := below_alloc (o := .cells #[.int .i64 i, .int .i64 j, .int .i64 k] 3) (Below.refl w1.heap.size w1)
  refine (turned_n0 (bs := [i, j, k]) ((unhide HI1).below hb2) (Nat.le_refl 3) (by decide) row_cells).mono ?_
  rintro e w3 ⟨rfl, hb3⟩
  have hB3 : Below w.heap.size w w3 := below_on (below_on hB1 hb2) hb3
  clear hb2 hb3 hB1 HI1
  go_wp2_with fail
  have hbs := isBB_lit w3 [.slice ba 0 cap] [[]] _ rfl 1 rfl rfl (by decide) (fun j hj => by
    match j, hj with
    | 0, _ => exact (unhide HB).below hB3)
  have hbw := below_alloc (o := .cells #[.slice ba 0 cap] 23) (Below.refl w3.heap.size w3)
  refine (join_calls hbs (by simp) (by simp)).mono ?_
  rintro e w6 ⟨va, vn, vc, rfl, hO6, hb6⟩
  rw [show [([] : List Int)].flatten = [] by simp] at hO6
  have HO6 := hide hO6.isB
  have hBY : Below w.heap.size w w6 := below_on hB3 (below_on hbw hb6)
  clear hbs hbw hb6 hO6 hB3
  by_cases hA0 : A < 0
  all_goals
    go_wp2_with fail
    refine wp_loop_rounds 1 ?_
    rw [rounds_succ]
    go_wp2_with fail
    refine (started_calls _ ((unhide HT).below hBY)).mono ?_
    rintro e w7 ⟨rfl, hb7⟩
    go_wp2_with fail
    refine (turned_m0 ((unhide HO6).below hb7) (by simp)).mono ?_
    rintro e w8 ⟨rfl, hb8⟩
    have hB8 := below_on (below_on hBY hb7) hb8
    clear hb7 hb8
    go_wp2
    go_ret
    exact ⟨rfl, hB8⟩

/-- WireTells, for every input. -/
theorem tells_walk (i j k A P : Int) {w : World} {vb : Value} {xs : List Int} (hP0 : 0 ≤ P) (hP1 : P ≤ 4294967295) (hb : IsB w vb xs) (hl : xs.length ≤ 140737488351232) (ht : Tab w) :
    Calls Tryd.prog 5 #[vb, .int .i64 i, .int .i64 j, .int .i64 k, .int .i64 A, .int .u32 P] w fun e w' => e = .returned (.bool true) ∧ Below w.heap.size w w' := by
  obtain ⟨ba, n, cap, rfl⟩ := hb.shape
  have hn := hb.lenEq
  obtain ⟨p, rfl⟩ := Int.eq_ofNat_of_zero_le hP0
  by_cases h0 : 0 < n
  · by_cases h1 : n ≤ 4096
    · exact tells_1 hb rfl h0 h1 (by omega) (by omega) ht
    · exact tells_2 hb rfl h0 (by omega) (by omega) (by omega) ht
  · obtain rfl : n = 0 := by omega
    obtain rfl : xs = [] := List.eq_nil_of_length_eq_zero hn.symm
    exact tells_0 hb ht
end Go.Proofs.YtmfpkoegpoboiabDoor
