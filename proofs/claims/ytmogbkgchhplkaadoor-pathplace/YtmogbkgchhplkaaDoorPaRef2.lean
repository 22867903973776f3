/- The document's bytewise, Order and Under. -/
import Derived.Test.YtmogbkgchhplkaaDoorPaTold
namespace Go.Proofs.YtmogbkgchhplkaaDoor
open Go.RowKit

theorem bw_step (a b : ByteArray) {i : Nat} (ha : i < a.size) (hb : i < b.size) : bwL ((toL a).drop i) ((toL b).drop i) = if byt a i = byt b i then bwL ((toL a).drop (i + 1)) ((toL b).drop (i + 1)) else sg (byt a i) (byt b i) := by
  rw [toL_at a ha, toL_at b hb, bwL]
  have e : byt a i = byt b i ↔ (toL a).getD i 0 = (toL b).getD i 0 := by
    rw [byt_at, byt_at]
    constructor
    · intro h; exact UInt8.toNat_inj.1 (by omega)
    · intro h; rw [h]
  by_cases h : byt a i = byt b i
  · rw [if_pos h, if_pos (e.1 h)]
  · rw [if_neg h, if_neg (fun x => h (e.2 x))]; rfl
theorem bw_end (a b : ByteArray) {i : Nat} (ha : i ≤ a.size) (hb : i ≤ b.size) (h : ¬ (i < a.size ∧ i < b.size)) : bwL ((toL a).drop i) ((toL b).drop i) = sg (a.size : Int) (b.size : Int) := by
  have la := toL_len a
  have lb := toL_len b
  unfold sg
  by_cases h1 : a.size < b.size
  · rw [if_pos (by omega), List.drop_of_length_le (l := toL a) (by omega), toL_at b (i := i) (by omega)]; rfl
  · by_cases h2 : b.size < a.size
    · rw [if_neg (by omega), if_pos (by omega), List.drop_of_length_le (l := toL b) (by omega), toL_at a (i := i) (by omega)]; rfl
    · rw [if_neg (by omega), if_neg (by omega), List.drop_of_length_le (l := toL b) (by omega), List.drop_of_length_le (l := toL a) (by omega)]; rfl
set_option maxRecDepth 100000 in
set_option maxHeartbeats 4000000 in
theorem bytewise_calls (a b : ByteArray) (ha : a.size ≤ 1000000) (hb : b.size ≤ 1000000) (w : World) : Calls Tryd.prog 33 #[.string a, .string b] w fun e w' => e = .returned (.int .i64 (bwL (toL a) (toL b))) ∧ Below w.heap.size w w' := by
  obtain ⟨q, hq⟩ : ∃ q, q = bwL (toL a) (toL b) := ⟨_, rfl⟩
  have HQ := hide hq
  rw [← hq]
  clear hq
  go_enter Tryd.func33, Tryd.ntmps33
  go_wp2_with fail
  go_loopw [5] (fun jv wr => ∃ (j : Nat), j ≤ a.size ∧ j ≤ b.size ∧ jv = .int .i64 (j : Int) ∧ Hid (q = bwL ((toL a).drop j) ((toL b).drop j)) ∧ Hid (Below w.heap.size w wr)) (fun j _ => a.size - (intOf j).toNat)
  case atStart => exact ⟨0, by omega, by omega, rfl, HQ, Below.refl _ _⟩
  case round =>
    obtain ⟨j, hja, hjb, rfl, HO, HB⟩ := hrel
    by_cases hlt : j < a.size ∧ j < b.size
    · obtain ⟨h1, h2⟩ := hlt
      have hia := index_str a j h1
      have hib := index_str b j h2
      have HST := hide (bw_step a b h1 h2)
      have q1 : (j : Int) < (a.size : Int) := by omega
      have q2 : (j : Int) < (b.size : Int) := by omega
      generalize byt a j = x at *
      generalize byt b j = y at *
      have h3 : x < y ∨ y < x ∨ x = y := by omega
      rcases h3 with h3 | h3 | h3
      · have HN : Hid (q = -1) := by show _ = _; rw [HO.out, HST.out, if_neg (by omega)]; unfold sg; rw [if_pos h3]
        clear HST
        go_wp2_with fail
        go_quiet (fail)
        have HB2 : Hid (Below w.heap.size w (wr.drewN nq)) := (HB.out).trans ((drewn_below wr nq).mono (HB.out).size)
        go_wp2
        go_ret
        exact ⟨by rw [HN.out]; rfl, HB2.out⟩
      · have HN : Hid (q = 1) := by show _ = _; rw [HO.out, HST.out, if_neg (by omega)]; unfold sg; rw [if_neg (by omega), if_pos h3]
        have h4 : ¬ x < y := by omega
        clear HST
        go_wp2_with fail
        go_quiet (fail)
        have HB2 : Hid (Below w.heap.size w (wr.drewN nq)) := (HB.out).trans ((drewn_below wr nq).mono (HB.out).size)
        generalize wr.drewN nq = w2 at *
        go_wp2_with fail
        go_quiet (fail)
        have HB3 : Hid (Below w.heap.size w (w2.drewN nq)) := (HB2.out).trans ((drewn_below w2 nq).mono (HB2.out).size)
        go_wp2
        go_ret
        exact ⟨by rw [HN.out]; rfl, HB3.out⟩
      · have HN : Hid (q = bwL ((toL a).drop (j + 1)) ((toL b).drop (j + 1))) := by show _ = _; rw [HO.out, HST.out, if_pos h3]
        have h4 : ¬ x < y := by omega
        have h5 : ¬ y < x := by omega
        clear HST h3
        go_wp2_with fail
        go_quiet (fail)
        have HB2 : Hid (Below w.heap.size w (wr.drewN nq)) := (HB.out).trans ((drewn_below wr nq).mono (HB.out).size)
        generalize wr.drewN nq = w2 at *
        go_wp2_with fail
        go_quiet (fail)
        have HB3 : Hid (Below w.heap.size w (w2.drewN nq)) := (HB2.out).trans ((drewn_below w2 nq).mono (HB2.out).size)
        go_wp2
        go_roundw
        case rel => exact ⟨j + 1, by omega, by omega, by go_num, HN, HB3⟩
        case measure => simp [intOf]; omega
    · have HN : Hid (q = sg (a.size : Int) (b.size : Int)) := by show _ = _; rw [HO.out, bw_end a b hja hjb hlt]
      have h3 : a.size < b.size ∨ b.size < a.size ∨ a.size = b.size := by omega
      have h4 : (¬ (j : Int) < (a.size : Int)) ∨ ((j : Int) < (a.size : Int) ∧ ¬ (j : Int) < (b.size : Int)) := by omega
      unfold sg at HN
      have hno := hide hlt
      clear hlt
      rcases h3 with h3 | h3 | h3
      · rw [if_pos (by omega)] at HN
        have g1 : (a.size : Int) < (b.size : Int) := by omega
        rcases h4 with h4 | ⟨h4, h5⟩
        all_goals (
          go_wp2
          go_ret
          exact ⟨by rw [HN.out]; rfl, HB.out⟩)
      · rw [if_neg (by omega), if_pos (by omega)] at HN
        have g1 : ¬ (a.size : Int) < (b.size : Int) := by omega
        have g2 : (b.size : Int) < (a.size : Int) := by omega
        rcases h4 with h4 | ⟨h4, h5⟩
        all_goals (
          go_wp2
          go_ret
          exact ⟨by rw [HN.out]; rfl, HB.out⟩)
      · rw [if_neg (by omega), if_neg (by omega)] at HN
        have g1 : ¬ (a.size : Int) < (b.size : Int) := by omega
        have g2 : ¬ (b.size : Int) < (a.size : Int) := by omega
        clear h3
        rcases h4 with h4 | ⟨h4, h5⟩
        all_goals (
          go_wp2
          go_ret
          exact ⟨by rw [HN.out]; rfl, HB.out⟩)
/-- Part by part, from the i-th on. -/
theorem pr_step {l m : List (List UInt8)} {i : Nat} (h1 : i < l.length) (h2 : i < m.length) : prL (l.drop i) (m.drop i) = if bwL (l.getD i []) (m.getD i []) = 0 then prL (l.drop (i + 1)) (m.drop (i + 1)) else bwL (l.getD i []) (m.getD i []) := by
  rw [List.drop_eq_getElem_cons h1, List.drop_eq_getElem_cons h2, prL, List.getD_eq_getElem?_getD, List.getD_eq_getElem?_getD, List.getElem?_eq_getElem h1, List.getElem?_eq_getElem h2]
  rfl
theorem pr_end {l m : List (List UInt8)} {i : Nat} (h1 : i ≤ l.length) (h2 : i ≤ m.length) (h : ¬ (i < l.length ∧ i < m.length)) : prL (l.drop i) (m.drop i) = sg (l.length : Int) (m.length : Int) := by
  unfold sg
  by_cases c1 : l.length < m.length
  · rw [if_pos (by omega), List.drop_of_length_le (l := l) (by omega), List.drop_eq_getElem_cons (l := m) (i := i) (by omega)]; rfl
  · by_cases c2 : m.length < l.length
    · rw [if_neg (by omega), if_pos (by omega), List.drop_of_length_le (l := m) (by omega), List.drop_eq_getElem_cons (l := l) (i := i) (by omega)]; rfl
    · rw [if_neg (by omega), if_neg (by omega), List.drop_of_length_le (l := m) (by omega), List.drop_of_length_le (l := l) (by omega)]; rfl
theorem bwL_bd : ∀ x y, -1 ≤ bwL x y ∧ bwL x y ≤ 1
  | [], [] => by decide
  | [], _ :: _ => by simp [bwL]
  | _ :: _, [] => by simp [bwL]
  | a :: x, b :: y => by
    rw [bwL]
    split
    · exact bwL_bd x y
    · exact sg_bd _ _
theorem part_size (s : ByteArray) {i : Nat} (h : i < (partsD s).length) : ((partsD s).getD i default).size ≤ s.size := by
  have hm : toL ((partsD s).getD i default) ∈ cutL (toL s) := by
    rw [← partsD_L]
    exact List.mem_map_of_mem (mem_getD h)
  have : ∀ (l p : List UInt8), p ∈ cutL l → p.length ≤ l.length := by
    intro l
    induction l with
    | nil => intro p hp; simp [cutL] at hp; simp [hp]
    | cons b l ih =>
      intro p hp
      by_cases hb : b = 47
      · subst hb
        rw [cutL_slash] at hp
        rcases List.mem_cons.1 hp with rfl | hp
        · simp
        · have := ih p hp; simp; omega
      · rw [cutL_cons hb] at hp
        rcases List.mem_cons.1 hp with rfl | hp
        · have := ih ((cutL l).headD []) (by rw [← cutL_eta l]; simp)
          simp only [List.length_cons]; omega
        · have := ih p (by rw [← cutL_eta l]; exact List.mem_cons_of_mem _ hp)
          simp; omega
  have := this _ _ hm
  rwa [toL_len, toL_len] at this
theorem part_at (s : ByteArray) {i : Nat} (h : i < (partsD s).length) : (cutL (toL s)).getD i [] = toL ((partsD s).getD i default) := by
  rw [← partsD_L, List.getD_eq_getElem?_getD, List.getElem?_map, List.getD_eq_getElem?_getD, List.getElem?_eq_getElem h]
  rfl
theorem parts_le (s : ByteArray) : (partsD s).length ≤ s.size + 1 := by
  rw [← parts_D, parts_len]
  have := Lib.countB_le slash (by decide) s.size s (Nat.le_refl _)
  omega
set_option maxRecDepth 100000 in
set_option maxHeartbeats 4000000 in
theorem rorder_calls (a b : ByteArray) (ha : a.size ≤ 100000) (hb : b.size ≤ 100000) (w : World) : Calls Tryd.prog 17 #[.string a, .string b] w fun e w' => e = .returned (.int .i64 (ordS a b)) ∧ Below w.heap.size w w' := by
  have HQ : Hid (ordS a b = prL (cutL (toL a)) (cutL (toL b))) := by show _ = _; rw [ordS_L, ord_parts]
  generalize ordS a b = q at *
  have HPA := hide (rparts_calls a (by omega) w)
  have HPB : Hid (∀ W, Calls Tryd.prog 23 #[.string b] W fun e w' => ∃ v, e = .returned v ∧ Row w' W.heap.size 9 v (sV (partsD b)) ∧ Below W.heap.size W w') := fun W => rparts_calls b (by omega) W
  have HBW : Hid (∀ x y : ByteArray, x.size ≤ 100000 → y.size ≤ 100000 → ∀ W, Calls Tryd.prog 33 #[.string x, .string y] W fun e w' => e = .returned (.int .i64 (bwL (toL x) (toL y))) ∧ Below W.heap.size W w') := fun x y hx hy W => bytewise_calls x y (by omega) (by omega) W
  go_enter Tryd.func17, Tryd.ntmps17
  go_wp2_with fail
  refine (unhide HPA).mono ?_
  rintro e w1 ⟨v, rfl, hrow, hb1⟩
  have HB1 := hide (unhide HPB w1)
  have HSA := hide hrow.isS
  clear hrow
  go_wp2_with fail
  refine (unhide HB1).mono ?_
  rintro e w2 ⟨u, rfl, hrow, hb2⟩
  have HSA2 := hide ((HSA.out).below hb2)
  have HSB2 := hide hrow.isS
  have hb12 := hb1.trans (hb2.mono hb1.size)
  clear hrow HSA
  obtain ⟨aa, ca, e1, hla, hma, _, hca⟩ := HSA2.out
  obtain ⟨ab, cb, e2, hlb, hmb, _, hcb⟩ := HSB2.out
  subst e1 e2
  have HCA := hide hca
  have HCB := hide hcb
  have HZA : Hid (∀ i, i < (partsD a).length → ((partsD a).getD i default).size ≤ 100000) := fun i hi => by have := part_size a hi; omega
  have HZB : Hid (∀ i, i < (partsD b).length → ((partsD b).getD i default).size ≤ 100000) := fun i hi => by have := part_size b hi; omega
  have HLA : Hid ((cutL (toL a)).length = (partsD a).length) := by show _ = _; rw [← partsD_L, List.length_map]
  have HLB : Hid ((cutL (toL b)).length = (partsD b).length) := by show _ = _; rw [← partsD_L, List.length_map]
  have hna := parts_le a
  have hnb := parts_le b
  obtain ⟨n, hn⟩ : ∃ n, n = (partsD a).length := ⟨_, rfl⟩
  obtain ⟨m, hm⟩ : ∃ m, m = (partsD b).length := ⟨_, rfl⟩
  rw [← hn] at hla hna ⊢
  rw [← hm] at hlb hnb ⊢
  have HN := hide hn
  have HM := hide hm
  clear hca hcb hn hm HSA2 HSB2
  go_wp2_with fail
  go_loopw [7] (fun iv W => ∃ (i : Nat), i ≤ n ∧ i ≤ m ∧ iv = .int .i64 (i : Int) ∧ Hid (q = prL ((cutL (toL a)).drop i) ((cutL (toL b)).drop i)) ∧ Below w2.heap.size w2 W) (fun i _ => n - (intOf i).toNat)
  case atStart => exact ⟨0, by omega, by omega, rfl, HQ, Below.refl _ _⟩
  case round =>
    obtain ⟨i, hin, him, rfl, HO, hbw⟩ := hrel
    by_cases hlt : i < n ∧ i < m
    · obtain ⟨h1, h2⟩ := hlt
      have h1' : i < (partsD a).length := by rw [← HN.out]; exact h1
      have h2' : i < (partsD b).length := by rw [← HM.out]; exact h2
      obtain ⟨b1, o1, rfl, hc1⟩ := unhide HCA (by rw [← HN.out]; omega)
      obtain ⟨b2, o2, rfl, hc2⟩ := unhide HCB (by rw [← HM.out]; omega)
      have hx := hc1 i h1'
      have hy := hc2 i h2'
      have hx2 := (hbw.cell (p := ⟨b1, o1 + i, none⟩) (World.block_lt_of_cell? w2 _ hx)).trans hx
      have hy2 := (hbw.cell (p := ⟨b2, o2 + i, none⟩) (World.block_lt_of_cell? w2 _ hy)).trans hy
      have HST := hide (pr_step (l := cutL (toL a)) (m := cutL (toL b)) (i := i) (by rw [HLA.out]; exact h1') (by rw [HLB.out]; exact h2'))
      rw [part_at a h1', part_at b h2'] at HST
      have HC := hide (unhide HBW _ _ (unhide HZA i h1') (unhide HZB i h2'))
      have bd := bwL_bd (toL ((partsD a).getD i default)) (toL ((partsD b).getD i default))
      have q1 : (i : Int) < (n : Int) := by omega
      have q2 : (i : Int) < (m : Int) := by omega
      clear hx hy hc1 hc2 h1' h2'
      generalize (partsD a).getD i default = x at *
      generalize (partsD b).getD i default = y at *
      generalize bwL (toL x) (toL y) = z at *
      have HC1 : Hid (∀ W, Below wr.heap.size wr W → Calls Tryd.prog 33 #[.string x, .string y] W fun e w' => e = .returned (.int .i64 z) ∧ Below wr.heap.size wr w') := fun W hW => (unhide HC W).mono fun e w' ⟨h1, h2⟩ => ⟨h1, hW.trans (h2.mono hW.size)⟩
      have HSS : Hid (∀ W, Below wr.heap.size wr W → Below wr.heap.size wr W ∧ W.cell? ⟨b1, o1 + i, none⟩ = some (.string x) ∧ W.cell? ⟨b2, o2 + i, none⟩ = some (.string y)) := fun W hW => ⟨hW, (hW.cell (p := ⟨b1, o1 + i, none⟩) (World.block_lt_of_cell? wr _ hx2)).trans hx2, (hW.cell (p := ⟨b2, o2 + i, none⟩) (World.block_lt_of_cell? wr _ hy2)).trans hy2⟩
      clear HC hx2 hy2
      by_cases hz : z = 0
      · have HN2 : Hid (q = prL ((cutL (toL a)).drop (i + 1)) ((cutL (toL b)).drop (i + 1))) := by show _ = _; rw [HO.out, HST.out, if_pos hz]
        subst hz
        clear HST
        go_wp2_with fail
        focus (go_region_held3 (fun W => Below wr.heap.size wr W ∧ W.cell? ⟨b1, o1 + i, none⟩ = some (.string x) ∧ W.cell? ⟨b2, o2 + i, none⟩ = some (.string y))
          ((refine unhide HSS _ ?_; repeat (first | assumption | exact Below.refl _ _ | refine Below.drew ?_)))
          (first
            | (go_at_call 33; refine (unhide HC1 _ (by first | assumption | exact (Below.refl _ _).drew)).mono ?_; rintro e w9 ⟨rfl, hb9⟩)))
        go_wp2
        go_roundw
        case rel => exact ⟨i + 1, by omega, by omega, by go_num, HN2, hbw.trans (hb9.mono hbw.size)⟩
        case measure => simp [intOf]; omega
      · have HN2 : Hid (q = z) := by show _ = _; rw [HO.out, HST.out, if_neg hz]
        have hz2 : (z != 0) = true := by simpa using hz
        clear HST hz
        go_wp2_with fail
        focus (go_region_held3 (fun W => Below wr.heap.size wr W ∧ W.cell? ⟨b1, o1 + i, none⟩ = some (.string x) ∧ W.cell? ⟨b2, o2 + i, none⟩ = some (.string y))
          ((refine unhide HSS _ ?_; repeat (first | assumption | exact Below.refl _ _ | refine Below.drew ?_)))
          (first
            | (go_at_call 33; refine (unhide HC1 _ (by first | assumption | exact (Below.refl _ _).drew)).mono ?_; rintro e w9 ⟨rfl, hb9⟩)))
        go_wp2
        go_ret
        have h29 := hbw.trans (hb9.mono hbw.size)
        exact ⟨by rw [HN2.out]; rfl, hb12.trans (h29.mono hb12.size)⟩
    · have HE : Hid (q = sg (n : Int) (m : Int)) := by
        show _ = _
        rw [HO.out, pr_end (by rw [HLA.out, ← HN.out]; exact hin) (by rw [HLB.out, ← HM.out]; exact him) (by rw [HLA.out, HLB.out, ← HN.out, ← HM.out]; exact hlt), HLA.out, HLB.out, ← HN.out, ← HM.out]
      have h3 : n < m ∨ m < n ∨ n = m := by omega
      have h4 : (¬ (i : Int) < (n : Int)) ∨ ((i : Int) < (n : Int) ∧ ¬ (i : Int) < (m : Int)) := by omega
      unfold sg at HE
      have hfin := hb12.trans (hbw.mono hb12.size)
      clear hlt
      rcases h3 with h3 | h3 | h3
      · rw [if_pos (by omega)] at HE
        have g1 : (n : Int) < (m : Int) := by omega
        rcases h4 with h4 | ⟨h4, h5⟩
        all_goals (
          go_wp2
          go_ret
          exact ⟨by rw [HE.out]; rfl, hfin⟩)
      · rw [if_neg (by omega), if_pos (by omega)] at HE
        have g1 : ¬ (n : Int) < (m : Int) := by omega
        have g2 : (m : Int) < (n : Int) := by omega
        rcases h4 with h4 | ⟨h4, h5⟩
        all_goals (
          go_wp2
          go_ret
          exact ⟨by rw [HE.out]; rfl, hfin⟩)
      · rw [if_neg (by omega), if_neg (by omega)] at HE
        have g1 : ¬ (n : Int) < (m : Int) := by omega
        have g2 : ¬ (m : Int) < (n : Int) := by omega
        clear h3
        rcases h4 with h4 | ⟨h4, h5⟩
        all_goals (
          go_wp2
          go_ret
          exact ⟨by rw [HE.out]; rfl, hfin⟩)
end Go.Proofs.YtmogbkgchhplkaaDoor
