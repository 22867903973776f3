/- PathPlace: the walk. -/
import Derived.Test.YtmogbkgchhplkaaDoorPaPlace
import Derived.Test.YtmogbkgchhplkaaDoorPaRef2
namespace Go.Proofs.YtmogbkgchhplkaaDoor
open Go.RowKit

theorem toL_fst (s : ByteArray) (k : Nat) : toL (s.extract 0 k) = (toL s).take k := by
  rw [toL_ext, List.drop_zero, Nat.sub_zero]
theorem place_le (s : ByteArray) : (lvS s).1 ≤ s.size := by
  rw [place_pl, ← toL_len]; exact (place_cut _).1
theorem place_ahead (s : ByteArray) : (lvS (s.extract 0 (lvS s).1)).1 = (lvS s).1 ∨ ((lvS (s.extract 0 (lvS s).1)).1 < (lvS s).1 ∧ byt s (lvS (s.extract 0 (lvS s).1)).1 = 46) := by
  have h := (place_cut (toL s)).2
  rw [← place_pl s, ← toL_fst, ← place_pl] at h
  rcases h with h | ⟨h1, h2⟩
  · exact Or.inl h
  · exact Or.inr ⟨h1, by rw [byt_at, h2]; rfl⟩
/-- The last part. -/
def lastB (s : ByteArray) : ByteArray := (partsD s).getD ((partsD s).length - 1) default
theorem lastB_L (s : ByteArray) : toL (lastB s) = lastL (toL s) := by
  have hne : (partsD s).length ≠ 0 := fun e => by
    have : (cutL (toL s)).length = 0 := by rw [← partsD_L, List.length_map, e]
    exact cutL_ne _ (List.eq_nil_of_length_eq_zero this)
  unfold lastB lastL
  rw [← part_at s (by omega), List.getLastD_eq_getLast?, List.getLast?_eq_getElem?, List.getD_eq_getElem?_getD]
  have hl : (cutL (toL s)).length = (partsD s).length := by rw [← partsD_L, List.length_map]
  rw [hl]
theorem off_iff (s : ByteArray) (k : Nat) (h : wrongB s = false) : wrongB (s.extract 0 k) = false ↔ (lastB (s.extract 0 k) ≠ ⟨#[]⟩ ∧ lastB (s.extract 0 k) ≠ dot1 ∧ lastB (s.extract 0 k) ≠ dot2) := by
  rw [wrong_pl] at h ⊢
  rw [toL_fst, cut_off _ _ h, ← toL_fst, ← lastB_L]
  have e0 : ∀ t : ByteArray, t = ⟨#[]⟩ ↔ toL t = [] := fun t => by rw [← toL_iff]; rfl
  have e1 : ∀ t : ByteArray, t = dot1 ↔ toL t = [46] := fun t => by rw [← toL_iff]; rfl
  have e2 : ∀ t : ByteArray, t = dot2 ↔ toL t = [46, 46] := fun t => by rw [← toL_iff]; rfl
  rw [ne_eq, ne_eq, ne_eq, ne_eq, ne_eq, ne_eq, e0, e1, e2]
set_option maxRecDepth 100000 in
set_option maxHeartbeats 8000000 in
theorem place_walk (s : ByteArray) (n : Int) (hn : -9223372036854775808 ≤ n ∧ n ≤ 9223372036854775807) (w : World) (hM : Mx w) : Calls Tryd.prog 7 #[.string s, .int .i64 n] w fun e w' => e = .returned (.bool true) ∧ Below w.heap.size w w' := by
  have HCS := hide (cut_calls s w)
  have hs := cutS_le s
  generalize cutS s = c at *
  have HT := hide (told_calls w hM)
  have HM := hide hM
  clear hM
  cases hwc : wrongB c with
  | true =>
    have hp := place_le c
    have hpa := place_ahead c
    have HPB : Hid (∀ W, Mx W → Calls Tryd.prog 21 #[.string c] W fun e w' => e = .returned (.tuple #[.slice none 0 0, .int .i64 50, .int .i64 (((lvS c).1 : Nat) : Int)]) ∧ Below W.heap.size W w') := fun W h => parse_bad c (by omega) W h hwc
    generalize (lvS c).1 = p at *
    have hts : (c.extract 0 p).size ≤ 2000 := by rw [ByteArray.size_extract]; omega
    have HPX : Hid (∀ W, Mx W → wrongB (c.extract 0 p) = true → Calls Tryd.prog 21 #[.string (c.extract 0 p)] W fun e w' => e = .returned (.tuple #[.slice none 0 0, .int .i64 50, .int .i64 (((lvS (c.extract 0 p)).1 : Nat) : Int)]) ∧ Below W.heap.size W w') := fun W h h2 => parse_bad _ (by omega) W h h2
    have HPO : Hid (∀ W, Mx W → wrongB (c.extract 0 p) = false → Calls Tryd.prog 21 #[.string (c.extract 0 p)] W fun e w' => ∃ g, e = .returned (.tuple #[.slice (some ⟨g, 0, none⟩) (parts (c.extract 0 p)).length (parts (c.extract 0 p)).length, .int .i64 0, .int .i64 0]) ∧ Below W.heap.size W w') := fun W h h2 => (parse_ok _ (by omega) W h h2).mono fun e w' ⟨g, h1, _, _, _, h3⟩ => ⟨g, h1, h3⟩
    have hpI : (p : Int) ≤ (c.size : Int) := by omega
    clear hwc
    cases hwt : wrongB (c.extract 0 p) with
    | false =>
      go_enter Tryd.func7, Tryd.ntmps7
      go_wp2_with fail
      refine (unhide HCS).mono ?_
      rintro e wq ⟨rfl, hwq⟩
      obtain rfl := hwq.symm
      clear hwq
      go_wp2_with fail
      refine (unhide HT).mono ?_
      rintro e w1 ⟨rfl, hA1⟩
      have HM1 := hide ((HM.out).below hA1)
      have HPBa := hide (unhide HPB w1 HM1.out)
      go_wp2_with fail
      refine (unhide HPBa).mono ?_
      rintro e w2 ⟨rfl, hB2⟩
      have hA2 := hA1.trans (hB2.mono hA1.size)
      have HPOa := hide (unhide HPO w2 ((HM.out).below hA2) hwt)
      clear hwt
      go_wp2_with fail
      refine (unhide HPOa).mono ?_
      rintro e w3 ⟨g, rfl, hB3⟩
      go_wp2
      go_ret
      exact ⟨rfl, hA2.trans (hB3.mono hA2.size)⟩
    | true =>
      have htl : (lvS (c.extract 0 p)).1 ≤ p := by
        have := place_le (c.extract 0 p)
        rw [ByteArray.size_extract] at this
        omega
      rcases hpa with hpa | ⟨hpa, hpb⟩
      · have HPXa := hide (fun W h => unhide HPX W h hwt)
        rw [hpa] at HPXa
        clear hwt hpa htl
        go_enter Tryd.func7, Tryd.ntmps7
        go_wp2_with fail
        refine (unhide HCS).mono ?_
        rintro e wq ⟨rfl, hwq⟩
        obtain rfl := hwq.symm
        clear hwq
        go_wp2_with fail
        refine (unhide HT).mono ?_
        rintro e w1 ⟨rfl, hA1⟩
        have HM1 := hide ((HM.out).below hA1)
        have HPBa := hide (unhide HPB w1 HM1.out)
        go_wp2_with fail
        refine (unhide HPBa).mono ?_
        rintro e w2 ⟨rfl, hB2⟩
        have hA2 := hA1.trans (hB2.mono hA1.size)
        have HPXb := hide (unhide HPXa w2 ((HM.out).below hA2))
        go_wp2_with fail
        refine (unhide HPXb).mono ?_
        rintro e w3 ⟨rfl, hB3⟩
        go_wp2
        go_ret
        exact ⟨rfl, hA2.trans (hB3.mono hA2.size)⟩
      · have HPXa := hide (fun W h => unhide HPX W h hwt)
        generalize (lvS (c.extract 0 p)).1 = t at *
        have hidx := index_str c t (by omega)
        rw [hpb] at hidx
        have q1 : ((t : Int) == (p : Int)) = false := by rw [beq_eq_false_iff_ne]; omega
        have q2 : (t : Int) < (p : Int) := by omega
        have q3 : (t : Int) < (c.size : Int) := by omega
        clear hwt hpb htl
        go_enter Tryd.func7, Tryd.ntmps7
        go_wp2_with fail
        refine (unhide HCS).mono ?_
        rintro e wq ⟨rfl, hwq⟩
        obtain rfl := hwq.symm
        clear hwq
        go_wp2_with fail
        refine (unhide HT).mono ?_
        rintro e w1 ⟨rfl, hA1⟩
        have HM1 := hide ((HM.out).below hA1)
        have HPBa := hide (unhide HPB w1 HM1.out)
        go_wp2_with fail
        refine (unhide HPBa).mono ?_
        rintro e w2 ⟨rfl, hB2⟩
        have hA2 := hA1.trans (hB2.mono hA1.size)
        have HPXb := hide (unhide HPXa w2 ((HM.out).below hA2))
        go_wp2_with fail
        refine (unhide HPXb).mono ?_
        rintro e w3 ⟨rfl, hB3⟩
        go_wp2
        go_ret
        exact ⟨rfl, hA2.trans (hB3.mono hA2.size)⟩
  | false =>
    have hsz : 0 < c.size := by
      have := ((wrong_iff c).1 hwc).1
      refine Nat.pos_of_ne_zero fun e => ?_
      have h0 : toL c = [] := List.eq_nil_of_length_eq_zero (by rw [toL_len]; exact e)
      rw [h0] at this
      exact absurd (this [] (by simp [cutL])) (by rw [nmL_iff]; simp)
    have HPO : Hid (∀ W, Mx W → Calls Tryd.prog 21 #[.string c] W fun e w' => ∃ g, e = .returned (.tuple #[.slice (some ⟨g, 0, none⟩) (parts c).length (parts c).length, .int .i64 0, .int .i64 0]) ∧ Below W.heap.size W w') := fun W h => (parse_ok c (by omega) W h hwc).mono fun e w' ⟨g, h1, _, _, _, h3⟩ => ⟨g, h1, h3⟩
    have HOFF : Hid (∀ k, wrongB (c.extract 0 k) = false ↔ (lastB (c.extract 0 k) ≠ ⟨#[]⟩ ∧ lastB (c.extract 0 k) ≠ dot1 ∧ lastB (c.extract 0 k) ≠ dot2)) := fun k => off_iff c k hwc
    have hz0 : ((c.size : Int) == 0) = false := by rw [beq_eq_false_iff_ne]; omega
    clear hwc
    obtain ⟨m, hm⟩ : ∃ m, m = if n < 0 then -(n + 1) else n := ⟨_, rfl⟩
    have hm0 : 0 ≤ m ∧ m ≤ 9223372036854775807 := by rw [hm]; split <;> omega
    go_enter Tryd.func7, Tryd.ntmps7
    go_wp2_with fail
    refine (unhide HCS).mono ?_
    rintro e wq ⟨rfl, hwq⟩
    obtain rfl := hwq.symm
    clear hwq
    go_wp2_with fail
    refine (unhide HT).mono ?_
    rintro e w1 ⟨rfl, hA1⟩
    have HM1 := hide ((HM.out).below hA1)
    have HPOa := hide (unhide HPO w1 HM1.out)
    go_wp2_with fail
    refine (unhide HPOa).mono ?_
    rintro e w2 ⟨g, rfl, hB2⟩
    have hA2 := hA1.trans (hB2.mono hA1.size)
    obtain ⟨r, hr1, hr2⟩ : ∃ r : Nat, r < c.size ∧ m.tmod (c.size : Int) = (r : Int) := by
      have h1 := Int.tmod_nonneg (c.size : Int) hm0.1
      have h2 := Int.tmod_lt_of_pos m (show (0 : Int) < (c.size : Int) by omega)
      exact ⟨(m.tmod (c.size : Int)).toNat, by omega, by omega⟩
    have q1 : (r : Int) < (c.size : Int) := by omega
    by_cases hneg : n < 0
    · rw [if_pos hneg] at hm
      rw [hm] at hr2
      clear hm hm0
      go_wp2_with fail
      have HRP := hide (rparts_calls (c.extract 0 (1 + r)) (by rw [ByteArray.size_extract]; omega) w2)
      have hts : (c.extract 0 (1 + r)).size ≤ 2000 := by rw [ByteArray.size_extract]; omega
      have HOF := hide (unhide HOFF (1 + r))
      clear HOFF
      generalize c.extract 0 (1 + r) = t at *
      have HPB : Hid (∀ W, Mx W → wrongB t = true → Calls Tryd.prog 21 #[.string t] W fun e w' => e = .returned (.tuple #[.slice none 0 0, .int .i64 50, .int .i64 (((lvS t).1 : Nat) : Int)]) ∧ Below W.heap.size W w') := fun W h h2 => parse_bad _ (by omega) W h h2
      have HPT : Hid (∀ W, Mx W → wrongB t = false → Calls Tryd.prog 21 #[.string t] W fun e w' => ∃ g, e = .returned (.tuple #[.slice (some ⟨g, 0, none⟩) (parts t).length (parts t).length, .int .i64 0, .int .i64 0]) ∧ Below W.heap.size W w') := fun W h h2 => (parse_ok _ (by omega) W h h2).mono fun e w' ⟨g, h1, _, _, _, h3⟩ => ⟨g, h1, h3⟩
      refine (unhide HRP).mono ?_
      rintro e w3 ⟨v, rfl, hrow, hB3⟩
      have hA3 := hA2.trans (hB3.mono hA2.size)
      obtain ⟨al, cl, e1, hla, hma, _, hcc⟩ := hrow.isS
      subst e1
      have hne : (partsD t).length ≠ 0 := fun e => by
        have : (cutL (toL t)).length = 0 := by rw [← partsD_L, List.length_map, e]
        exact cutL_ne _ (List.eq_nil_of_length_eq_zero this)
      have hle := parts_le t
      obtain ⟨b, o, rfl, hcell⟩ := hcc (by omega)
      have hx := hcell ((partsD t).length - 1) (by omega)
      have HX : Hid ((partsD t).getD ((partsD t).length - 1) default = lastB t) := rfl
      rw [HX.out] at hx
      obtain ⟨n1, hn1⟩ : ∃ n1, (partsD t).length = n1 + 1 := ⟨(partsD t).length - 1, by omega⟩
      rw [hn1] at hx hla hle ⊢
      rw [Nat.add_sub_cancel] at hx
      have e0 : (lastB t).toList.isEmpty = decide (lastB t = ⟨#[]⟩) := by
        rw [ByteArray.toList_eq]
        by_cases h : lastB t = ⟨#[]⟩
        · rw [decide_eq_true h, h]; rfl
        · rw [decide_eq_false h]
          cases hd : (lastB t).data.toList with
          | nil => exact absurd (Go.WideShapes.bytes_inj (a := lastB t) (b := ⟨#[]⟩) (by rw [hd])) h
          | cons _ _ => rfl
      have e1 : ((lastB t).toList == [46]) = decide (lastB t = dot1) := by rw [← str_eq, ByteArray.toList_eq dot1]; rfl
      have e2 : ((lastB t).toList == [46, 46]) = decide (lastB t = dot2) := by rw [← str_eq, ByteArray.toList_eq dot2]; rfl
      have HMY := hide ((HM.out).below hA3)
      clear hrow hcc hcell hne hn1 HX
      cases hwt : wrongB t with
      | false =>
        obtain ⟨f0, f1, f2⟩ := (unhide HOF).1 hwt
        have HPTa := hide (unhide HPT w3 HMY.out hwt)
        rw [decide_eq_false f0] at e0
        rw [decide_eq_false f1] at e1
        rw [decide_eq_false f2] at e2
        generalize lastB t = x at *
        clear f0 f1 f2 hwt HOF
        go_wp2_with fail
        refine (unhide HPTa).mono ?_
        rintro e w4 ⟨g4, rfl, hB4⟩
        go_wp2
        go_ret
        exact ⟨rfl, hA3.trans (hB4.mono hA3.size)⟩
      | true =>
        have hno : ¬ (lastB t ≠ ⟨#[]⟩ ∧ lastB t ≠ dot1 ∧ lastB t ≠ dot2) := fun h => by
          have := (unhide HOF).2 h
          rw [hwt] at this
          cases this
        have HPBa := hide (unhide HPB w3 HMY.out hwt)
        have h3 : lastB t = ⟨#[]⟩ ∨ (lastB t ≠ ⟨#[]⟩ ∧ lastB t = dot1) ∨ (lastB t ≠ ⟨#[]⟩ ∧ lastB t ≠ dot1 ∧ lastB t = dot2) := by
          by_cases g0 : lastB t = ⟨#[]⟩
          · exact Or.inl g0
          · by_cases g1 : lastB t = dot1
            · exact Or.inr (Or.inl ⟨g0, g1⟩)
            · by_cases g2 : lastB t = dot2
              · exact Or.inr (Or.inr ⟨g0, g1, g2⟩)
              · exact absurd ⟨g0, g1, g2⟩ hno
        clear hno hwt HOF
        rcases h3 with f0 | ⟨f0, f1⟩ | ⟨f0, f1, f2⟩
        · rw [decide_eq_true f0] at e0
          clear e1 e2
          generalize lastB t = x at *
          clear f0
          go_wp2_with fail
          refine (unhide HPBa).mono ?_
          rintro e w4 ⟨rfl, hB4⟩
          go_wp2
          go_ret
          exact ⟨rfl, hA3.trans (hB4.mono hA3.size)⟩
        · rw [decide_eq_false f0] at e0
          rw [decide_eq_true f1] at e1
          clear e2
          generalize lastB t = x at *
          clear f0 f1
          go_wp2_with fail
          refine (unhide HPBa).mono ?_
          rintro e w4 ⟨rfl, hB4⟩
          go_wp2
          go_ret
          exact ⟨rfl, hA3.trans (hB4.mono hA3.size)⟩
        · rw [decide_eq_false f0] at e0
          rw [decide_eq_false f1] at e1
          rw [decide_eq_true f2] at e2
          generalize lastB t = x at *
          clear f0 f1 f2
          go_wp2_with fail
          refine (unhide HPBa).mono ?_
          rintro e w4 ⟨rfl, hB4⟩
          go_wp2
          go_ret
          exact ⟨rfl, hA3.trans (hB4.mono hA3.size)⟩
    · rw [if_neg hneg] at hm
      rw [hm] at hr2
      clear hm hm0
      go_wp2_with fail
      have HRP := hide (rparts_calls (c.extract 0 (1 + r)) (by rw [ByteArray.size_extract]; omega) w2)
      have hts : (c.extract 0 (1 + r)).size ≤ 2000 := by rw [ByteArray.size_extract]; omega
      have HOF := hide (unhide HOFF (1 + r))
      clear HOFF
      generalize c.extract 0 (1 + r) = t at *
      have HPB : Hid (∀ W, Mx W → wrongB t = true → Calls Tryd.prog 21 #[.string t] W fun e w' => e = .returned (.tuple #[.slice none 0 0, .int .i64 50, .int .i64 (((lvS t).1 : Nat) : Int)]) ∧ Below W.heap.size W w') := fun W h h2 => parse_bad _ (by omega) W h h2
      have HPT : Hid (∀ W, Mx W → wrongB t = false → Calls Tryd.prog 21 #[.string t] W fun e w' => ∃ g, e = .returned (.tuple #[.slice (some ⟨g, 0, none⟩) (parts t).length (parts t).length, .int .i64 0, .int .i64 0]) ∧ Below W.heap.size W w') := fun W h h2 => (parse_ok _ (by omega) W h h2).mono fun e w' ⟨g, h1, _, _, _, h3⟩ => ⟨g, h1, h3⟩
      refine (unhide HRP).mono ?_
      rintro e w3 ⟨v, rfl, hrow, hB3⟩
      have hA3 := hA2.trans (hB3.mono hA2.size)
      obtain ⟨al, cl, e1, hla, hma, _, hcc⟩ := hrow.isS
      subst e1
      have hne : (partsD t).length ≠ 0 := fun e => by
        have : (cutL (toL t)).length = 0 := by rw [← partsD_L, List.length_map, e]
        exact cutL_ne _ (List.eq_nil_of_length_eq_zero this)
      have hle := parts_le t
      obtain ⟨b, o, rfl, hcell⟩ := hcc (by omega)
      have hx := hcell ((partsD t).length - 1) (by omega)
      have HX : Hid ((partsD t).getD ((partsD t).length - 1) default = lastB t) := rfl
      rw [HX.out] at hx
      obtain ⟨n1, hn1⟩ : ∃ n1, (partsD t).length = n1 + 1 := ⟨(partsD t).length - 1, by omega⟩
      rw [hn1] at hx hla hle ⊢
      rw [Nat.add_sub_cancel] at hx
      have e0 : (lastB t).toList.isEmpty = decide (lastB t = ⟨#[]⟩) := by
        rw [ByteArray.toList_eq]
        by_cases h : lastB t = ⟨#[]⟩
        · rw [decide_eq_true h, h]; rfl
        · rw [decide_eq_false h]
          cases hd : (lastB t).data.toList with
          | nil => exact absurd (Go.WideShapes.bytes_inj (a := lastB t) (b := ⟨#[]⟩) (by rw [hd])) h
          | cons _ _ => rfl
      have e1 : ((lastB t).toList == [46]) = decide (lastB t = dot1) := by rw [← str_eq, ByteArray.toList_eq dot1]; rfl
      have e2 : ((lastB t).toList == [46, 46]) = decide (lastB t = dot2) := by rw [← str_eq, ByteArray.toList_eq dot2]; rfl
      have HMY := hide ((HM.out).below hA3)
      clear hrow hcc hcell hne hn1 HX
      cases hwt : wrongB t with
      | false =>
        obtain ⟨f0, f1, f2⟩ := (unhide HOF).1 hwt
        have HPTa := hide (unhide HPT w3 HMY.out hwt)
        rw [decide_eq_false f0] at e0
        rw [decide_eq_false f1] at e1
        rw [decide_eq_false f2] at e2
        generalize lastB t = x at *
        clear f0 f1 f2 hwt HOF
        go_wp2_with fail
        refine (unhide HPTa).mono ?_
        rintro e w4 ⟨g4, rfl, hB4⟩
        go_wp2
        go_ret
        exact ⟨rfl, hA3.trans (hB4.mono hA3.size)⟩
      | true =>
        have hno : ¬ (lastB t ≠ ⟨#[]⟩ ∧ lastB t ≠ dot1 ∧ lastB t ≠ dot2) := fun h => by
          have := (unhide HOF).2 h
          rw [hwt] at this
          cases this
        have HPBa := hide (unhide HPB w3 HMY.out hwt)
        have h3 : lastB t = ⟨#[]⟩ ∨ (lastB t ≠ ⟨#[]⟩ ∧ lastB t = dot1) ∨ (lastB t ≠ ⟨#[]⟩ ∧ lastB t ≠ dot1 ∧ lastB t = dot2) := by
          by_cases g0 : lastB t = ⟨#[]⟩
          · exact Or.inl g0
          · by_cases g1 : lastB t = dot1
            · exact Or.inr (Or.inl ⟨g0, g1⟩)
            · by_cases g2 : lastB t = dot2
              · exact Or.inr (Or.inr ⟨g0, g1, g2⟩)
              · exact absurd ⟨g0, g1, g2⟩ hno
        clear hno hwt HOF
        rcases h3 with f0 | ⟨f0, f1⟩ | ⟨f0, f1, f2⟩
        · rw [decide_eq_true f0] at e0
          clear e1 e2
          generalize lastB t = x at *
          clear f0
          go_wp2_with fail
          refine (unhide HPBa).mono ?_
          rintro e w4 ⟨rfl, hB4⟩
          go_wp2
          go_ret
          exact ⟨rfl, hA3.trans (hB4.mono hA3.size)⟩
        · rw [decide_eq_false f0] at e0
          rw [decide_eq_true f1] at e1
          clear e2
          generalize lastB t = x at *
          clear f0 f1
          go_wp2_with fail
          refine (unhide HPBa).mono ?_
          rintro e w4 ⟨rfl, hB4⟩
          go_wp2
          go_ret
          exact ⟨rfl, hA3.trans (hB4.mono hA3.size)⟩
        · rw [decide_eq_false f0] at e0
          rw [decide_eq_false f1] at e1
          rw [decide_eq_true f2] at e2
          generalize lastB t = x at *
          clear f0 f1 f2
          go_wp2_with fail
          refine (unhide HPBa).mono ?_
          rintro e w4 ⟨rfl, hB4⟩
          go_wp2
          go_ret
          exact ⟨rfl, hA3.trans (hB4.mono hA3.size)⟩
end Go.Proofs.YtmogbkgchhplkaaDoor
