/- Parse and Text held against the document; the closed sentence. -/
import Derived.Test.YtmogbkgchhplkabDoorPaText
import Derived.Test.YtmogbkgchhplkabDoorPaHarn
import Derived.Test.YtmogbkgchhplkabDoorPaRParse2
import Derived.Test.YtmogbkgchhplkabDoorPaSplit
namespace Go.Proofs.YtmogbkgchhplkabDoor
open Go.RowKit

theorem index_app : ∀ (p : List UInt8), 47 ∉ p → ∀ r, Lib.index (p ++ 47 :: r) [47] = (p.length : Int)
  | [], _, r => by rw [List.nil_append, Lib.index]; simp [List.isPrefixOf]
  | b :: p, h, r => by
    have hb : b ≠ 47 := fun e => h (by simp [e])
    have hp : ([47] : List UInt8).isPrefixOf (b :: (p ++ 47 :: r)) = false := by simp [List.isPrefixOf, Ne.symm hb]
    rw [List.cons_append, Lib.index, hp, index_app p (fun e => h (by simp [e])) r]
    have : ((p.length : Int) == -1) = false := by rw [beq_eq_false_iff_ne]; omega
    rw [this]
    simp
theorem split_cut : ∀ (n : Nat) (l : List UInt8), l.length ≤ n → Lib.splitK [47] 0 (Lib.count l [47]) l = cutL l := by
  intro n
  induction n with
  | zero =>
    intro l hl
    obtain rfl : l = [] := List.eq_nil_of_length_eq_zero (by omega)
    rw [Lib.count_one]
    rfl
  | succ n ih =>
    intro l hl
    rcases slash_cases l with h | ⟨p, r, rfl, hp⟩
    · rw [Lib.count_one, List.count_eq_zero.2 h, cutL_one l h]
      rfl
    · have hc : Lib.count (p ++ 47 :: r) [47] = Lib.count r [47] + 1 := by
        rw [Lib.count_one, Lib.count_one, List.count_append, List.count_eq_zero.2 hp, List.count_cons_self]
        omega
      rw [hc, cutL_app p hp, Lib.splitK, index_app p hp]
      have : ((p.length : Int) == -1) = false := by rw [beq_eq_false_iff_ne]; omega
      rw [this]
      simp only [Bool.false_eq_true, if_false, Int.toNat_natCast, Nat.add_zero, List.length_cons, List.length_nil, Nat.zero_add]
      have e1 : (p ++ 47 :: r).take p.length = p := by simp
      have e2 : (p ++ 47 :: r).drop (p.length + 1) = r := by simp
      rw [e1, e2, ih r (by simp at hl; omega)]
theorem parts_L (s : ByteArray) : (parts s).map toL = cutL (toL s) := by
  unfold parts
  have := Lib.splitB_data slash 0 (Lib.countB s slash) s
  exact this.trans (split_cut _ _ (Nat.le_refl _))
theorem map_toL_inj : ∀ {a b : List ByteArray}, a.map toL = b.map toL → a = b
  | [], [], _ => rfl
  | [], _ :: _, h => by simp at h
  | _ :: _, [], h => by simp at h
  | x :: a, y :: b, h => by
    simp only [List.map_cons, List.cons.injEq] at h
    rw [toL_inj h.1, map_toL_inj h.2]
theorem parts_D (s : ByteArray) : parts s = partsD s := map_toL_inj (by rw [parts_L, partsD_L])
theorem parts_len (s : ByteArray) : (parts s).length = Lib.countB s slash + 1 := Lib.splitB_all slash (by decide) 0 _ s rfl
set_option maxRecDepth 100000 in
set_option maxHeartbeats 4000000 in
theorem parses_calls (s : ByteArray) (hs : s.size ≤ 1000000) (w : World) (hM : Mx w) : Calls Tryd.prog 21 #[.string s] w fun e w' => e = .returned (.bool true) ∧ Below w.heap.size w w' := by
  have HP := hide (parse_calls s hs w hM)
  have HR := hide (fun W => rparse_calls s hs W)
  have HPL : Hid (wrongB s = (plL (toL s)).2) := wrong_pl s
  have HPP : Hid ((lvS s).1 = (plL (toL s)).1) := place_pl s
  rw [HPL.out, HPP.out] at HP
  clear hM HPL HPP
  have HC : Hid (Lib.countB s slash + 1 = (parts s).length) := (parts_len s).symm
  have HD : Hid (parts s = partsD s) := parts_D s
  have HCL : Hid ((parts s).length ≤ s.size + 1) := by
    show _ ≤ _
    rw [← HC.out]
    have := Lib.countB_le slash (by decide) s.size s (Nat.le_refl _)
    omega
  rw [HC.out] at HP
  cases hq : (plL (toL s)).2 with
  | true =>
    rw [hq] at HP HR
    generalize (plL (toL s)).1 = pl at *
    go_enter Tryd.func21, Tryd.ntmps21
    go_wp2_with fail
    refine (unhide HP).mono ?_
    rintro e w1 (⟨_, rfl, hb1⟩ | ⟨h, _⟩)
    · have HR1 := hide (unhide HR w1)
      go_wp2_with fail
      refine (unhide HR1).mono ?_
      rintro e w2 ⟨⟨_, rfl⟩ | ⟨h, _⟩, hb2⟩
      · go_wp2
        go_ret
        exact ⟨rfl, hb1.trans (hb2.mono hb1.size)⟩
      · cases h
    · cases h
  | false =>
    rw [hq] at HP HR
    go_enter Tryd.func21, Tryd.ntmps21
    go_wp2_with fail
    refine (unhide HP).mono ?_
    rintro e w1 (⟨h, _⟩ | ⟨_, g, rfl, hg, hcells, hb1⟩)
    · cases h
    · have HR1 := hide (unhide HR w1)
      have HI := hide (isS_block (l := parts s) (by have := HCL.out; omega) hcells)
      generalize (parts s).length = c at *
      go_wp2_with fail
      refine (unhide HR1).mono ?_
      rintro e w2 ⟨⟨h, _⟩ | ⟨_, v, rfl, hrow⟩, hb2⟩
      · cases h
      · have HS : Hid (Calls Tryd.prog 19 #[.slice (some ⟨g, 0, none⟩) c c, v] w2 fun e w' => e = .returned (.bool true) ∧ Below w2.heap.size w2 w') := by
          have := same_calls ((HI.out).below hb2) hrow.isS
          rw [decide_eq_true HD.out] at this
          exact this
        go_wp2_with fail
        refine (unhide HS).mono ?_
        rintro e w3 ⟨rfl, hb3⟩
        go_wp2
        go_ret
        have hb12 := hb1.trans (hb2.mono hb1.size)
        exact ⟨rfl, hb12.trans (hb3.mono hb12.size)⟩
theorem row_below {w w' : World} {B : Nat} {t : TypeId} {v : Value} {xs : List Value} (h : Row w B t v xs) (hb : Below w.heap.size w w') : Row w' B t v xs := h.grown ⟨hb.os, hb.tape, hb.output, hb.size, fun k hk _ => hb.block k hk⟩
theorem laid_isS {w : World} {B g c : Nat} {l : List ByteArray} (hr : Row w B 9 (.slice (some ⟨g, 0, none⟩) (l.length + 3) c) (sV (l ++ mks))) : IsS w (.slice (some ⟨g, 0, none⟩) l.length c) l := by
  have hml : (sV (l ++ mks)).length = l.length + 3 := by rw [sV_len, List.length_append]; rfl
  obtain ⟨g', c', e0, hc1, hc2, _, hgl⟩ := hr.head (by rw [hml]; omega)
  injection e0 with e1 e2 e3
  injection e1 with e1
  injection e1 with e1
  subst e1 e3
  rw [hml] at hc1
  refine ⟨some ⟨g, 0, none⟩, c, rfl, by omega, hc2, fun h => (by cases h), fun _ => ⟨g, 0, rfl, fun j hj => ?_⟩⟩
  rw [Nat.zero_add, hr.cellAt (by rw [hml]; omega)]
  unfold sV
  rw [List.getElem?_map, List.getElem?_append_left hj, List.getD_eq_getElem?_getD, List.getElem?_eq_getElem hj]
  rfl
set_option maxRecDepth 100000 in
set_option maxHeartbeats 4000000 in
theorem texts_calls {v : Value} {l : List ByteArray} {w : World} (hv : IsS w v l) (hm : ∀ x ∈ l, x.size ≤ 2000) (hl1 : l.length ≤ 1000000) : Calls Tryd.prog 22 #[v] w fun e w' => e = .returned (.bool true) ∧ Below w.heap.size w w' := by
  have HV := hide hv
  have HM := hide hm
  have HLA := hide (laid_calls hv hl1)
  have HT : Hid (∀ (u : Value) W, IsS W u l → Calls Tryd.prog 14 #[u] W fun e w' => e = .returned (.tuple #[.string (textS l), .int .i64 (if textB l = true then 0 else 50)]) ∧ Below W.heap.size W w') := fun u W h => text_calls h HM.out hl1
  have HRT : Hid (∀ W, IsS W v l → Calls Tryd.prog 15 #[v] W fun e w' => e = .returned (.tuple #[.string (textS l), .bool (textB l)]) ∧ Below W.heap.size W w') := fun W h => rtext_calls h HM.out hl1
  obtain ⟨aa, ca, rfl, hla, hma, hza, hca⟩ := hv
  clear hca hza hm HM
  have qs : ((textS l).toList == (textS l).toList) = true := by simp
  generalize textS l = ts at *
  cases hq : textB l with
  | true =>
    rw [hq, if_pos rfl] at HT
    rw [hq] at HRT
    clear hq
    go_enter Tryd.func22, Tryd.ntmps22
    go_wp2_with fail
    refine (unhide HLA).mono ?_
    rintro e w1 ⟨g, c, rfl, hr1, hb1⟩
    have HT1 := hide (unhide HT _ w1 (laid_isS hr1))
    have HV1 := hide ((HV.out).below hb1)
    have HR1 := hide hr1
    clear hr1
    go_wp2_with fail
    refine (unhide HT1).mono ?_
    rintro e w2 ⟨rfl, hb2⟩
    have HV2 := hide ((HV1.out).below hb2)
    have HR2 := hide (row_below HR1.out hb2)
    have HRT2 := hide (unhide HRT w2 HV2.out)
    go_wp2_with fail
    refine (unhide HRT2).mono ?_
    rintro e w3 ⟨rfl, hb3⟩
    have HI := hide (intact_calls (row_below HR2.out hb3) ((HV2.out).below hb3) hl1)
    go_wp2_with fail
    refine (unhide HI).mono ?_
    rintro e w4 ⟨rfl, hb4⟩
    go_wp2
    go_ret
    have hb12 := hb1.trans (hb2.mono hb1.size)
    have hb13 := hb12.trans (hb3.mono hb12.size)
    exact ⟨rfl, hb13.trans (hb4.mono hb13.size)⟩
  | false =>
    rw [hq, if_neg (by decide)] at HT
    rw [hq] at HRT
    clear hq
    go_enter Tryd.func22, Tryd.ntmps22
    go_wp2_with fail
    refine (unhide HLA).mono ?_
    rintro e w1 ⟨g, c, rfl, hr1, hb1⟩
    have HT1 := hide (unhide HT _ w1 (laid_isS hr1))
    have HV1 := hide ((HV.out).below hb1)
    have HR1 := hide hr1
    clear hr1
    go_wp2_with fail
    refine (unhide HT1).mono ?_
    rintro e w2 ⟨rfl, hb2⟩
    have HV2 := hide ((HV1.out).below hb2)
    have HR2 := hide (row_below HR1.out hb2)
    have HRT2 := hide (unhide HRT w2 HV2.out)
    go_wp2_with fail
    refine (unhide HRT2).mono ?_
    rintro e w3 ⟨rfl, hb3⟩
    have HI := hide (intact_calls (row_below HR2.out hb3) ((HV2.out).below hb3) hl1)
    go_wp2_with fail
    refine (unhide HI).mono ?_
    rintro e w4 ⟨rfl, hb4⟩
    go_wp2
    go_ret
    have hb12 := hb1.trans (hb2.mono hb1.size)
    have hb13 := hb12.trans (hb3.mono hb12.size)
    exact ⟨rfl, hb13.trans (hb4.mono hb13.size)⟩
set_option maxRecDepth 100000 in
set_option maxHeartbeats 4000000 in
theorem told_calls (w : World) (hM : Mx w) : Calls Tryd.prog 8 #[] w fun e w' => e = .returned (.bool true) ∧ Below w.heap.size w w' := by
  have H1 : Hid (∀ (s : ByteArray) W, Mx W → s.size ≤ 100 → Calls Tryd.prog 21 #[.string s] W fun e w' => e = .returned (.bool true) ∧ Below W.heap.size W w') := fun s W h hs => parses_calls s (by omega) W h
  have H2 : Hid (∀ W : World, Calls Tryd.prog 22 #[.slice (some ⟨W.heap.size, 0, none⟩) 2 2] (W.alloc (.cells #[.string ⟨#[97]⟩, .string ⟨#[98]⟩] 9)) fun e w' => e = .returned (.bool true) ∧ Below (W.heap.size + 1) (W.alloc (.cells #[.string ⟨#[97]⟩, .string ⟨#[98]⟩] 9)) w') := fun W => by
    have := texts_calls (isS_lit W [⟨#[97]⟩, ⟨#[98]⟩] (by decide)) (by decide) (by decide)
    exact this.mono fun e w' ⟨h1, h2⟩ => ⟨h1, by simpa using h2⟩
  have H3 : Hid (∀ W : World, Calls Tryd.prog 22 #[.slice none 0 0] W fun e w' => e = .returned (.bool true) ∧ Below W.heap.size W w') := fun W => texts_calls (IsS.nil W) (by simp) (by simp)
  have H4 : Hid (∀ W, Calls Tryd.prog 10 #[.string ⟨#[97, 47, 98]⟩, .string ⟨#[97, 46, 98]⟩] W fun e w' => e = .returned (.int .i64 (-1)) ∧ Below W.heap.size W w') := fun W => order_calls ⟨#[97, 47, 98]⟩ ⟨#[97, 46, 98]⟩ (by decide) (by decide) W
  have H5 : Hid (∀ W, Calls Tryd.prog 9 #[.string ⟨#[97]⟩, .string ⟨#[97, 47, 98]⟩] W fun e w' => e = .returned (.bool true) ∧ w' = W) := fun W => by
    have := under_calls ⟨#[97]⟩ ⟨#[97, 47, 98]⟩ W
    rw [(und_L ⟨#[97]⟩ ⟨#[97, 47, 98]⟩).2 (Or.inr (by decide))] at this
    exact this
  have H6 : Hid (∀ W, Calls Tryd.prog 23 #[.string ⟨#[97]⟩] W fun e w' => e = .returned (.bool true) ∧ Below W.heap.size W w') := fun W => by
    have := name_calls ⟨#[97]⟩ (by decide) W
    rw [(nameB_L ⟨#[97]⟩).2 (by rw [nmL_iff]; decide)] at this
    exact this
  have H7 : Hid (∀ W, Calls Tryd.prog 23 #[.string ⟨#[46, 46]⟩] W fun e w' => e = .returned (.bool false) ∧ Below W.heap.size W w') := fun W => by
    have := name_calls ⟨#[46, 46]⟩ (by decide) W
    have e : nameB ⟨#[46, 46]⟩ = false := by
      cases h : nameB ⟨#[46, 46]⟩ with
      | false => rfl
      | true => exact absurd ((nameB_L _).1 h) (by rw [nmL_iff]; decide)
    rw [e] at this
    exact this
  have HM := hide hM
  clear hM
  go_enter Tryd.func8, Tryd.ntmps8
  have H1a := hide (unhide H1 ⟨#[97, 47, 98, 46, 99]⟩ w HM.out (by decide))
  go_wp2_with fail
  refine (unhide H1a).mono ?_
  rintro e w1 ⟨rfl, hb1⟩
  have hM1 := hide ((HM.out).below hb1)
  have H1b := hide (unhide H1 ⟨#[97, 47, 47, 98]⟩ w1 hM1.out (by decide))
  go_wp2_with fail
  refine (unhide H1b).mono ?_
  rintro e w2 ⟨rfl, hb2⟩
  have hb12 := hb1.trans (hb2.mono hb1.size)
  have H2a := hide (unhide H2 w2)
  go_wp2_with fail
  refine (unhide H2a).mono ?_
  rintro e w3 ⟨rfl, hb3⟩
  have hb13 : Below w.heap.size w w3 := (hb12.alloc hb12.size _).trans (hb3.mono (by have := hb12.size; omega))
  have H3a := hide (unhide H3 w3)
  go_wp2_with fail
  refine (unhide H3a).mono ?_
  rintro e w4 ⟨rfl, hb4⟩
  have hb14 := hb13.trans (hb4.mono hb13.size)
  have H4a := hide (unhide H4 w4)
  go_wp2_with fail
  refine (unhide H4a).mono ?_
  rintro e w5 ⟨rfl, hb5⟩
  have hb15 := hb14.trans (hb5.mono hb14.size)
  have H5a := hide (unhide H5 w5)
  go_wp2_with fail
  refine (unhide H5a).mono ?_
  rintro e w6 ⟨rfl, hw6⟩
  obtain rfl := hw6.symm
  clear hw6
  have H6a := hide (unhide H6 w5)
  go_wp2_with fail
  refine (unhide H6a).mono ?_
  rintro e w6 ⟨rfl, hb6⟩
  have hb16 := hb15.trans (hb6.mono hb15.size)
  have H7a := hide (unhide H7 w6)
  go_wp2_with fail
  refine (unhide H7a).mono ?_
  rintro e w7 ⟨rfl, hb7⟩
  have hb17 := hb16.trans (hb7.mono hb16.size)
  go_wp2
  go_ret
  exact ⟨rfl, hb17⟩
end Go.Proofs.YtmogbkgchhplkabDoor
