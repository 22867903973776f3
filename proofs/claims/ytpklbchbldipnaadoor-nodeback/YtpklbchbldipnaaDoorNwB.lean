/- NodeBack: the walk. -/
import Derived.Test.YtpklbchbldipnaaDoorNAl
namespace Go.Proofs.YtpklbchbldipnaaDoor
open Go.RowKit Go.Maps Classical

theorem cut_bad {l : List Ent} (hok : ∀ e ∈ l, EnOk e) (hb : Byt (encL l)) (hc : chkL nbL l = 0) {k : Nat} (hk : k < (encL l).length) : (decL nbL ((encL l).take k)).2 ≠ 0 := fun h => by
  obtain ⟨m, hm⟩ : ∃ m, decL nbL ((encL l).take k) = (m, 0) := ⟨_, Prod.ext rfl h⟩
  obtain ⟨h1, h2, h3⟩ := enc_dec (fun x hx => hb x (List.mem_of_mem_take hx)) hm
  have h4 := enc_free nbL_le (fun e he => (hok e he).ok) h3 hc h2 (s := (encL l).drop k) (by rw [h1, List.take_append_drop])
  have h5 : ((encL l).drop k).length = 0 := by rw [h4]; rfl
  rw [List.length_drop] at h5
  omega
theorem enc_small {l : List Ent} (hc : chkL nbL l = 0) (hok : ∀ e ∈ l, EntOk e) : (encL l).length ≤ 200000 := by
  obtain ⟨h0, hF⟩ := chkL_zero hc
  have h1 := flat_le nbL_le l none hok hF
  have h2 := uBytes_le (l.length : Int)
  unfold encL
  rw [List.length_append, List.length_cons]
  omega
theorem enc_pos (l : List Ent) : 0 < (encL l).length := by unfold encL; simp
set_option maxRecDepth 100000 in
set_option maxHeartbeats 8000000 in
theorem nodeBack_walk {w : World} {v vb : Value} {l0 : List Ent} {xs0 : List Int} {x : Int} (hx : -9223372036854775808 ≤ x ∧ x ≤ 9223372036854775807) (h : IsEn w v l0) (hB : IsB w vb xs0) (hT : Tabs w) : Calls Tryd.prog 7 #[v, vb, .int .i64 x] w fun e w' => e = .returned (.bool true) ∧ Below w.heap.size w w' := by
  obtain ⟨a, c, rfl⟩ := h.shape
  obtain ⟨ab, nb, cb, rfl⟩ := hB.shape
  have HTL := hide (ntold_calls hT)
  have HH := hide h
  have HX := hide hx
  have HBB : Hid (∀ W, Below w.heap.size w W → IsB W (.slice ab nb cb) xs0) := fun W hW => hB.below hW
  generalize l0.length = n at *
  clear h hT hB hx
  go_enter Tryd.func7, Tryd.ntmps7
  go_wp2_with fail
  refine (unhide HTL).mono ?_
  rintro e w1 ⟨rfl, hb1⟩
  have HCU := hide (cutEn_calls (HH.out.below hb1))
  go_wp2_with fail
  refine (unhide HCU).mono ?_
  rintro e w2 ⟨⟨m, rfl, hm, hc2⟩, hw2⟩
  obtain rfl := hw2.symm
  generalize l0.take 1100 = l at *
  have HEN := hide (encode_calls hc2)
  have HI : Hid (∀ W, Below w1.heap.size w1 W → IsEn W (.slice a m c) l) := fun W hW => hc2.below hW
  have HOK := hide hc2.ok
  have HB1 := hide hb1
  clear hw2 hc2 HCU HTL HH hb1
  obtain ⟨ck, hck⟩ : ∃ ck, chkL nbL l = ck := ⟨_, rfl⟩
  rw [hck] at HEN
  have HCKE := hide hck
  clear hck
  go_wp2_with fail
  refine (unhide HEN).mono ?_
  rintro e w3 ⟨u3, rfl, ho3, hb3⟩
  have HO3 : Hid (∀ W, Below w3.heap.size w3 W → Own8 W w1.heap.size u3 (encR l)) := fun W hW => ho3.below hW
  have HCH := hide (check_calls (unhide HI w3 hb3))
  rw [HCKE.out] at HCH
  have HB3 := hide hb3
  clear HEN ho3 hb3
  by_cases hck0 : ck = 0
  · subst hck0
    have hO := HO3.out w3 (Below.refl _ _)
    have HER : Hid (encR l = encL l) := by show _ = _; unfold encR; rw [if_pos HCKE.out]
    have hps := enc_pos l
    rw [HER.out] at hO
    have hbyt := hO.isB.mem
    obtain ⟨g3, c3, hu3, hn3⟩ : ∃ g3 c3, u3 = .slice (some ⟨g3, 0, none⟩) (encL l).length c3 ∧ (encL l).length ≤ c3 := by
      rcases hO.1.2 with ⟨_, h0⟩ | ⟨g, cap, cur, rfl, _, _, hle, _⟩
      · omega
      · exact ⟨g, cap, rfl, hle⟩
    subst hu3
    have hn3b := hO.isB.lenEq
    have hn3c := hO.isB.room
    obtain ⟨n3, hn3e⟩ : ∃ n3, n3 = (encL l).length := ⟨_, rfl⟩
    rw [← hn3e] at hO hps hn3 hn3c hn3b ⊢
    rw [← hn3e] at HO3
    have HW3 : Hid (∀ W, Below w3.heap.size w3 W → IsB W (.slice (some ⟨g3, 0, none⟩) n3 c3) (encL l)) := fun W hW => by
      have := (unhide HO3 W hW).isB
      rw [HER.out] at this
      exact this
    have HN3 := hide hn3e
    have HDL := hide (dec_enc nbL_le (fun e he => (HOK.out e he).ok) HCKE.out)
    have HBT := hide hbyt
    clear hO hn3e hbyt hn3b
    go_wp2_with fail
    refine (unhide HCH).mono ?_
    rintro e w4 ⟨rfl, hb4⟩
    have HDE := hide (decode_calls (unhide HW3 w4 hb4))
    rw [HDL.out] at HDE
    go_wp2_with fail
    refine (unhide HDE).mono ?_
    rintro e w5 ⟨u5, rfl, ho5, hb5⟩
    have hb35 := hb4.trans (hb5.mono hb4.size)
    have hb15 := HB3.out.trans (hb35.mono HB3.out.size)
    have hse := esame_calls ho5.isEn (unhide HI w5 hb15)
    rw [decide_eq_true rfl] at hse
    obtain ⟨a5, c5, hu5⟩ := ho5.shape
    subst hu5
    have HSE := hide hse
    have HB35 := hide hb35
    have hnz : ¬ (n3 : Int) = 0 := by omega
    have hn3s : n3 ≤ 200000 := by rw [HN3.out]; exact enc_small HCKE.out (fun e he => (HOK.out e he).ok)
    generalize l.length = n5 at *
    clear HCH HDE hse ho5 hb4 hb5 hb15 hb35
    go_upto_region 11 with (go_at_call 23; refine (unhide HSE).mono ?_; rintro e w6 ⟨rfl, hb6⟩)
    have hb36 := HB35.out.trans (hb6.mono HB35.out.size)
    obtain ⟨hx1, hx2⟩ := HX.out
    have HB36 := hide hb36
    clear HSE hb6 hb36
    by_cases hneg : x < 0

    · obtain ⟨y, hy⟩ : ∃ y, y = -(x + 1) := ⟨_, rfl⟩
      have hwa : IntKind.i64.wrap (x + 1) = x + 1 := IntWalk.i64_in _ (by omega)
      have hwb : IntKind.i64.wrap (-(x + 1)) = y := by rw [← hy]; exact IntWalk.i64_in _ (by omega)
      have hy0 : 0 ≤ y := by omega
      have hy1 : y ≤ 9223372036854775807 := by omega
      have HYE := hide hy
      clear hy
      obtain ⟨k, hk⟩ : ∃ k : Nat, k = (y % (n3 : Int)).toNat := ⟨_, rfl⟩
      have hyn := Int.emod_nonneg y (show (n3 : Int) ≠ 0 by omega)
      have hyl := Int.emod_lt_of_pos y (show (0 : Int) < n3 by omega)
      have hym : y.tmod (n3 : Int) = (k : Int) := by rw [Int.tmod_eq_emod_of_nonneg hy0]; omega
      have hkn : k < n3 := by omega
      have hkw : IntKind.i64.wrap (k : Int) = (k : Int) := IntWalk.i64_in _ (by omega)
      have hkc : (k : Int) ≤ (c3 : Int) := by omega
      have hk0 : (0 : Int) ≤ (k : Int) := by omega
      obtain ⟨z, hz⟩ : ∃ z, IntKind.u8.wrap y = z := ⟨_, rfl⟩
      have hzb : 0 ≤ z ∧ z ≤ 255 := by rw [← hz]; rw [IntKind.wrap_u8]; omega
      have HZB := hide hzb
      have HCB := hide (cut_bad HOK.out HBT.out HCKE.out (k := k) (by rw [← HN3.out]; exact hkn))
      have HDM := hide (dec_more nbL_le (fun e he => (HOK.out e he).ok) HCKE.out (r := [z]) (by simp) (by simp))
      have HD1 := hide (decode_calls ((unhide HW3 w6 HB36.out).cut (k := k) (by omega)))
      have HLN : Hid (n3 + 1 ≤ 140737488350000) := by
        show _ ≤ _
        have := enc_small HCKE.out (fun e he => (HOK.out e he).ok)
        rw [HN3.out]
        omega
      clear hk hyn hyl hzb hkn
      go_wp2_with fail
      refine (unhide HD1).mono ?_
      rintro e w7 ⟨u7, rfl, ho7, hb7⟩
      have HB67 := hide hb7
      obtain ⟨q7, hq7⟩ : ∃ q7, (decL nbL ((encL l).take k)).2 = q7 := ⟨_, rfl⟩
      rw [hq7] at HCB ⊢
      have hq0 : ¬ q7 = 0 := HCB.out
      have HW7 := hide (unhide HW3 w7 (HB36.out.trans (hb7.mono HB36.out.size)))
      have HLT : Hid (∀ W : World, IsB (W.alloc (.cells #[.int .u8 z] 5)) (.slice (some ⟨W.heap.size, 0, none⟩) 1 1) [z]) := fun W => isB_lit W [z] (by simpa using HZB.out) (by simp)
      clear HD1 ho7 hq7 hb7 HCB
      go_upto_region 15 with (first
        | (at_builtin; refine wpList_appB rfl (.const (.slice none 0 0)) (.tmp 68) rfl (v := .slice none 0 0) rfl (Own8.nil w7 w7.heap.size) rfl HW7.out (by rw [← HN3.out]; have := HLN.out; simp; omega) (Nat.le_refl _) ?_; intro v8 w8 ho8 hg8; have hb8 := (Below.refl w7.heap.size w7).grown hg8 (Nat.le_refl _) (fun k hk => (by simp [Value.ownBlock] at hk)); have hs8 := hb8.size; rw [List.nil_append] at ho8; have HO8 := hide ho8; clear hg8 ho8)
        | (at_builtin; refine wpList_appB rfl (.tmp 69) (.tmp 72) rfl rfl (HO8.out.below (lit_blw _ _)) rfl (unhide HLT w8) (by rw [← HN3.out]; have := HLN.out; simp; omega) (Nat.le_trans hs8 (lit_blw _ _).size) ?_; intro v9 w9 ho9 hg9; have hb9 := (below_then hb8 (lit_blw w8 (.cells #[.int .u8 z] 5))).grown hg9 (Nat.le_trans hs8 (lit_blw _ _).size) (fun k hk => (HO8.out.1.lt k hk).1); have hd9 := decode_calls ho9.isB; rw [HDM.out] at hd9; have HD9 := hide hd9; clear hg9 hd9 ho9)
        | (go_at_call 21; refine (unhide HD9).mono ?_; rintro e w10 ⟨u10, rfl, ho10, hb10⟩))
      have hb710 := hb9.trans (hb10.mono hb9.size)
      have hb610 := HB67.out.trans (hb710.mono HB67.out.size)
      have hb310 := HB36.out.trans (hb610.mono HB36.out.size)
      have hb110 := HB3.out.trans (hb310.mono HB3.out.size)
      have hbw := HB1.out.trans (hb110.mono HB1.out.size)
      have HCB2 := hide (cut_calls (unhide HBB w10 hbw) 90000 (by decide))
      have HBW := hide hbw
      clear HD9 hb8 hs8 hb9 ho10 hb10 hb710 hb610 hb310 hb110 hbw
      go_wp2_with fail
      refine (unhide HCB2).mono ?_
      rintro e w20 ⟨⟨m20, rfl, hmn20, hc20⟩, hw20⟩
      obtain rfl := hw20.symm
      generalize xs0.take 90000 = ys at *
      have HD20 := hide (decode_calls hc20)
      have HY : Hid (∀ W, Below w10.heap.size w10 W → IsB W (.slice ab m20 cb) ys) := fun W hW => hc20.below hW
      have HYM := hide hc20.mem
      obtain ⟨D, hD⟩ : ∃ D, decL nbL ys = D := ⟨_, rfl⟩
      rw [hD] at HD20
      have HDD := hide hD
      clear hw20 hc20 HCB2 hD
      go_wp2_with fail
      refine (unhide HD20).mono ?_
      rintro e w21 ⟨u21, rfl, ho21, hb21⟩
      obtain ⟨a21, c21, hu21⟩ := ho21.shape
      subst hu21
      by_cases hd0 : D.2 = 0
      · obtain ⟨l2, q2⟩ := D
        simp only at hd0
        subst hd0
        obtain ⟨f1, f2, f3⟩ := enc_dec HYM.out HDD.out
        have HE2 := hide (encode_calls ho21.isEn)
        rw [show chkL nbL l2 = 0 from f2] at HE2
        have HER2 : Hid (encR l2 = ys) := by show _ = _; unfold encR; rw [if_pos f2, f1]
        simp only at HE2 ⊢
        generalize l2.length = n21 at *
        clear HD20 ho21 f1 f2 f3
        go_wp2_with fail
        refine (unhide HE2).mono ?_
        rintro e w22 ⟨u22, rfl, ho22, hb22⟩
        rw [HER2.out] at ho22
        obtain ⟨a22, n22, c22, hu22⟩ := ho22.shape
        subst hu22
        have hb2022 := hb21.trans (hb22.mono hb21.size)
        have HSB := hide (same_calls ho22.isB (unhide HY w22 hb2022))
        have HBE := hide (HBW.out.trans (hb2022.mono HBW.out.size))
        clear HE2 ho22 hb21 hb22 hb2022
        go_wp2_with (go_at_call 17; refine (unhide HSB).mono ?_; rintro e w23 ⟨rfl, hw23⟩)
        go_ret
        exact ⟨rfl, HBE.out.trans ((below_same hw23).mono HBE.out.size)⟩
      · have HBE := hide (HBW.out.trans (hb21.mono HBW.out.size))
        generalize D.2 = q2 at *
        generalize D.1.length = n21 at *
        clear HD20 ho21 hb21
        go_wp2_with fail
        go_ret
        exact ⟨rfl, HBE.out⟩
    · obtain ⟨y, hy⟩ : ∃ y, y = x := ⟨_, rfl⟩
      subst hy
      have hy0 : 0 ≤ y := by omega
      have hy1 : y ≤ 9223372036854775807 := by omega
      obtain ⟨k, hk⟩ : ∃ k : Nat, k = (y % (n3 : Int)).toNat := ⟨_, rfl⟩
      have hyn := Int.emod_nonneg y (show (n3 : Int) ≠ 0 by omega)
      have hyl := Int.emod_lt_of_pos y (show (0 : Int) < n3 by omega)
      have hym : y.tmod (n3 : Int) = (k : Int) := by rw [Int.tmod_eq_emod_of_nonneg hy0]; omega
      have hkn : k < n3 := by omega
      have hkw : IntKind.i64.wrap (k : Int) = (k : Int) := IntWalk.i64_in _ (by omega)
      have hkc : (k : Int) ≤ (c3 : Int) := by omega
      have hk0 : (0 : Int) ≤ (k : Int) := by omega
      obtain ⟨z, hz⟩ : ∃ z, IntKind.u8.wrap y = z := ⟨_, rfl⟩
      have hzb : 0 ≤ z ∧ z ≤ 255 := by rw [← hz]; rw [IntKind.wrap_u8]; omega
      have HZB := hide hzb
      have HCB := hide (cut_bad HOK.out HBT.out HCKE.out (k := k) (by rw [← HN3.out]; exact hkn))
      have HDM := hide (dec_more nbL_le (fun e he => (HOK.out e he).ok) HCKE.out (r := [z]) (by simp) (by simp))
      have HD1 := hide (decode_calls ((unhide HW3 w6 HB36.out).cut (k := k) (by omega)))
      have HLN : Hid (n3 + 1 ≤ 140737488350000) := by
        show _ ≤ _
        have := enc_small HCKE.out (fun e he => (HOK.out e he).ok)
        rw [HN3.out]
        omega
      clear hk hyn hyl hzb hkn
      go_wp2_with fail
      refine (unhide HD1).mono ?_
      rintro e w7 ⟨u7, rfl, ho7, hb7⟩
      have HB67 := hide hb7
      obtain ⟨q7, hq7⟩ : ∃ q7, (decL nbL ((encL l).take k)).2 = q7 := ⟨_, rfl⟩
      rw [hq7] at HCB ⊢
      have hq0 : ¬ q7 = 0 := HCB.out
      have HW7 := hide (unhide HW3 w7 (HB36.out.trans (hb7.mono HB36.out.size)))
      have HLT : Hid (∀ W : World, IsB (W.alloc (.cells #[.int .u8 z] 5)) (.slice (some ⟨W.heap.size, 0, none⟩) 1 1) [z]) := fun W => isB_lit W [z] (by simpa using HZB.out) (by simp)
      clear HD1 ho7 hq7 hb7 HCB
      go_upto_region 15 with (first
        | (at_builtin; refine wpList_appB rfl (.const (.slice none 0 0)) (.tmp 68) rfl (v := .slice none 0 0) rfl (Own8.nil w7 w7.heap.size) rfl HW7.out (by rw [← HN3.out]; have := HLN.out; simp; omega) (Nat.le_refl _) ?_; intro v8 w8 ho8 hg8; have hb8 := (Below.refl w7.heap.size w7).grown hg8 (Nat.le_refl _) (fun k hk => (by simp [Value.ownBlock] at hk)); have hs8 := hb8.size; rw [List.nil_append] at ho8; have HO8 := hide ho8; clear hg8 ho8)
        | (at_builtin; refine wpList_appB rfl (.tmp 69) (.tmp 72) rfl rfl (HO8.out.below (lit_blw _ _)) rfl (unhide HLT w8) (by rw [← HN3.out]; have := HLN.out; simp; omega) (Nat.le_trans hs8 (lit_blw _ _).size) ?_; intro v9 w9 ho9 hg9; have hb9 := (below_then hb8 (lit_blw w8 (.cells #[.int .u8 z] 5))).grown hg9 (Nat.le_trans hs8 (lit_blw _ _).size) (fun k hk => (HO8.out.1.lt k hk).1); have hd9 := decode_calls ho9.isB; rw [HDM.out] at hd9; have HD9 := hide hd9; clear hg9 hd9 ho9)
        | (go_at_call 21; refine (unhide HD9).mono ?_; rintro e w10 ⟨u10, rfl, ho10, hb10⟩))
      have hb710 := hb9.trans (hb10.mono hb9.size)
      have hb610 := HB67.out.trans (hb710.mono HB67.out.size)
      have hb310 := HB36.out.trans (hb610.mono HB36.out.size)
      have hb110 := HB3.out.trans (hb310.mono HB3.out.size)
      have hbw := HB1.out.trans (hb110.mono HB1.out.size)
      have HCB2 := hide (cut_calls (unhide HBB w10 hbw) 90000 (by decide))
      have HBW := hide hbw
      clear HD9 hb8 hs8 hb9 ho10 hb10 hb710 hb610 hb310 hb110 hbw
      go_wp2_with fail
      refine (unhide HCB2).mono ?_
      rintro e w20 ⟨⟨m20, rfl, hmn20, hc20⟩, hw20⟩
      obtain rfl := hw20.symm
      generalize xs0.take 90000 = ys at *
      have HD20 := hide (decode_calls hc20)
      have HY : Hid (∀ W, Below w10.heap.size w10 W → IsB W (.slice ab m20 cb) ys) := fun W hW => hc20.below hW
      have HYM := hide hc20.mem
      obtain ⟨D, hD⟩ : ∃ D, decL nbL ys = D := ⟨_, rfl⟩
      rw [hD] at HD20
      have HDD := hide hD
      clear hw20 hc20 HCB2 hD
      go_wp2_with fail
      refine (unhide HD20).mono ?_
      rintro e w21 ⟨u21, rfl, ho21, hb21⟩
      obtain ⟨a21, c21, hu21⟩ := ho21.shape
      subst hu21
      by_cases hd0 : D.2 = 0
      · obtain ⟨l2, q2⟩ := D
        simp only at hd0
        subst hd0
        obtain ⟨f1, f2, f3⟩ := enc_dec HYM.out HDD.out
        have HE2 := hide (encode_calls ho21.isEn)
        rw [show chkL nbL l2 = 0 from f2] at HE2
        have HER2 : Hid (encR l2 = ys) := by show _ = _; unfold encR; rw [if_pos f2, f1]
        simp only at HE2 ⊢
        generalize l2.length = n21 at *
        clear HD20 ho21 f1 f2 f3
        go_wp2_with fail
        refine (unhide HE2).mono ?_
        rintro e w22 ⟨u22, rfl, ho22, hb22⟩
        rw [HER2.out] at ho22
        obtain ⟨a22, n22, c22, hu22⟩ := ho22.shape
        subst hu22
        have hb2022 := hb21.trans (hb22.mono hb21.size)
        have HSB := hide (same_calls ho22.isB (unhide HY w22 hb2022))
        have HBE := hide (HBW.out.trans (hb2022.mono HBW.out.size))
        clear HE2 ho22 hb21 hb22 hb2022
        go_wp2_with (go_at_call 17; refine (unhide HSB).mono ?_; rintro e w23 ⟨rfl, hw23⟩)
        go_ret
        exact ⟨rfl, HBE.out.trans ((below_same hw23).mono HBE.out.size)⟩
      · have HBE := hide (HBW.out.trans (hb21.mono HBW.out.size))
        generalize D.2 = q2 at *
        generalize D.1.length = n21 at *
        clear HD20 ho21 hb21
        go_wp2_with fail
        go_ret
        exact ⟨rfl, HBE.out⟩
  · obtain ⟨a3, n3, c3, hu3⟩ := (HO3.out w3 (Below.refl _ _)).shape
    subst hu3
    go_upto_region 17 with (go_at_call 12; refine (unhide HCH).mono ?_; rintro e w10 ⟨rfl, hb4⟩)
    have hb110 := HB3.out.trans (hb4.mono HB3.out.size)
    have hbw := HB1.out.trans (hb110.mono HB1.out.size)
    have HCB2 := hide (cut_calls (unhide HBB w10 hbw) 90000 (by decide))
    have HBW := hide hbw
    clear HCH hb4 hb110 hbw
    go_wp2_with fail
    refine (unhide HCB2).mono ?_
    rintro e w20 ⟨⟨m20, rfl, hmn20, hc20⟩, hw20⟩
    obtain rfl := hw20.symm
    generalize xs0.take 90000 = ys at *
    have HD20 := hide (decode_calls hc20)
    have HY : Hid (∀ W, Below w10.heap.size w10 W → IsB W (.slice ab m20 cb) ys) := fun W hW => hc20.below hW
    have HYM := hide hc20.mem
    obtain ⟨D, hD⟩ : ∃ D, decL nbL ys = D := ⟨_, rfl⟩
    rw [hD] at HD20
    have HDD := hide hD
    clear hw20 hc20 HCB2 hD
    go_wp2_with fail
    refine (unhide HD20).mono ?_
    rintro e w21 ⟨u21, rfl, ho21, hb21⟩
    obtain ⟨a21, c21, hu21⟩ := ho21.shape
    subst hu21
    by_cases hd0 : D.2 = 0
    · obtain ⟨l2, q2⟩ := D
      simp only at hd0
      subst hd0
      obtain ⟨f1, f2, f3⟩ := enc_dec HYM.out HDD.out
      have HE2 := hide (encode_calls ho21.isEn)
      rw [show chkL nbL l2 = 0 from f2] at HE2
      have HER2 : Hid (encR l2 = ys) := by show _ = _; unfold encR; rw [if_pos f2, f1]
      simp only at HE2 ⊢
      generalize l2.length = n21 at *
      clear HD20 ho21 f1 f2 f3
      go_wp2_with fail
      refine (unhide HE2).mono ?_
      rintro e w22 ⟨u22, rfl, ho22, hb22⟩
      rw [HER2.out] at ho22
      obtain ⟨a22, n22, c22, hu22⟩ := ho22.shape
      subst hu22
      have hb2022 := hb21.trans (hb22.mono hb21.size)
      have HSB := hide (same_calls ho22.isB (unhide HY w22 hb2022))
      have HBE := hide (HBW.out.trans (hb2022.mono HBW.out.size))
      clear HE2 ho22 hb21 hb22 hb2022
      go_wp2_with (go_at_call 17; refine (unhide HSB).mono ?_; rintro e w23 ⟨rfl, hw23⟩)
      go_ret
      exact ⟨rfl, HBE.out.trans ((below_same hw23).mono HBE.out.size)⟩
    · have HBE := hide (HBW.out.trans (hb21.mono HBW.out.size))
      generalize D.2 = q2 at *
      generalize D.1.length = n21 at *
      clear HD20 ho21 hb21
      go_wp2_with fail
      go_ret
      exact ⟨rfl, HBE.out⟩
end Go.Proofs.YtpklbchbldipnaaDoor
