/- NodeLong: the walk. -/
import Derived.Test.YtpklbchbldipnaaDoorNAn
import Derived.Deep.Cut
namespace Go.Proofs.YtpklbchbldipnaaDoor
open Go.RowKit Go.Maps Classical

theorem dec_more2 {nb : List Int → Bool} (hnb : ∀ x, nb x = true → x.length ≤ 64) {l : List Ent} (hok : ∀ e ∈ l, EntOk e) (hc : chkL nb l = 0) {r : List Int} (hr : r ≠ []) (hz : (encL l ++ r).length ≤ 1048576) : decL nb (encL l ++ r) = ([], 80) := by
  obtain ⟨h0, hF⟩ := chkL_zero hc
  have hU : rU 0 0 (uBytes (l.length : Int) ++ (l.flatMap entB ++ r)) = ((l.length : Int), (uBytes (l.length : Int)).length, 0) := rU_uBytes (by omega) (top9 (by omega))
  have ht : (encL l ++ r).tail = uBytes (l.length : Int) ++ (l.flatMap entB ++ r) := by
    show (uBytes (l.length : Int) ++ l.flatMap entB) ++ r = _
    rw [List.append_assoc]
  have hh : (encL l ++ r).headD 0 = 1 := rfl
  unfold decL
  rw [ht, hU, hh, if_neg (by omega), if_neg (by simp), if_neg (by simp), if_neg (by simp only; omega)]
  simp only
  rw [app_drop rfl, show (l.length : Int).toNat = l.length by simp]
  exact decF_more hnb l [] none r hok hF hr
theorem dec_long {ys : List Int} (h : 1048576 < ys.length) : decL nbL ys = ([], 2) := by unfold decL; rw [if_pos h]
theorem hi_len {w : World} {a : Option Addr} {n c : Nat} {ys : List Int} (h : IsB w (.slice a n c) ys) {k : Nat} : (ys ++ List.replicate k 0).length = n + k := by rw [List.length_append, List.length_replicate, h.lenEq]
set_option maxRecDepth 100000 in
set_option maxHeartbeats 8000000 in
theorem nodeLong_walk (x : Int) {w : World} (hT : Tabs w) : Calls Tryd.prog 6 #[.int .i64 x] w fun e w' => e = .returned (.bool true) ∧ Below w.heap.size w w' := by
  have HT := hide hT
  have HC1 := hide two_chk
  have HER := hide two_encR
  clear hT
  obtain ⟨n3, hn3⟩ : ∃ n3, n3 = (encL twoL).length := ⟨_, rfl⟩
  have hn3p : 0 < n3 := by rw [hn3]; unfold encL; simp
  have HN3 := hide hn3
  clear hn3

  go_enter Tryd.func6, Tryd.ntmps6
  by_cases hlo : x < 1
  · go_upto_region 3 with fail
    obtain ⟨N, hN⟩ : ∃ N : Nat, (1048576 : Int) = (N : Int) := ⟨1048576, rfl⟩
    have hN1 : 1 ≤ N := by omega
    have hN2 : N ≤ 1048576 := by omega
    rw [hN]
    clear hN hlo
    go_wp2_with fail
    refine (two_calls w).mono ?_
    rintro e w1 ⟨g, rfl, hg, hE1, hb1⟩
    have HEN := hide (encode_calls hE1)
    rw [HC1.out, HER.out] at HEN
    have HB1 := hide hb1
    clear hE1 hb1 hg
    go_wp2_with fail
    refine (unhide HEN).mono ?_
    rintro e w2 ⟨u2, rfl, ho2, hb2⟩
    obtain ⟨a2, m2, c2, hu2⟩ := ho2.shape
    subst hu2
    have HL2 := hide (show m2 = n3 from ho2.isB.lenEq.trans HN3.out.symm)
    have hbw2 := HB1.out.trans (hb2.mono HB1.out.size)
    have HTL := hide (ntold_calls (HT.out.below hbw2))
    have HI2 : Hid (∀ W, Below w2.heap.size w2 W → IsB W (.slice a2 m2 c2) (encL twoL)) := fun W hW => ho2.isB.below hW
    have HBW2 := hide hbw2
    have hNw : (N : Int) ≤ 9223372036854775807 := by omega
    obtain ⟨K, hK⟩ : ∃ K : Nat, (1048577 : Int) - (N : Int) = (K : Int) := ⟨1048577 - N, by omega⟩
    have HKN : Hid (N + K = 1048577) := by show _ = _; omega
    have hKw : IntKind.i64.wrap (K : Int) = (K : Int) := IntWalk.i64_in _ (by omega)
    clear HEN ho2 hb2 hbw2
    go_upto_region 8 with (first
      | (go_at_call 9; refine (unhide HTL).mono ?_; rintro e w3 ⟨rfl, hb3⟩)
      | (refine wpList_make8 rfl (.tmp 29) (.tmp 29) rfl (n := N) (by omega) rfl rfl ?_; intro w4 ho4 hb4; have HO4 := hide ho4; clear ho4)
      | (refine wpList_copy8 rfl (.tmp 31) (.tmp 32) rfl rfl rfl HO4.out (unhide HI2 w4 (hb3.trans (hb4.mono hb3.size))) (by rw [← HN3.out]; exact hn3p) ?_; intro w5 ho5 hg5 v5))
    have hb35 : Below w3.heap.size w3 w5 := hb4.grown hg5 hb4.size (fun k hk => by injection hk with hk; omega)
    have hb25 := hb3.trans (hb35.mono hb3.size)
    have HB5 := hide (HBW2.out.trans (hb25.mono HBW2.out.size))
    have HW5 : Hid (∀ W, Below w5.heap.size w5 W → IsB W (.slice (some ⟨w3.heap.size, 0, none⟩) N N) ((encL twoL).take N ++ (List.replicate N 0).drop (encL twoL).length)) := fun W hW => ho5.isB.below hW
    obtain ⟨g5, hg5e⟩ : ∃ g5, w3.heap.size = g5 := ⟨_, rfl⟩
    rw [hg5e] at HW5 ⊢
    have hm2 := HL2.out
    subst hm2
    clear HTL HO4 hg5 hb3 hb4 hb35 hb25 ho5 hg5e
    by_cases hgt : m2 < N
    · have HD5 := hide (decode_calls (unhide HW5 w5 (Below.refl _ _)))
      have HDL : Hid (decL nbL ((encL twoL).take N ++ (List.replicate N 0).drop (encL twoL).length) = ([], 80)) := by
        show _ = _
        rw [List.take_of_length_le (by rw [← HN3.out]; omega), List.drop_replicate, ← HN3.out]
        refine dec_more2 nbL_le (fun e he => (twoL_ok e he).ok) HC1.out (fun e => ?_) ?_
        · have := congrArg List.length e
          rw [List.length_replicate, List.length_nil] at this
          omega
        · rw [List.length_append, List.length_replicate, ← HN3.out]
          omega
      rw [HDL.out] at HD5
      have hgti : (m2 : Int) < (N : Int) := by omega
      go_wp2_with fail
      refine (unhide HD5).mono ?_
      rintro e w6 ⟨u6, rfl, ho6, hb6⟩
      obtain ⟨a6, c6, hu6⟩ := ho6.shape
      rw [List.length_nil] at hu6
      subst hu6
      have HB6 := hide (HB5.out.trans (hb6.mono HB5.out.size))
      have HW6 := hide (unhide HW5 w6 hb6)
      clear HD5 ho6 hb6 HB5 HW5 hgt
      go_upto_region 13 with (first
        | (at_builtin; refine wpList_appZ rfl (.tmp 51) (.tmp 53) rfl (n := N) (k := K) rfl rfl HW6.out (by omega) (by have := HKN.out; omega) (by have := HKN.out; omega) ?_; intro v7 w7 hi7 hb7; have hd7 := decode_calls hi7; rw [dec_long (by rw [hi_len HW6.out, HKN.out]; omega)] at hd7; have HD7 := hide hd7; clear hd7 hi7)
        | (go_at_call 21; refine (unhide HD7).mono ?_; rintro e w8 ⟨u8, rfl, ho8, hb8⟩))
      obtain ⟨a8, c8, hu8⟩ := ho8.shape
      rw [List.length_nil] at hu8
      subst hu8
      have hb68 := hb7.trans (hb8.mono hb7.size)
      have HB8 := hide (HB6.out.trans (hb68.mono HB6.out.size))
      clear HD7 HW6 HB6 ho8 hb7 hb8 hb68
      go_wp2_with (first
        | (refine wpList_make8 rfl (.const (.int .i64 1048577)) (.const (.int .i64 1048577)) rfl (n := 1048577) (by omega) rfl rfl ?_; intro w9 ho9 hb9; have hd9 := decode_calls ho9.isB; rw [dec_long (by rw [List.length_replicate]; omega)] at hd9; have HD9 := hide hd9; clear hd9 ho9)
        | (go_at_call 21; refine (unhide HD9).mono ?_; rintro e w10 ⟨u10, rfl, ho10, hb10⟩; obtain ⟨a10, c10, hu10⟩ := ho10.shape; rw [List.length_nil] at hu10; subst hu10))
      go_ret
      have hb810 := hb9.trans (hb10.mono hb9.size)
      exact ⟨rfl, HB8.out.trans (hb810.mono HB8.out.size)⟩
    · have hgti : ¬ (m2 : Int) < (N : Int) := by omega
      have HW6 := hide (unhide HW5 w5 (Below.refl _ _))
      have HB6 := HB5
      clear HB5 HW5 hgt
      go_upto_region 13 with (first
        | (at_builtin; refine wpList_appZ rfl (.tmp 51) (.tmp 53) rfl (n := N) (k := K) rfl rfl HW6.out (by omega) (by have := HKN.out; omega) (by have := HKN.out; omega) ?_; intro v7 w7 hi7 hb7; have hd7 := decode_calls hi7; rw [dec_long (by rw [hi_len HW6.out, HKN.out]; omega)] at hd7; have HD7 := hide hd7; clear hd7 hi7)
        | (go_at_call 21; refine (unhide HD7).mono ?_; rintro e w8 ⟨u8, rfl, ho8, hb8⟩))
      obtain ⟨a8, c8, hu8⟩ := ho8.shape
      rw [List.length_nil] at hu8
      subst hu8
      have hb68 := hb7.trans (hb8.mono hb7.size)
      have HB8 := hide (HB6.out.trans (hb68.mono HB6.out.size))
      clear HD7 HW6 HB6 ho8 hb7 hb8 hb68
      go_wp2_with (first
        | (refine wpList_make8 rfl (.const (.int .i64 1048577)) (.const (.int .i64 1048577)) rfl (n := 1048577) (by omega) rfl rfl ?_; intro w9 ho9 hb9; have hd9 := decode_calls ho9.isB; rw [dec_long (by rw [List.length_replicate]; omega)] at hd9; have HD9 := hide hd9; clear hd9 ho9)
        | (go_at_call 21; refine (unhide HD9).mono ?_; rintro e w10 ⟨u10, rfl, ho10, hb10⟩; obtain ⟨a10, c10, hu10⟩ := ho10.shape; rw [List.length_nil] at hu10; subst hu10))
      go_ret
      have hb810 := hb9.trans (hb10.mono hb9.size)
      exact ⟨rfl, HB8.out.trans (hb810.mono HB8.out.size)⟩
  · by_cases hhi : 1048576 < x
    · go_upto_region 3 with fail
      obtain ⟨N, hN⟩ : ∃ N : Nat, (1048576 : Int) = (N : Int) := ⟨1048576, rfl⟩
      have hN1 : 1 ≤ N := by omega
      have hN2 : N ≤ 1048576 := by omega
      rw [hN]
      clear hN hlo hhi
      go_wp2_with fail
      refine (two_calls w).mono ?_
      rintro e w1 ⟨g, rfl, hg, hE1, hb1⟩
      have HEN := hide (encode_calls hE1)
      rw [HC1.out, HER.out] at HEN
      have HB1 := hide hb1
      clear hE1 hb1 hg
      go_wp2_with fail
      refine (unhide HEN).mono ?_
      rintro e w2 ⟨u2, rfl, ho2, hb2⟩
      obtain ⟨a2, m2, c2, hu2⟩ := ho2.shape
      subst hu2
      have HL2 := hide (show m2 = n3 from ho2.isB.lenEq.trans HN3.out.symm)
      have hbw2 := HB1.out.trans (hb2.mono HB1.out.size)
      have HTL := hide (ntold_calls (HT.out.below hbw2))
      have HI2 : Hid (∀ W, Below w2.heap.size w2 W → IsB W (.slice a2 m2 c2) (encL twoL)) := fun W hW => ho2.isB.below hW
      have HBW2 := hide hbw2
      have hNw : (N : Int) ≤ 9223372036854775807 := by omega
      obtain ⟨K, hK⟩ : ∃ K : Nat, (1048577 : Int) - (N : Int) = (K : Int) := ⟨1048577 - N, by omega⟩
      have HKN : Hid (N + K = 1048577) := by show _ = _; omega
      have hKw : IntKind.i64.wrap (K : Int) = (K : Int) := IntWalk.i64_in _ (by omega)
      clear HEN ho2 hb2 hbw2
      go_upto_region 8 with (first
        | (go_at_call 9; refine (unhide HTL).mono ?_; rintro e w3 ⟨rfl, hb3⟩)
        | (refine wpList_make8 rfl (.tmp 29) (.tmp 29) rfl (n := N) (by omega) rfl rfl ?_; intro w4 ho4 hb4; have HO4 := hide ho4; clear ho4)
        | (refine wpList_copy8 rfl (.tmp 31) (.tmp 32) rfl rfl rfl HO4.out (unhide HI2 w4 (hb3.trans (hb4.mono hb3.size))) (by rw [← HN3.out]; exact hn3p) ?_; intro w5 ho5 hg5 v5))
      have hb35 : Below w3.heap.size w3 w5 := hb4.grown hg5 hb4.size (fun k hk => by injection hk with hk; omega)
      have hb25 := hb3.trans (hb35.mono hb3.size)
      have HB5 := hide (HBW2.out.trans (hb25.mono HBW2.out.size))
      have HW5 : Hid (∀ W, Below w5.heap.size w5 W → IsB W (.slice (some ⟨w3.heap.size, 0, none⟩) N N) ((encL twoL).take N ++ (List.replicate N 0).drop (encL twoL).length)) := fun W hW => ho5.isB.below hW
      obtain ⟨g5, hg5e⟩ : ∃ g5, w3.heap.size = g5 := ⟨_, rfl⟩
      rw [hg5e] at HW5 ⊢
      have hm2 := HL2.out
      subst hm2
      clear HTL HO4 hg5 hb3 hb4 hb35 hb25 ho5 hg5e
      by_cases hgt : m2 < N
      · have HD5 := hide (decode_calls (unhide HW5 w5 (Below.refl _ _)))
        have HDL : Hid (decL nbL ((encL twoL).take N ++ (List.replicate N 0).drop (encL twoL).length) = ([], 80)) := by
          show _ = _
          rw [List.take_of_length_le (by rw [← HN3.out]; omega), List.drop_replicate, ← HN3.out]
          refine dec_more2 nbL_le (fun e he => (twoL_ok e he).ok) HC1.out (fun e => ?_) ?_
          · have := congrArg List.length e
            rw [List.length_replicate, List.length_nil] at this
            omega
          · rw [List.length_append, List.length_replicate, ← HN3.out]
            omega
        rw [HDL.out] at HD5
        have hgti : (m2 : Int) < (N : Int) := by omega
        go_wp2_with fail
        refine (unhide HD5).mono ?_
        rintro e w6 ⟨u6, rfl, ho6, hb6⟩
        obtain ⟨a6, c6, hu6⟩ := ho6.shape
        rw [List.length_nil] at hu6
        subst hu6
        have HB6 := hide (HB5.out.trans (hb6.mono HB5.out.size))
        have HW6 := hide (unhide HW5 w6 hb6)
        clear HD5 ho6 hb6 HB5 HW5 hgt
        go_upto_region 13 with (first
          | (at_builtin; refine wpList_appZ rfl (.tmp 51) (.tmp 53) rfl (n := N) (k := K) rfl rfl HW6.out (by omega) (by have := HKN.out; omega) (by have := HKN.out; omega) ?_; intro v7 w7 hi7 hb7; have hd7 := decode_calls hi7; rw [dec_long (by rw [hi_len HW6.out, HKN.out]; omega)] at hd7; have HD7 := hide hd7; clear hd7 hi7)
          | (go_at_call 21; refine (unhide HD7).mono ?_; rintro e w8 ⟨u8, rfl, ho8, hb8⟩))
        obtain ⟨a8, c8, hu8⟩ := ho8.shape
        rw [List.length_nil] at hu8
        subst hu8
        have hb68 := hb7.trans (hb8.mono hb7.size)
        have HB8 := hide (HB6.out.trans (hb68.mono HB6.out.size))
        clear HD7 HW6 HB6 ho8 hb7 hb8 hb68
        go_wp2_with (first
          | (refine wpList_make8 rfl (.const (.int .i64 1048577)) (.const (.int .i64 1048577)) rfl (n := 1048577) (by omega) rfl rfl ?_; intro w9 ho9 hb9; have hd9 := decode_calls ho9.isB; rw [dec_long (by rw [List.length_replicate]; omega)] at hd9; have HD9 := hide hd9; clear hd9 ho9)
          | (go_at_call 21; refine (unhide HD9).mono ?_; rintro e w10 ⟨u10, rfl, ho10, hb10⟩; obtain ⟨a10, c10, hu10⟩ := ho10.shape; rw [List.length_nil] at hu10; subst hu10))
        go_ret
        have hb810 := hb9.trans (hb10.mono hb9.size)
        exact ⟨rfl, HB8.out.trans (hb810.mono HB8.out.size)⟩
      · have hgti : ¬ (m2 : Int) < (N : Int) := by omega
        have HW6 := hide (unhide HW5 w5 (Below.refl _ _))
        have HB6 := HB5
        clear HB5 HW5 hgt
        go_upto_region 13 with (first
          | (at_builtin; refine wpList_appZ rfl (.tmp 51) (.tmp 53) rfl (n := N) (k := K) rfl rfl HW6.out (by omega) (by have := HKN.out; omega) (by have := HKN.out; omega) ?_; intro v7 w7 hi7 hb7; have hd7 := decode_calls hi7; rw [dec_long (by rw [hi_len HW6.out, HKN.out]; omega)] at hd7; have HD7 := hide hd7; clear hd7 hi7)
          | (go_at_call 21; refine (unhide HD7).mono ?_; rintro e w8 ⟨u8, rfl, ho8, hb8⟩))
        obtain ⟨a8, c8, hu8⟩ := ho8.shape
        rw [List.length_nil] at hu8
        subst hu8
        have hb68 := hb7.trans (hb8.mono hb7.size)
        have HB8 := hide (HB6.out.trans (hb68.mono HB6.out.size))
        clear HD7 HW6 HB6 ho8 hb7 hb8 hb68
        go_wp2_with (first
          | (refine wpList_make8 rfl (.const (.int .i64 1048577)) (.const (.int .i64 1048577)) rfl (n := 1048577) (by omega) rfl rfl ?_; intro w9 ho9 hb9; have hd9 := decode_calls ho9.isB; rw [dec_long (by rw [List.length_replicate]; omega)] at hd9; have HD9 := hide hd9; clear hd9 ho9)
          | (go_at_call 21; refine (unhide HD9).mono ?_; rintro e w10 ⟨u10, rfl, ho10, hb10⟩; obtain ⟨a10, c10, hu10⟩ := ho10.shape; rw [List.length_nil] at hu10; subst hu10))
        go_ret
        have hb810 := hb9.trans (hb10.mono hb9.size)
        exact ⟨rfl, HB8.out.trans (hb810.mono HB8.out.size)⟩
    · obtain ⟨N, rfl⟩ : ∃ N : Nat, x = (N : Int) := ⟨x.toNat, by omega⟩
      have hN1 : 1 ≤ N := by omega
      have hN2 : N ≤ 1048576 := by omega
      go_upto_region 3 with fail
      clear hlo hhi
      go_wp2_with fail
      refine (two_calls w).mono ?_
      rintro e w1 ⟨g, rfl, hg, hE1, hb1⟩
      have HEN := hide (encode_calls hE1)
      rw [HC1.out, HER.out] at HEN
      have HB1 := hide hb1
      clear hE1 hb1 hg
      go_wp2_with fail
      refine (unhide HEN).mono ?_
      rintro e w2 ⟨u2, rfl, ho2, hb2⟩
      obtain ⟨a2, m2, c2, hu2⟩ := ho2.shape
      subst hu2
      have HL2 := hide (show m2 = n3 from ho2.isB.lenEq.trans HN3.out.symm)
      have hbw2 := HB1.out.trans (hb2.mono HB1.out.size)
      have HTL := hide (ntold_calls (HT.out.below hbw2))
      have HI2 : Hid (∀ W, Below w2.heap.size w2 W → IsB W (.slice a2 m2 c2) (encL twoL)) := fun W hW => ho2.isB.below hW
      have HBW2 := hide hbw2
      have hNw : (N : Int) ≤ 9223372036854775807 := by omega
      obtain ⟨K, hK⟩ : ∃ K : Nat, (1048577 : Int) - (N : Int) = (K : Int) := ⟨1048577 - N, by omega⟩
      have HKN : Hid (N + K = 1048577) := by show _ = _; omega
      have hKw : IntKind.i64.wrap (K : Int) = (K : Int) := IntWalk.i64_in _ (by omega)
      clear HEN ho2 hb2 hbw2
      go_upto_region 8 with (first
        | (go_at_call 9; refine (unhide HTL).mono ?_; rintro e w3 ⟨rfl, hb3⟩)
        | (refine wpList_make8 rfl (.tmp 29) (.tmp 29) rfl (n := N) (by omega) rfl rfl ?_; intro w4 ho4 hb4; have HO4 := hide ho4; clear ho4)
        | (refine wpList_copy8 rfl (.tmp 31) (.tmp 32) rfl rfl rfl HO4.out (unhide HI2 w4 (hb3.trans (hb4.mono hb3.size))) (by rw [← HN3.out]; exact hn3p) ?_; intro w5 ho5 hg5 v5))
      have hb35 : Below w3.heap.size w3 w5 := hb4.grown hg5 hb4.size (fun k hk => by injection hk with hk; omega)
      have hb25 := hb3.trans (hb35.mono hb3.size)
      have HB5 := hide (HBW2.out.trans (hb25.mono HBW2.out.size))
      have HW5 : Hid (∀ W, Below w5.heap.size w5 W → IsB W (.slice (some ⟨w3.heap.size, 0, none⟩) N N) ((encL twoL).take N ++ (List.replicate N 0).drop (encL twoL).length)) := fun W hW => ho5.isB.below hW
      obtain ⟨g5, hg5e⟩ : ∃ g5, w3.heap.size = g5 := ⟨_, rfl⟩
      rw [hg5e] at HW5 ⊢
      have hm2 := HL2.out
      subst hm2
      clear HTL HO4 hg5 hb3 hb4 hb35 hb25 ho5 hg5e
      by_cases hgt : m2 < N
      · have HD5 := hide (decode_calls (unhide HW5 w5 (Below.refl _ _)))
        have HDL : Hid (decL nbL ((encL twoL).take N ++ (List.replicate N 0).drop (encL twoL).length) = ([], 80)) := by
          show _ = _
          rw [List.take_of_length_le (by rw [← HN3.out]; omega), List.drop_replicate, ← HN3.out]
          refine dec_more2 nbL_le (fun e he => (twoL_ok e he).ok) HC1.out (fun e => ?_) ?_
          · have := congrArg List.length e
            rw [List.length_replicate, List.length_nil] at this
            omega
          · rw [List.length_append, List.length_replicate, ← HN3.out]
            omega
        rw [HDL.out] at HD5
        have hgti : (m2 : Int) < (N : Int) := by omega
        go_wp2_with fail
        refine (unhide HD5).mono ?_
        rintro e w6 ⟨u6, rfl, ho6, hb6⟩
        obtain ⟨a6, c6, hu6⟩ := ho6.shape
        rw [List.length_nil] at hu6
        subst hu6
        have HB6 := hide (HB5.out.trans (hb6.mono HB5.out.size))
        have HW6 := hide (unhide HW5 w6 hb6)
        clear HD5 ho6 hb6 HB5 HW5 hgt
        go_upto_region 13 with (first
          | (at_builtin; refine wpList_appZ rfl (.tmp 51) (.tmp 53) rfl (n := N) (k := K) rfl rfl HW6.out (by omega) (by have := HKN.out; omega) (by have := HKN.out; omega) ?_; intro v7 w7 hi7 hb7; have hd7 := decode_calls hi7; rw [dec_long (by rw [hi_len HW6.out, HKN.out]; omega)] at hd7; have HD7 := hide hd7; clear hd7 hi7)
          | (go_at_call 21; refine (unhide HD7).mono ?_; rintro e w8 ⟨u8, rfl, ho8, hb8⟩))
        obtain ⟨a8, c8, hu8⟩ := ho8.shape
        rw [List.length_nil] at hu8
        subst hu8
        have hb68 := hb7.trans (hb8.mono hb7.size)
        have HB8 := hide (HB6.out.trans (hb68.mono HB6.out.size))
        clear HD7 HW6 HB6 ho8 hb7 hb8 hb68
        go_wp2_with (first
          | (refine wpList_make8 rfl (.const (.int .i64 1048577)) (.const (.int .i64 1048577)) rfl (n := 1048577) (by omega) rfl rfl ?_; intro w9 ho9 hb9; have hd9 := decode_calls ho9.isB; rw [dec_long (by rw [List.length_replicate]; omega)] at hd9; have HD9 := hide hd9; clear hd9 ho9)
          | (go_at_call 21; refine (unhide HD9).mono ?_; rintro e w10 ⟨u10, rfl, ho10, hb10⟩; obtain ⟨a10, c10, hu10⟩ := ho10.shape; rw [List.length_nil] at hu10; subst hu10))
        go_ret
        have hb810 := hb9.trans (hb10.mono hb9.size)
        exact ⟨rfl, HB8.out.trans (hb810.mono HB8.out.size)⟩
      · have hgti : ¬ (m2 : Int) < (N : Int) := by omega
        have HW6 := hide (unhide HW5 w5 (Below.refl _ _))
        have HB6 := HB5
        clear HB5 HW5 hgt
        go_upto_region 13 with (first
          | (at_builtin; refine wpList_appZ rfl (.tmp 51) (.tmp 53) rfl (n := N) (k := K) rfl rfl HW6.out (by omega) (by have := HKN.out; omega) (by have := HKN.out; omega) ?_; intro v7 w7 hi7 hb7; have hd7 := decode_calls hi7; rw [dec_long (by rw [hi_len HW6.out, HKN.out]; omega)] at hd7; have HD7 := hide hd7; clear hd7 hi7)
          | (go_at_call 21; refine (unhide HD7).mono ?_; rintro e w8 ⟨u8, rfl, ho8, hb8⟩))
        obtain ⟨a8, c8, hu8⟩ := ho8.shape
        rw [List.length_nil] at hu8
        subst hu8
        have hb68 := hb7.trans (hb8.mono hb7.size)
        have HB8 := hide (HB6.out.trans (hb68.mono HB6.out.size))
        clear HD7 HW6 HB6 ho8 hb7 hb8 hb68
        go_wp2_with (first
          | (refine wpList_make8 rfl (.const (.int .i64 1048577)) (.const (.int .i64 1048577)) rfl (n := 1048577) (by omega) rfl rfl ?_; intro w9 ho9 hb9; have hd9 := decode_calls ho9.isB; rw [dec_long (by rw [List.length_replicate]; omega)] at hd9; have HD9 := hide hd9; clear hd9 ho9)
          | (go_at_call 21; refine (unhide HD9).mono ?_; rintro e w10 ⟨u10, rfl, ho10, hb10⟩; obtain ⟨a10, c10, hu10⟩ := ho10.shape; rw [List.length_nil] at hu10; subst hu10))
        go_ret
        have hb810 := hb9.trans (hb10.mono hb9.size)
        exact ⟨rfl, HB8.out.trans (hb810.mono HB8.out.size)⟩
end Go.Proofs.YtpklbchbldipnaaDoor
