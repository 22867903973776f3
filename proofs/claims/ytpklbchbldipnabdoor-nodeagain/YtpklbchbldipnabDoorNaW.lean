/- NodeAgain: the walk. -/
import Derived.Test.YtpklbchbldipnabDoorNaT
namespace Go.Proofs.YtpklbchbldipnabDoor
open Go.RowKit Go.Maps Classical

set_option maxRecDepth 100000 in
set_option maxHeartbeats 8000000 in
theorem nodeAgain_walk {w : World} {v vb vt : Value} {l0 : List Ent} {xs0 : List Int} {ts : List (Int × Int × Int)} {M : Nat} (h : IsEn w v l0) (hM : ∀ e ∈ l0, e.nm.length ≤ M) (hMM : M ≤ 140737488354000) (hb : IsB w vb xs0) (ht : IsTn w vt ts) (hT : Tabs w) : Calls Tryd.prog 4 #[v, vb, vt] w fun e w' => e = .returned (.bool true) ∧ Below w.heap.size w w' := by
  obtain ⟨a, c, rfl⟩ := h.shape
  obtain ⟨ab, nb, cb, rfl⟩ := hb.shape
  obtain ⟨ta, tc, hvt, htl, htm, htg⟩ := ht.val
  subst hvt
  obtain ⟨nt, hnt⟩ : ∃ nt, nt = ts.length := ⟨_, rfl⟩
  rw [← hnt] at htl htg ⊢
  have HTG : Hid (0 < nt → ∃ b o, ta = some ⟨b, o, none⟩ ∧ ∀ j, j < nt → ∀ W, Below w.heap.size w W → W.rangeAt b (o + j * 3) (tnV (ts.getD j default))) := fun h0 => by
    obtain ⟨b, o, h1, h2⟩ := htg h0
    exact ⟨b, o, h1, fun j hj W hW => range_kept (h2 j hj) hW⟩
  have HTO : Hid (∀ j, j < nt → -9223372036854775808 ≤ (ts.getD j default).2.2 ∧ (ts.getD j default).2.2 ≤ 9223372036854775807) := fun j hj => by
    rw [List.getD_eq_getElem?_getD, List.getElem?_eq_getElem (by rw [← hnt]; exact hj)]
    exact ht.ok _ (List.getElem_mem _)
  have HTL := hide (ntold_calls hT)
  have HH := hide h
  have HHB := hide hb
  have HT := hide hT
  have HM := hide hM
  obtain ⟨n, hn⟩ : ∃ n, n = l0.length := ⟨_, rfl⟩
  rw [← hn] at HH ⊢
  have HN := hide hn
  have hcc := HH.out.lenEq.2
  clear h hT hM hb ht htg hn hnt
  go_enter Tryd.func4, Tryd.ntmps4
  go_wp2_with fail
  refine (unhide HTL).mono ?_
  rintro e w1 ⟨rfl, hb1⟩
  have HT1 : Hid (∀ W, Below w1.heap.size w1 W → Tabs W) := fun W hW => HT.out.below (hb1.trans (hW.mono hb1.size))
  have HI1 := hide (HH.out.below hb1)
  have HIB1 := hide (HHB.out.below hb1)
  have HB1 := hide hb1
  clear HTL HH HHB HT hb1
  go_upto_if 29 with fail
  go_cut [0] (fun v wc => ∃ m : Nat, v = .slice a m c ∧ m ≤ 60 ∧ w1 = wc ∧ Hid (IsEn w1 (.slice a m c) (l0.take 60)))
  case first =>
    by_cases h60 : n > 60
    · have hI : (n : Int) > 60 := by omega
      have hcI : (60 : Int) ≤ (c : Int) := by omega
      have HC := hide (HI1.out.cut (k := 60) (by omega))
      go_wp2
      go_meet
      exact ⟨60, rfl, by omega, rfl, HC⟩
    · have hI : ¬ (n : Int) > 60 := by omega
      have HC : Hid (IsEn w1 (.slice a n c) (l0.take 60)) := by
        rw [List.take_of_length_le (by rw [← HN.out]; omega)]
        exact HI1.out
      go_wp2
      go_meet
      exact ⟨n, rfl, by omega, rfl, HC⟩
  obtain ⟨m, rfl, hm, rfl, HC⟩ := hcut
  have HM60 : Hid (∀ e ∈ l0.take 60, e.nm.length ≤ M) := fun e he => HM.out e (List.mem_of_mem_take he)
  generalize l0.take 60 = la at *
  have HLA := hide (elaid_calls HC.out (by omega))
  clear HI1 HM HN
  go_wp2_with fail
  refine (unhide HLA).mono ?_
  rintro e w2 ⟨g, c2, rfl, hld, hb2⟩
  have HCU := hide (cut_calls (HIB1.out.below hb2) 8000 (by decide))
  have HL2 := hide hld
  have HB2 := hide hb2
  clear HLA hld hb2
  go_wp2_with fail
  refine (unhide HCU).mono ?_
  rintro e w3 ⟨⟨mb, rfl, hmn, hc3⟩, hw3⟩
  obtain rfl := hw3.symm
  have hmb : mb ≤ 8000 := by have := hc3.lenEq; rw [List.length_take] at this; omega
  have hl3 : (xs0.take 8000).length ≤ 8000 := by rw [List.length_take]; omega
  generalize xs0.take 8000 = xa at *
  have HLB := hide (laid_calls hc3 (by omega))
  clear hc3 hw3 HCU hl3
  go_wp2_with fail
  refine (unhide HLB).mono ?_
  rintro e w4 ⟨gb, cb4, rfl, hlb, hb4⟩
  have HTP : Hid (TP w1 w4 w1.heap.size g m c2 gb mb cb4 (M + 0)) := ⟨la, xa, HL2.out.below hb4, ⟨hlb.mem, hlb.len, owns_mono hlb.own HB2.out.size⟩, HM60.out, HB2.out.trans (hb4.mono HB2.out.size)⟩
  clear HLB hlb hb4 HB2 HL2 HM60 HIB1 HC hmn
  go_wp2_with fail
  go_loopw [9] (fun iv wr => ∃ i : Nat, i ≤ 17 ∧ i ≤ nt + 1 ∧ iv = .int .i64 (i : Int) ∧ Hid (TP w1 wr w1.heap.size g m c2 gb mb cb4 (M + i))) (fun iv _ => 17 - (intOf iv).toNat)
  case atStart => exact ⟨0, by omega, by omega, rfl, HTP⟩
  case round =>
    clear HTP
    obtain ⟨i, hi17, hint, rfl, HTP⟩ := hrel
    by_cases h1 : i ≤ nt
    · have h1I : (i : Int) ≤ (nt : Int) := by omega
      by_cases h2 : i ≤ 16
      · have h2I : (i : Int) ≤ 16 := by omega
        obtain ⟨l, xs, hE, hX, hMi, hBw⟩ := HTP.out
        have HE : Hid (∀ W, Below wr.heap.size wr W → ELaid W w1.heap.size g m c2 l) := fun W hW => hE.below hW
        have HX : Hid (∀ W, Below wr.heap.size wr W → IsLaid W w1.heap.size gb mb cb4 xs) := fun W hW => hX.below hW
        have HMI := hide hMi
        have HBW := hide hBw
        have HLE := hide hE.isEn
        have HLM : Hid (l.length = m) := hE.len.symm
        have HXM : Hid (xs.length = mb) := hX.len.symm
        have HTW := hide (unhide HT1 wr hBw)
        clear HTP hE hX hMi hBw
        go_upto_region 11 with (at_builtin; refine wpList_appEn rfl (.const (.slice none 0 0)) (.tmp 47) rfl (v := .slice none 0 0) rfl (OwnE.nil wr wr.heap.size) rfl HLE.out (by rw [HLM.out]; simp; omega) (Nat.le_refl _) ?_; intro v2 w2 ho2 hg2 hv2)
        have hb2 := below_app (Below.refl wr.heap.size wr) hg2 (Nat.le_refl _) hv2
        rw [List.nil_append] at ho2
        obtain ⟨a2, c2', hu2⟩ := ho2.shape
        rw [HLM.out] at hu2
        subst hu2
        have HWS : Hid (∀ W, Below w2.heap.size w2 W → IsEn W (.slice a2 m c2') l) := fun W hW => ho2.isEn.below hW
        have HXB := hide (unhide HX w2 hb2).isB
        have HB2 := hide hb2
        clear ho2 hg2 hv2 hb2 HLE
        go_upto_region 12 with (at_builtin; refine wpList_appB rfl (.const (.slice none 0 0)) (.tmp 49) rfl (v := .slice none 0 0) rfl (Own8.nil w2 w2.heap.size) rfl HXB.out (by rw [HXM.out]; simp; omega) (Nat.le_refl _) ?_; intro v3 w3 ho3 hg3)
        have hb3 := (Below.refl w2.heap.size w2).grown hg3 (Nat.le_refl _) (fun k hk => by simp [Value.ownBlock] at hk)
        rw [List.nil_append] at ho3
        obtain ⟨a3, n3, c3, hu3⟩ := ho3.shape
        subst hu3
        have hb03 := HB2.out.trans (hb3.mono HB2.out.size)
        have HYS : Hid (∀ W, Below w3.heap.size w3 W → IsB W (.slice a3 n3 c3) xs) := fun W hW => ho3.isB.below hW
        have HWS3 : Hid (∀ W, Below w3.heap.size w3 W → IsEn W (.slice a2 m c2') l) := fun W hW => unhide HWS W (hb3.trans (hW.mono hb3.size))
        have HE3 : Hid (∀ W, Below w3.heap.size w3 W → ELaid W w1.heap.size g m c2 l) := fun W hW => unhide HE W (hb03.trans (hW.mono hb03.size))
        have HX3 : Hid (∀ W, Below w3.heap.size w3 W → IsLaid W w1.heap.size gb mb cb4 xs) := fun W hW => unhide HX W (hb03.trans (hW.mono hb03.size))
        have HT3 : Hid (∀ W, Below w3.heap.size w3 W → Tabs W) := fun W hW => HTW.out.below (hb03.trans (hW.mono hb03.size))
        have HB03 := hide hb03
        obtain ⟨ck, hck⟩ : ∃ ck, chkL nbL l = ck := ⟨_, rfl⟩
        obtain ⟨D, hD⟩ : ∃ D, decL nbL xs = D := ⟨_, rfl⟩
        have hkl := keyR_len l
        have hke := key_neq (keyR l) (keyR l) hkl hkl
        rw [decide_eq_true rfl] at hke
        have hkg := key_guard
        have HIK := hide (infoKof hkl)
        have HZK : Hid (z32.length = ((keyR l).map (Value.int .u8)).length) := by show _ = _; rw [z32_len, List.length_map, hkl]
        have HCH := hide (check_calls (unhide HE3 w3 (Below.refl _ _)).isEn)
        rw [hck] at HCH
        have HCKE := hide hck
        have HDE0 := hide hD
        clear ho3 hg3 hb3 hb03 HXB HB2 HE HX HWS HTW hck hD hkl
        go_wp2_with fail
        refine (unhide HCH).mono ?_
        rintro e w5 ⟨rfl, hb5⟩
        have HEN := hide (encode_calls (unhide HE3 w5 hb5).isEn)
        rw [HCKE.out] at HEN
        have HB5 := hide hb5
        clear HCH hb5
        go_wp2_with fail
        refine (unhide HEN).mono ?_
        rintro e w6 ⟨u6, rfl, ho6, hb6⟩
        obtain ⟨a6, n6, c6, hu6⟩ := ho6.shape
        subst hu6
        have hb36 := HB5.out.trans (hb6.mono HB5.out.size)
        have HKE := hide (keyOf_calls (unhide HE3 w6 hb36).isEn (unhide HT3 w6 hb36))
        rw [HCKE.out] at HKE
        have HI6 : Hid (∀ W, Below w6.heap.size w6 W → IsB W (.slice a6 n6 c6) (encR l)) := fun W hW => ho6.isB.below hW
        have HB36 := hide hb36
        clear HEN ho6 hb6 hb36 HB5
        go_upto_region 15 with (first
          | (go_at_call 11; refine (unhide HKE).mono ?_; rintro e w7 ⟨rfl, hb7⟩)
          | (refine wpList_allocZ rfl 32 rfl infoK ?_)
          | (refine wpList_storeArr2 (cs' := (keyR l).map (Value.int .u8)) rfl (.tmp 15) (.tmp 61) 32 rfl rfl rfl (Arr.new w7 z32 32) HIK.out HZK.out (u8_one _) ?_; intro w8 hA8 hw8))
        have hb68 : Below w6.heap.size w6 w8 := hb7.trans ((hw8.below _ _ (lit_blw _ _) (Nat.le_refl _)).mono hb7.size)
        have hb38 := HB36.out.trans (hb68.mono HB36.out.size)
        obtain ⟨g8, hg8⟩ : ∃ g8, w7.heap.size = g8 := ⟨_, rfl⟩
        rw [hg8] at hA8
        rw [hg8]
        have HA8 : Hid (∀ W, Below w8.heap.size w8 W → Arr W g8 32 ((keyR l).map (Value.int .u8))) := fun W hW => hA8.below hW
        have HDE := hide (decode_calls (unhide HX3 w8 hb38).isB)
        rw [HDE0.out] at HDE
        have HB68 := hide hb68
        have HB38 := hide hb38
        clear HKE hw8 hb7 hg8 hA8 hb68 hb38
        go_wp2_with fail
        refine (unhide HDE).mono ?_
        rintro e w9 ⟨u9, rfl, ho9, hb9⟩
        obtain ⟨a9, c9, hu9⟩ := ho9.shape
        subst hu9
        have hb39 := HB38.out.trans (hb9.mono HB38.out.size)
        have HI9 : Hid (∀ W, Below w9.heap.size w9 W → IsEn W (.slice a9 D.1.length c9) D.1) := fun W hW => ho9.isEn.below hW
        have HRE := hide (rencode_calls (unhide HWS3 w9 hb39))
        rw [HCKE.out] at HRE
        have HB89 := hide hb9
        have HB39 := hide hb39
        clear HDE ho9 hb9 hb39
        go_wp2_with fail
        refine (unhide HRE).mono ?_
        rintro e w10 ⟨u10, rfl, ho10, hb10⟩
        obtain ⟨a10, n10, c10, hu10⟩ := ho10.shape
        subst hu10
        have hb310 := HB39.out.trans (hb10.mono HB39.out.size)
        have HI10 : Hid (∀ W, Below w10.heap.size w10 W → IsB W (.slice a10 n10 c10) (encR l)) := fun W hW => ho10.isB.below hW
        have HKR := hide (rkeyOf_calls (unhide HWS3 w10 hb310))
        rw [HCKE.out] at HKR
        have HB910 := hide hb10
        have HB310 := hide hb310
        clear HRE ho10 hb10 hb310
        go_upto_region 18 with (first
          | (go_at_call 19; refine (unhide HKR).mono ?_; rintro e w11 ⟨rfl, hb11⟩)
          | (refine wpList_allocZ rfl 32 rfl infoK ?_)
          | (refine wpList_storeArr2 (cs' := (keyR l).map (Value.int .u8)) rfl (.tmp 21) (.tmp 76) 32 rfl rfl rfl (Arr.new w11 z32 32) HIK.out HZK.out (u8_one _) ?_; intro w12 hA12 hw12))
        have hb1012 : Below w10.heap.size w10 w12 := hb11.trans ((hw12.below _ _ (lit_blw _ _) (Nat.le_refl _)).mono hb11.size)
        have hb312 := HB310.out.trans (hb1012.mono HB310.out.size)
        obtain ⟨g12, hg12⟩ : ∃ g12, w11.heap.size = g12 := ⟨_, rfl⟩
        rw [hg12] at hA12
        rw [hg12]
        have HA12 : Hid (∀ W, Below w12.heap.size w12 W → Arr W g12 32 ((keyR l).map (Value.int .u8))) := fun W hW => hA12.below hW
        have HDD := hide (ddecode_calls (unhide HYS w12 hb312))
        rw [HDE0.out] at HDD
        have HB1012 := hide hb1012
        have HB312 := hide hb312
        clear HKR hw12 hb11 hg12 hA12 hb1012 hb312
        go_wp2_with fail
        refine (unhide HDD).mono ?_
        rintro e w13 ⟨u13, rfl, ho13, hb13⟩
        obtain ⟨a13, c13, hu13⟩ := ho13.shape
        subst hu13
        have hb313 := HB312.out.trans (hb13.mono HB312.out.size)
        have hb1013 := HB1012.out.trans (hb13.mono HB1012.out.size)
        have hb913 := HB910.out.trans (hb1013.mono HB910.out.size)
        have hb813 := HB89.out.trans (hb913.mono HB89.out.size)
        have hb613 := HB68.out.trans (hb813.mono HB68.out.size)
        have HSB := hide (same_calls (unhide HI6 w13 hb613) (unhide HI10 w13 hb1013))
        have HSEE : Hid (∀ W, Below w13.heap.size w13 W → Calls Tryd.prog 10 #[.slice a9 D.1.length c9, .slice a13 D.1.length c13] W fun e w' => e = .returned (.bool true) ∧ Below W.heap.size W w') := fun W hW => by
          have := esame_calls (unhide HI9 W (hb913.trans (hW.mono hb913.size))) (ho13.isEn.below hW)
          rw [decide_eq_true rfl] at this
          exact this
        have HA8' : Hid (∀ W, Below w13.heap.size w13 W → W.rangeAt g8 0 ((keyR l).map (Value.int .u8))) := fun W hW => (unhide HA8 W (hb813.trans (hW.mono hb813.size))).range
        have HA12' : Hid (∀ W, Below w13.heap.size w13 W → W.rangeAt g12 0 ((keyR l).map (Value.int .u8))) := fun W hW => (unhide HA12 W (hb13.trans (hW.mono hb13.size))).range
        have HB313 := hide hb313
        have hqq : (ck == ck) = true := by simp
        have hqd : (D.2 == D.2) = true := by simp
        generalize D.1.length = nd at *
        generalize D.2 = qd at *
        clear HDD ho13 hb13 hb313 hb1013 hb913 hb813 hb613
        go_upto_region 21 with (first
          | (go_at_call 9; refine (unhide HSB).mono ?_; rintro e w14 ⟨rfl, hw14⟩; have hb14 := below_same hw14; have HSE := hide (unhide HSEE w14 hb14); have HR8 := hide (unhide HA8' w14 hb14); have HR12 := hide (unhide HA12' w14 hb14); have HB314 := hide (HB313.out.trans (hb14.mono HB313.out.size)); clear hw14 hb14)
          | (refine wpList_load_on rfl 32 (.tmp 15) rfl g8 0 rfl ((keyR l).map (Value.int .u8)) _ HR8.out Tryd.underlying32 rfl HIK.out ?_)
          | (refine wpList_load_on rfl 32 (.tmp 21) rfl g12 0 rfl ((keyR l).map (Value.int .u8)) _ HR12.out Tryd.underlying32 rfl HIK.out ?_)
          | (go_at_call 10; refine (unhide HSE).mono ?_; rintro e w15 ⟨rfl, hb15⟩))
        have hb315 := HB314.out.trans (hb15.mono HB314.out.size)
        have HIN := hide (eintact_calls (unhide HE3 w15 hb315) (unhide HWS3 w15 hb315) (by omega))
        have HB315 := hide hb315
        clear hb15 hb315 HR8 HR12 HSE HSB HSEE HA8 HA12 HA8' HA12' HI6 HI9 HI10 hke hkg hqq hqd HB314 HB313 HB312 HB310 HB39 HB38 HB36
        go_upto_region 23 with (first
          | (go_at_call 21; refine (unhide HIN).mono ?_; rintro e w16 ⟨rfl, hb16⟩; have hb316 := HB315.out.trans (hb16.mono HB315.out.size); have HIB := hide (intact_calls (unhide HX3 w16 hb316) (unhide HYS w16 hb316) (by omega)); have HB316 := hide hb316; clear hb316 hb16)
          | (go_at_call 22; refine (unhide HIB).mono ?_; rintro e w17 ⟨rfl, hw17⟩))
        have hb17 := below_same hw17
        have hb317 := HB316.out.trans (hb17.mono HB316.out.size)
        have HE17 := hide (unhide HE3 w17 hb317)
        have HX17 := hide (unhide HX3 w17 hb317)
        have hb017 := HB03.out.trans (hb317.mono HB03.out.size)
        have HBT : Hid (Below w1.heap.size w1 w17) := HBW.out.trans (hb017.mono HBW.out.size)
        clear hw17 hb17 hb317 hb017 HIN HIB HB315 HB316 HE3 HX3 HYS HWS3 HT3 HB03
        by_cases h3 : i < nt
        · have h3I : (i : Int) < (nt : Int) := by omega
          obtain ⟨tb, to', rfl, htr⟩ := unhide HTG (by omega)
          have hbw17 := HB1.out.trans (HBT.out.mono HB1.out.size)
          have hrr := htr i h3 w17 hbw17
          obtain ⟨⟨ki, ka, kb⟩, hkk⟩ : ∃ t, ts.getD i default = t := ⟨_, rfl⟩
          have hto := unhide HTO i h3
          rw [hkk] at hrr hto
          have hc0 : w17.cell? ⟨tb, to' + i * 3, none⟩ = some (.int .i64 ki) := hrr 0 _ rfl
          have hc1 : w17.cell? ⟨tb, to' + i * 3 + 1, none⟩ = some (.int .i64 ka) := hrr 1 _ rfl
          have hc2 : w17.cell? ⟨tb, to' + i * 3 + 2, none⟩ = some (.int .i64 kb) := hrr 2 _ rfl
          have HTU := hide (turned_calls (ki := ki) (ta := ka) (tb := kb) HE17.out HX17.out hm hmb HBT.out.size HMI.out (by omega) hto)
          clear hrr hto htr hbw17 hkk
          go_wp2_with (go_at_call 23; refine (unhide HTU).mono ?_; rintro e w18 ⟨⟨r, rfl⟩, hTP⟩)
          obtain ⟨l2, xs2, q1, q2, q3, q4⟩ := hTP
          have HF : Hid (TP w1 w18 w1.heap.size g m c2 gb mb cb4 (M + (i + 1))) := ⟨l2, xs2, q1, q2, fun e he => by have := q3 e he; omega, HBT.out.trans q4⟩
          clear q1 q2 q3 q4
          go_roundw
          case rel => exact ⟨i + 1, by omega, by omega, by go_num, HF⟩
          case measure => simp [intOf]; omega
        · have h3I : ¬ (i : Int) < (nt : Int) := by omega
          have HF : Hid (TP w1 w17 w1.heap.size g m c2 gb mb cb4 (M + (i + 1))) := ⟨l, xs, HE17.out, HX17.out, fun e he => by have := HMI.out e he; omega, HBT.out⟩
          go_wp2
          go_roundw
          case rel => exact ⟨i + 1, by omega, by omega, by go_num, HF⟩
          case measure => simp [intOf]; omega
      · have h2I : ¬ (i : Int) ≤ 16 := by omega
        obtain ⟨l, xs, hE, hX, hMi, hBw⟩ := HTP.out
        have HF := hide (HB1.out.trans (hBw.mono HB1.out.size))
        clear hE hX hMi hBw HTP
        go_wp2
        go_ret
        exact ⟨rfl, HF.out⟩
    · have h1I : ¬ (i : Int) ≤ (nt : Int) := by omega
      obtain ⟨l, xs, hE, hX, hMi, hBw⟩ := HTP.out
      have HF := hide (HB1.out.trans (hBw.mono HB1.out.size))
      clear hE hX hMi hBw HTP
      go_wp2
      go_ret
      exact ⟨rfl, HF.out⟩
end Go.Proofs.YtpklbchbldipnabDoor
