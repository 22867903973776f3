/- NodeLent: the walk. -/
import Derived.Test.YtpklbchbldipnabDoorNAw
import Derived.Test.YtpklbchbldipnabDoorNAl
namespace Go.Proofs.YtpklbchbldipnabDoor
open Go.RowKit Go.Maps Classical

set_option maxRecDepth 100000 in
set_option maxHeartbeats 16000000 in
theorem nodeLent_walk {w : World} {va vb : Value} {la0 lb0 : List Ent} (ha : IsEn w va la0) (hb : IsEn w vb lb0) (hT : Tabs w) : Calls Tryd.prog 5 #[va, vb] w fun e w' => e = .returned (.bool true) ∧ Below w.heap.size w w' := by
  obtain ⟨aa, ca, rfl⟩ := ha.shape
  obtain ⟨ab, cb, rfl⟩ := hb.shape
  have HTL := hide (ntold_calls hT)
  have HA := hide ha
  have HBB := hide hb
  generalize la0.length = na0 at *
  generalize lb0.length = nb0 at *
  clear ha hb hT
  go_enter Tryd.func5, Tryd.ntmps5
  go_wp2_with fail
  refine (unhide HTL).mono ?_
  rintro e w1 ⟨rfl, hb1⟩
  have HCA := hide (cutEn_calls (HA.out.below hb1))
  have HCB := hide (cutEn_calls (HBB.out.below hb1))
  have HB1 := hide hb1
  clear hb1 HTL HA HBB
  go_wp2_with fail
  refine (unhide HCA).mono ?_
  rintro e w2 ⟨⟨na, rfl, hna, hca⟩, hw2⟩
  obtain rfl := hw2.symm
  go_wp2_with fail
  refine (unhide HCB).mono ?_
  rintro e w3 ⟨⟨nb, rfl, hnb, hcb⟩, hw3⟩
  obtain rfl := hw3.symm
  generalize la0.take 1100 = la at *
  generalize lb0.take 1100 = lb at *
  have HIA : Hid (∀ W, Below w1.heap.size w1 W → IsEn W (.slice aa na ca) la) := fun W hW => hca.below hW
  have HIB : Hid (∀ W, Below w1.heap.size w1 W → IsEn W (.slice ab nb cb) lb) := fun W hW => hcb.below hW
  clear HCA HCB hw2 hw3 hca hcb
  go_upto_region 5 with fail
  have HBG : Hid (Big w1 (w1.alloc (.cells #[.slice none 0 0, .slice none 0 0] 58)) w1.heap.size 0 (.slice none 0 0) (.slice none 0 0)) := by
    have hbe := lit_blw w1 (.cells #[.slice none 0 0, .slice none 0 0] 58)
    refine ⟨⟨[], [], fun _ => undef, fun _ => [], (LpE.nil w1 (Below.refl _ _)).below hbe⟩, .slice none 0 0, .slice none 0 0, [], [], fun _ => undef, fun _ => [], hbe, Arr.new w1 [.slice none 0 0, .slice none 0 0] _, Nat.le_refl _, Row.nil _ _ _, Row.nil _ _ _, fun k h => by simp [Value.ownBlock] at h, rfl, rfl, fun k hk => by omega, fun k hk => by omega, fun j k hj => by omega, fun k hk => by omega, fun k hk => by omega⟩
  generalize w1.alloc (.cells #[.slice none 0 0, .slice none 0 0] 58) = w4 at *
  obtain ⟨p, hp⟩ : ∃ p, w1.heap.size = p := ⟨_, rfl⟩
  rw [hp] at HBG
  rw [hp]
  have HPP := hide hp
  clear hp
  go_wp2_with fail
  go_loopw [6, 7, 8] (fun vl vw iv wr => ∃ i : Nat, i ≤ 5 ∧ iv = .int .i64 (i : Int) ∧ Hid (Big w1 wr p i vl vw)) (fun _ _ iv _ => 5 - (intOf iv).toNat)
  case atStart => exact ⟨0, by omega, rfl, HBG⟩
  case round =>
    clear HBG
    obtain ⟨i, hi5, rfl, HBG⟩ := hrel
    by_cases hlt : i < 5
    · have hltI : (i : Int) < 5 := by omega
      go_upto_if 35 with fail
      go_cut [9] from 29 to 86 (fun v wc => wr = wc ∧ ∃ al nl cl l, v = .slice al nl cl ∧ Hid (∀ W, Below w1.heap.size w1 W → IsEn W (.slice al nl cl) l))
      case first =>
        by_cases h2 : i = 2
        · have h2b : ((i : Int) == 2) = true := by rw [h2]; rfl
          clear h2
          go_wp2
          go_meet
          exact ⟨rfl, ab, nb, cb, lb, rfl, HIB⟩
        · have h2b : ((i : Int) == 2) = false := by rw [beq_eq_false_iff_ne]; omega
          go_wp2
          go_meet
          exact ⟨rfl, aa, na, ca, la, rfl, HIA⟩
      obtain ⟨rfl, al, nl, cl, l, rfl, HIL⟩ := hcut
      obtain ⟨⟨us, ws, U, X, hLp⟩, ul, uw, us', ws', U', X', hKq⟩ := HBG.out
      obtain ⟨lla, llc, hvl⟩ := hLp.rl.shape
      obtain ⟨lwa, lwc, hvw⟩ := hLp.rw'.shape
      rw [hLp.lu] at hvl
      rw [hLp.lw] at hvw
      subst hvl hvw
      have hbr := hLp.bel
      have HLP := hide hLp
      have HKQ := hide hKq
      have HBR := hide hbr
      have HRE := hide (rencode_calls (unhide HIL wr hbr))
      obtain ⟨ck, hck⟩ : ∃ ck, chkL nbL l = ck := ⟨_, rfl⟩
      rw [hck] at HRE
      have HCK := hide hck
      have HOK := hide (unhide HIL wr hbr).ok
      clear hLp hKq hbr hck HBG
      go_wp2_with fail
      refine (unhide HRE).mono ?_
      rintro e w5 ⟨u5, rfl, ho5, hb5⟩
      obtain ⟨a5, n5, c5, hu5⟩ := ho5.shape
      subst hu5
      have HEN := hide (encode_calls (unhide HIL w5 (HBR.out.trans (hb5.mono HBR.out.size))))
      rw [HCK.out] at HEN
      have HI5 : Hid (∀ W, Below w5.heap.size w5 W → IsB W (.slice a5 n5 c5) (encR l)) := fun W hW => ho5.isB.below hW
      have HB5 := hide hb5
      clear HRE ho5 hb5
      go_wp2_with fail
      refine (unhide HEN).mono ?_
      rintro e w6 ⟨u6, rfl, ho6, hb6⟩
      obtain ⟨a6, n6, c6, hu6⟩ := ho6.shape
      subst hu6
      have HDE := hide (decode_calls (unhide HI5 w6 hb6))
      obtain ⟨D, hD⟩ : ∃ D, decL nbL (encR l) = D := ⟨_, rfl⟩
      rw [hD] at HDE
      have HDD := hide hD
      have HO6 := hide ho6
      have HB6 := hide hb6
      clear HEN ho6 hb6 hD
      go_wp2_with fail
      refine (unhide HDE).mono ?_
      rintro e w7 ⟨u7, rfl, ho7, hb7⟩
      obtain ⟨a7, c7, hu7⟩ := ho7.shape
      subst hu7
      obtain ⟨nd, hnd⟩ : ∃ nd, D.1.length = nd := ⟨_, rfl⟩
      have hndb : nd ≤ 10000 := by rw [← hnd, ← HDD.out]; exact dec_small HOK.out
      rw [hnd] at ho7 ⊢
      have HND := hide hnd
      have hb57 := HB6.out.trans (hb7.mono HB6.out.size)
      have hbr7 := HB5.out.trans (hb57.mono HB5.out.size)
      have hb17 := HBR.out.trans (hbr7.mono HBR.out.size)
      have HSB := hide (same_calls ((HO6.out.below hb7).isB) (unhide HI5 w7 hb57))
      have HO7 := hide ho7
      have HI7 : Hid (∀ W, Below w7.heap.size w7 W → IsEn W (.slice al nl cl) l) := fun W hW => unhide HIL W (hb17.trans (hW.mono hb17.size))
      have HB7 := hide hb7
      have HBR7 := hide hbr7
      have hqq : (ck == ck) = true := by simp
      obtain ⟨qd, hqd⟩ : ∃ qd, D.2 = qd := ⟨_, rfl⟩
      rw [hqd]
      have HQD := hide hqd
      clear HDE hnd hqd ho7 hb7 hb57 hbr7 hb17
      go_upto_region 16 with fail
      go_cut [74] from 29 to 86 (fun v wc => v = .bool false ∧ Hid (Below w7.heap.size w7 wc))
      case first =>
        by_cases hz : ck = 0
        · subst hz
          have hde : D = (l, 0) := by
            have : encR l = encL l := by unfold encR; rw [if_pos HCK.out]
            rw [← HDD.out, this, dec_enc nbL_le (fun e he => (HOK.out e he).ok) HCK.out]
          have hq0 : qd = 0 := by rw [← HQD.out, hde]
          subst hq0
          have HSE : Hid (∀ W, Below w7.heap.size w7 W → Calls Tryd.prog 10 #[.slice a7 nd c7, .slice al nl cl] W fun e w' => e = .returned (.bool true) ∧ Below W.heap.size W w') := fun W hW => by
            have h8 := esame_calls (HO7.out.below hW).isEn (unhide HI7 W hW)
            rw [decide_eq_true (by rw [hde])] at h8
            exact h8
          clear hde
          go_wp2_with (first
            | (go_at_call 9; refine (unhide HSB).mono ?_; rintro e w8 ⟨rfl, hw8⟩; have hb8 := below_same hw8; have HSE8 := hide (unhide HSE w8 hb8))
            | (go_at_call 10; refine (unhide HSE8).mono ?_; rintro e w9 ⟨rfl, hb9⟩))
          go_meet
          exact ⟨rfl, hb8.trans (hb9.mono hb8.size)⟩
        · have hzb : (ck == 0) = false := by simpa using hz
          go_wp2_with (go_at_call 9; refine (unhide HSB).mono ?_; rintro e w8 ⟨rfl, hw8⟩)
          go_meet
          exact ⟨rfl, below_same hw8⟩
      obtain ⟨rfl, HB8⟩ := hcut
      rename World => w8
      have hbr8 := HBR7.out.trans (HB8.out.mono HBR7.out.size)
      have hb68 := HB7.out.trans (HB8.out.mono HB7.out.size)
      have hw15 : w1.heap.size ≤ w5.heap.size := Nat.le_trans HBR.out.size HB5.out.size
      have hw16 : w1.heap.size ≤ w6.heap.size := Nat.le_trans hw15 HB6.out.size
      have hro5 : wr.heap.size ≤ w5.heap.size := HB5.out.size
      have hro6 : wr.heap.size ≤ w6.heap.size := Nat.le_trans hro5 HB6.out.size
      have HKP := hide (keep_calls (HKQ.out.below hbr8) ((HO6.out.below hb68).mono hw15) (fun k hk => fresh_own (S := wr.heap.size) (fun b hb => ((row_of8 (HKQ.out.rows k hk)).lt b hb).2) (fun b hb => Nat.le_trans hro5 ((row_of8 HO6.out).lt b hb).1)) (encR_small HOK.out) (by omega))
      have HLP8 := hide (HLP.out.below hbr8)
      have HM8 := hide ((HO7.out.below HB8.out).mono hw16)
      have HFR : Hid (∀ k, k < i → ((U k).ownBlock = none ∨ (U k).ownBlock ≠ (Value.slice a7 nd c7).ownBlock) ∧ ((Value.slice a7 nd c7).ownBlock = none ∨ (Value.slice a7 nd c7).ownBlock ≠ (U k).ownBlock)) := fun k hk => fresh_own (S := wr.heap.size) (fun b hb => ((HLP.out.rows k hk).lt b hb).2) (fun b hb => Nat.le_trans hro6 (HO7.out.lt b hb).1)
      clear HSB HI7 HO6 HO7 hbr8 hb68 HLP HKQ HI5 HB5 HB6 HB7 HBR7 hqq hw15 hw16 hro5 hro6
      go_upto_region 19 with (go_at_call 24; refine (unhide HKP).mono ?_; rintro e w9 ⟨⟨r9, rfl⟩, hKS⟩)
      obtain ⟨⟨ul9, uw9, uu9, hKq9⟩, hch9⟩ := hKS
      have HKQ9 := hide hKq9
      have HLP9 := hide (HLP8.out.ch hch9 tk0_e tk0_s)
      have HM9 := hide (ownE_ch HM8.out hch9 tk0_e)
      clear HKP hKq9 hch9 HLP8 HM8
      have hbl := lit_blw w9 (.cells #[.slice a7 nd c7] 22)
      have HLPa := hide (HLP9.out.below hbl)
      have HC9 := hide (cell_one_new w9 (.slice a7 nd c7) 22)
      have HMa := hide (HM9.out.below hbl)
      have HKQa := hide (HKQ9.out.below hbl)
      clear hbl HLP9 HM9 HKQ9
      go_upto_region 20 with (at_builtin; refine wpList_appLe rfl (.tmp 78) (.tmp 80) rfl rfl HLPa.out.rl rfl (unhide HC9 0 _ rfl) rfl (by rw [HLPa.out.lu]; omega) HLPa.out.bel.size ?_; intro v10 w10 hr10 hg10 hat10)
      obtain ⟨hLp10, hch10⟩ := HLPa.out.addL2 HMa.out HFR.out (by rw [HND.out]; exact hndb) hr10 hg10 hat10
      have HKQ10 := hide (HKQa.out.ch hch10 te_u8 te_s8 te_k)
      have HM10 : Hid (OwnE w10 w1.heap.size (.slice a7 nd c7) D.1) := ownE_ch HMa.out hch10 (by unfold TE; decide)
      have HLP10 := hide hLp10
      obtain ⟨a10, c10, hu10⟩ := hr10.shape
      rw [List.length_append, HLPa.out.lu, show [Value.slice a7 nd c7].length = 1 from rfl] at hu10
      subst hu10
      clear hLp10 hch10 hr10 hg10 hat10 HLPa HMa HKQa HC9
      have HIE10 := hide HM10.out.isEn
      have hs10 := HLP10.out.bel.size
      go_wp2_with (first
        | (at_builtin; refine wpList_appEn rfl (.const (.slice none 0 0)) (.tmp 83) rfl (v := .slice none 0 0) rfl (OwnE.nil w10 w10.heap.size) rfl HIE10.out (by rw [HND.out]; simp; omega) (Nat.le_refl _) ?_; intro v11 w11 ho11 hg11 hv11; have hb11 := below_app (Below.refl w10.heap.size w10) hg11 (Nat.le_refl _) hv11; rw [List.nil_append] at ho11; obtain ⟨a11, c11, hu11⟩ := ho11.shape; rw [HND.out] at hu11; subst hu11; have HB11 := hide hb11; have HO11 := hide (ho11.mono hs10); have HLP11 := hide (HLP10.out.below hb11); have HRW := hide (HLP11.out.below (lit_blw w11 (.cells #[.slice a11 nd c11] 22))).rw'; have HLW := hide HLP11.out.lw; have HC11 := hide (cell_one_new w11 (.slice a11 nd c11) 22); have HS11 : Hid (w1.heap.size ≤ (w11.alloc (.cells #[.slice a11 nd c11] 22)).heap.size) := (Nat.le_trans HLP11.out.bel.size (lit_blw _ _).size); clear ho11 hg11 hv11 hb11)
        | (at_builtin; refine wpList_appLe rfl (.tmp 82) (.tmp 85) rfl rfl HRW.out rfl (unhide HC11 0 _ rfl) rfl (by rw [HLW.out]; omega) HS11.out ?_; intro v12 w12 hr12 hg12 hat12))
      have hLp12 := HLP11.out.addW (u := .slice a11 nd c11) (by rw [upd_same]; exact HO11.out) (lit_blw w11 (.cells #[.slice a11 nd c11] 22)) hr12 hg12 hat12
      have hch12 : Ch w1.heap.size TE w10 w12 := (Ch.of_below HB11.out).trans ((Ch.of_below (lit_blw w11 _)).trans (Ch.of_owns HRW.out (Nat.le_refl _) hg12 rfl))
      have HF : Hid (Big w1 w12 p (i + 1) (.slice a10 (i + 1) c10) v12) := ⟨⟨_, _, _, _, hLp12⟩, _, _, _, _, _, _, HKQ10.out.ch hch12 te_u8 te_s8 te_k⟩
      clear hLp12 hch12 hr12 hg12 hat12 HLP10 HLP11 HKQ10 HM10 HIE10 HO11 HRW HC11 HS11 HB11 HLW
      go_roundw
      case rel => exact ⟨i + 1, by omega, by go_num, HF⟩
      case measure => simp [intOf]; omega
    · obtain rfl : i = 5 := by omega
      have hltI : ¬ ((5 : Nat) : Int) < 5 := by decide
      obtain ⟨⟨us, ws, U, X, hLp⟩, ul, uw, us', ws', U', X', hKq⟩ := HBG.out
      obtain ⟨lla, llc, hvl⟩ := hLp.rl.shape
      obtain ⟨lwa, lwc, hvw⟩ := hLp.rw'.shape
      rw [hLp.lu] at hvl
      rw [hLp.lw] at hvw
      subst hvl hvw
      obtain ⟨wz, hwz⟩ : ∃ wz, wz = wr := ⟨_, rfl⟩
      have HSM : Hid (∀ j, j < 5 → ∃ gl gw a1 n1 c1 a2 n2 c2, lla = some ⟨gl, 0, none⟩ ∧ lwa = some ⟨gw, 0, none⟩ ∧ 5 ≤ llc ∧ llc ≤ 9223372036854775807 ∧ 5 ≤ lwc ∧ lwc ≤ 9223372036854775807 ∧ (∀ W, Below wz.heap.size wz W → W.cell? ⟨gl, j, none⟩ = some (.slice a1 n1 c1) ∧ W.cell? ⟨gw, j, none⟩ = some (.slice a2 n2 c2)) ∧ ∀ W, Below wz.heap.size wz W → Calls Tryd.prog 10 #[.slice a1 n1 c1, .slice a2 n2 c2] W fun e w' => e = .returned (.bool true) ∧ Below wz.heap.size wz w') := fun j hj => by
        rw [hwz]
        obtain ⟨gl, lc', e1, p1, p2, _, _⟩ := hLp.rl.head (by rw [hLp.lu]; omega)
        obtain ⟨gw, wc', e2, q1, q2, _, _⟩ := hLp.rw'.head (by rw [hLp.lw]; omega)
        rw [hLp.lu] at p1
        rw [hLp.lw] at q1
        injection e1 with f1 f2 f3
        injection e2 with g1 g2 g3
        subst f1 f3 g1 g3
        obtain ⟨u, hu1, hu2⟩ := hLp.wants j hj
        have hr := hLp.rows j hj
        have he := hLp.each j hj
        obtain ⟨a1, c1, s1⟩ := hr.shape
        obtain ⟨a2, c2, s2⟩ := hu2.shape
        rw [s1] at hr he
        rw [s2] at hu1 hu2
        have k1 : wr.cell? ⟨gl, j, none⟩ = some (.slice a1 (X j).length c1) := (hLp.rl.cellAt (by rw [hLp.lu]; exact hj)).trans he
        have k2 : wr.cell? ⟨gw, j, none⟩ = some (.slice a2 (X j).length c2) := (hLp.rw'.cellAt (by rw [hLp.lw]; exact hj)).trans hu1
        refine ⟨gl, gw, a1, _, c1, a2, _, c2, rfl, rfl, p1, p2, q1, q2, fun W hW => ⟨(hW.cell (p := ⟨gl, j, none⟩) (World.block_lt_of_cell? wr _ k1)).trans k1, (hW.cell (p := ⟨gw, j, none⟩) (World.block_lt_of_cell? wr _ k2)).trans k2⟩, fun W hW => ?_⟩
        have h9 := esame_calls (hr.isEn.below hW) (hu2.isEn.below hW)
        rw [decide_eq_true rfl] at h9
        refine h9.mono ?_
        rintro e w' ⟨x1, x2⟩
        exact ⟨x1, hW.trans (x2.mono hW.size)⟩
      have HLZ : Hid (∀ W, Below wz.heap.size wz W → LpE w1 W 5 5 (.slice lla 5 llc) (.slice lwa 5 lwc) us ws U X) := fun W hW => hLp.below (by rw [← hwz]; exact hW)
      have HKZ : Hid (∀ W, Below wz.heap.size wz W → Kq w1 W p 5 ul uw us' ws' U' X') := fun W hW => hKq.below (by rw [← hwz]; exact hW)
      have HWZ : Hid (Below wz.heap.size wz wr) := by rw [hwz]; exact Below.refl _ _
      clear HBG hLp hKq hwz
      go_wp2_with fail
      go_loopw [16] (fun iv W => ∃ j : Nat, j ≤ 5 ∧ iv = .int .i64 (j : Int) ∧ Hid (Below wz.heap.size wz W)) (fun iv _ => 5 - (intOf iv).toNat)
      case atStart => exact ⟨0, by omega, rfl, HWZ⟩
      case round =>
        clear HWZ
        obtain ⟨j, hj5, rfl, HB⟩ := hrel
        by_cases hlt4 : j < 5
        · obtain ⟨gl, gw, a1, n1, c1, a2, n2, c2, rfl, rfl, p1, p2, q1, q2, hcl, hsm⟩ := unhide HSM j hlt4
          have HCL := hide hcl
          have HS4 := hide hsm
          have hltI4 : (j : Int) < 5 := by omega
          clear hcl hsm
          go_wp2_with fail
          focus (go_region_held3 (fun W => W.cell? ⟨gl, j, none⟩ = some (.slice a1 n1 c1) ∧ W.cell? ⟨gw, j, none⟩ = some (.slice a2 n2 c2))
            ((refine unhide HCL _ ?_; (repeat (first | assumption | exact HB.out | exact Below.refl _ _ | refine Below.drew ?_))))
            (first
              | (go_at_call 10; refine (unhide HS4 _ (by repeat (first | assumption | exact HB.out | exact Below.refl _ _ | refine Below.drew ?_))).mono ?_; rintro e w9 ⟨rfl, hb9⟩)))
          go_wp2
          go_roundw
          case rel => exact ⟨j + 1, by omega, by go_num, hb9⟩
          case measure => simp [intOf]; omega
        · have hltI4 : ¬ (j : Int) < 5 := by omega
          have HST := hide (kq_settle (unhide HKZ wr HB.out) (by omega) (by omega))
          have HLR := hide (unhide HLZ wr HB.out)
          clear HSM HLZ HKZ HB
          go_upto_region 28 with (first
            | (go_at_call 25; refine (unhide HST).mono ?_; rintro e w10 ⟨rfl, hch10⟩; have HL10 := hide (HLR.out.ch hch10 tt_e tt_s); have HMK := hide (markedE_lists (w := w1) ⟨_, _, _, _, HL10.out⟩ (by omega) (by omega)); clear hch10)
            | (go_at_call 26; refine (unhide HMK).mono ?_; rintro e w11 ⟨rfl, hb11⟩))
          have hb111 := HL10.out.bel.trans hb11
          have HRE := hide (rencode_calls (unhide HIA w11 hb111))
          obtain ⟨ck, hck⟩ : ∃ ck, chkL nbL la = ck := ⟨_, rfl⟩
          rw [hck] at HRE
          have HCK := hide hck
          have HB111 := hide hb111
          clear HST HMK HL10 HLR hb11 hb111 hck
          go_wp2_with fail
          refine (unhide HRE).mono ?_
          rintro e w12 ⟨u12, rfl, ho12, hb12⟩
          obtain ⟨a12, n12, c12, hu12⟩ := ho12.shape
          subst hu12
          have hb112 := HB111.out.trans (hb12.mono HB111.out.size)
          have HEN := hide (encode_calls (unhide HIA w12 hb112))
          rw [HCK.out] at HEN
          have HO12 := hide ho12
          have HB112 := hide hb112
          clear HRE ho12 hb12 hb112
          go_wp2_with fail
          refine (unhide HEN).mono ?_
          rintro e w13 ⟨u13, rfl, ho13, hb13⟩
          obtain ⟨a13, n13, c13, hu13⟩ := ho13.shape
          subst hu13
          have HSB := hide (same_calls ho13.isB (HO12.out.below hb13).isB)
          have HBE := hide (HB1.out.trans ((HB112.out.trans (hb13.mono HB112.out.size)).mono HB1.out.size))
          have hqq : (ck == ck) = true := by simp
          clear HEN ho13 hb13
          go_wp2_with (go_at_call 9; refine (unhide HSB).mono ?_; rintro e w14 ⟨rfl, hw14⟩)
          go_ret
          exact ⟨rfl, HBE.out.trans ((below_same hw14).mono HBE.out.size)⟩
end Go.Proofs.YtpklbchbldipnabDoor
