/- The program's termFits. -/
import Derived.Test.YtfhfobikbfbajaaGreatDoorTAY
import Derived.Test.YtfhfobikbfbajaaGreatDoorTAU
namespace Go.Proofs.YtfhfobikbfbajaaGreatDoor
open Go.RowKit Go.Maps

def zSh : List Value := [.string ByteArray.empty, .int .i64 0, .int .i64 0, .bool false, .bool false]
theorem infoShz2 : (Tryz.prog.info? 153).map (fun i => (i.zero, i.size, i.bytes)) = some (some (.agg zSh.toArray), 5, 40) := by kernel_rfl
theorem infoShs2 (k : Int) : (Tryz.prog.info? 153).map (·.size) = some (shQ k).length := by kernel_rfl
theorem shQ_one (k : Int) : ∀ u ∈ shQ k, u.oneCell' = true := by
  intro u hu
  simp only [shQ, List.mem_cons, List.not_mem_nil, or_false] at hu
  rcases hu with rfl | rfl | rfl | rfl | rfl <;> rfl
theorem sh_arr {w : World} {g : Nat} {k : Int} (h : Arr w g 153 (shQ k)) : w.cell? ⟨g, 0, none⟩ = some (.string (wds.getD k.toNat noText)) ∧ w.cell? ⟨g, 1, none⟩ = some (.int .i64 (txM k)) ∧ w.cell? ⟨g, 2, none⟩ = some (.int .i64 (agM k : Int)) ∧ w.cell? ⟨g, 3, none⟩ = some (.bool (decide (k = 4))) ∧ w.cell? ⟨g, 4, none⟩ = some (.bool (decide (k = 7))) :=
  ⟨h.cell 0, h.cell 1, h.cell 2, h.cell 3, h.cell 4⟩
set_option maxRecDepth 100000 in
set_option maxHeartbeats 4000000 in
theorem ptfits_calls : ∀ (d : Nat) (dp : Int), dp + d = 65 → 1 ≤ dp → ∀ (w : World) (t : Tm) (D : Nat) (u : Value), IsTr w anyB D t.args u → smT t → Pg w →
    Calls Tryz.prog 96 #[.agg (tmC t u).toArray, .int .i64 dp] w fun e w' => e = .returned (.bool (fitT nameB ptW d t)) ∧ Below w.heap.size w w' := by
  intro d
  induction d with
  | zero =>
    intro dp hd h1 w t D u ht hs hP
    have hdp : (64 : Int) < dp := by omega
    obtain ⟨a, c, hu, hlc, hmc⟩ := ht.shape
    obtain ⟨k, x, n, m, ag⟩ := t
    subst hu
    have HWI := hide (rwithin_calls k 1 15)
    have hf : fitT nameB ptW 0 ⟨k, x, n, m, ag⟩ = false := rfl
    rw [hf]
    clear hd h1 ht hs hP hf hlc hmc
    by_cases hk : 1 ≤ k ∧ k ≤ 15
    · have HWI2 : Hid (∀ W2 : World, Calls Tryz.prog 53 #[.int .i64 k, .int .i64 1, .int .i64 15] W2 fun e w' => e = .returned (.bool true) ∧ W2 = w') := hide (fun W2 => by have := HWI.out W2; rw [show (decide (1 ≤ k) && decide (k ≤ 15)) = true from by rw [← Bool.decide_and]; exact decide_eq_true hk] at this; exact this)
      clear hk
      go_enter Tryz.func96, Tryz.ntmps96
      go_wp2_with (first
        | (refine wpList_boxJ rfl 52 (.tmp 0) rfl (cs := (tmC ⟨k, x, n, m, ag⟩ (.slice a ag.length c))) rfl ?_; intro w2 hA2 hb2 hs2; have c0 := (tmC_arr hA2).1; have HA2 := hide hA2; have HB2 := hide hb2; clear hA2 hb2 hs2)
        | fail)
      refine (HWI2.out _).mono ?_
      rintro e w3 ⟨rfl, hw3⟩
      subst hw3
      go_wp2
      go_ret
      exact ⟨rfl, HB2.out⟩
    · have HWI2 : Hid (∀ W2 : World, Calls Tryz.prog 53 #[.int .i64 k, .int .i64 1, .int .i64 15] W2 fun e w' => e = .returned (.bool false) ∧ W2 = w') := hide (fun W2 => by have := HWI.out W2; rw [show (decide (1 ≤ k) && decide (k ≤ 15)) = false from by rw [← Bool.decide_and]; exact decide_eq_false hk] at this; exact this)
      clear hk
      go_enter Tryz.func96, Tryz.ntmps96
      go_wp2_with (first
        | (refine wpList_boxJ rfl 52 (.tmp 0) rfl (cs := (tmC ⟨k, x, n, m, ag⟩ (.slice a ag.length c))) rfl ?_; intro w2 hA2 hb2 hs2; have c0 := (tmC_arr hA2).1; have HA2 := hide hA2; have HB2 := hide hb2; clear hA2 hb2 hs2)
        | fail)
      refine (HWI2.out _).mono ?_
      rintro e w3 ⟨rfl, hw3⟩
      subst hw3
      go_wp2
      go_ret
      exact ⟨rfl, HB2.out⟩
  | succ d ih =>
    intro dp hd h1 w t D u ht hs hP
    have hdp : ¬ (64 : Int) < dp := by omega
    have hdd : decide ((64 : Int) < dp) = false := decide_eq_false hdp
    have hw1 : IntKind.i64.wrap (dp + 1) = dp + 1 := by rw [IntKind.wrap_i64]; omega
    obtain ⟨a, c, hu, hlc, hmc⟩ := ht.shape
    rw [smT_eq] at hs
    have HTX := hide (fun W2 (h : Mx W2) => ptext_calls t.text hs.1 t.kind W2 h)
    have HIH : Hid (∀ (w2 : World) (t2 : Tm) (D2 : Nat) (u2 : Value), IsTr w2 anyB D2 t2.args u2 → smT t2 → Pg w2 → Calls Tryz.prog 96 #[.agg (tmC t2 u2).toArray, .int .i64 (dp + 1)] w2 fun e w' => e = .returned (.bool (fitT nameB ptW d t2)) ∧ Below w2.heap.size w2 w') := hide (fun w2 t2 D2 u2 h2 h3 h4 => ih (dp + 1) (by omega) (by omega) w2 t2 D2 u2 h2 h3 h4)
    have HT := hide ht
    have HS := hide hs.2
    have HPG := hide hP
    rw [fitT_succ]
    have hfe : fit1 nameB ptW t = (decide (1 ≤ t.kind ∧ t.kind ≤ 15) && (txF nameB ptW t.kind t.text && (cntF t.kind t.args.length && nuF t.kind t.n t.m))) := rfl
    rw [hfe]
    obtain ⟨k, x, n, m, ag⟩ := t
    subst hu
    have HWI := hide (fun lo hi W2 => rwithin_calls k lo hi W2)
    have HWN := hide (fun hi W2 => rwithin_calls n 0 hi W2)
    have HWM := hide (fun hi W2 => rwithin_calls m 0 hi W2)
    have hmq : (ag.length : Int) ≤ 9223372036854775807 := by have : ag.length ≤ c := hlc; omega
    show Calls Tryz.prog 96 #[.agg (tmC ⟨k, x, n, m, ag⟩ (.slice a ag.length c)).toArray, .int .i64 dp] w fun e w' => e = .returned (.bool ((decide (1 ≤ k ∧ k ≤ 15) && (txF nameB ptW k x && (cntF k ag.length && nuF k n m))) && ag.all (fitT nameB ptW d))) ∧ Below w.heap.size w w'
    clear ih ht hs hP hd hfe hlc hmc
    by_cases hk : 1 ≤ k ∧ k ≤ 15
    · rw [decide_eq_true hk, Bool.true_and]
      obtain ⟨kn, rfl⟩ : ∃ kn : Nat, k = (kn : Int) := ⟨k.toNat, by omega⟩
      have HK := hide hk
      have hk15 : (kn : Int) < 16 := by omega
      obtain ⟨A, hA⟩ : ∃ A, A = agM (kn : Int) := ⟨_, rfl⟩
      obtain ⟨Mb, hM⟩ : ∃ b, b = decide ((kn : Int) = 4) := ⟨_, rfl⟩
      obtain ⟨Nb, hN⟩ : ∃ b, b = decide ((kn : Int) = 7) := ⟨_, rfl⟩
      have HCN : Hid (cntF (kn : Int) ag.length = (decide (ag.length = A) || (Mb && decide (A < ag.length)))) := hide (by rw [hA, hM]; exact cnt_sh)
      have HNU : Hid (nuF (kn : Int) n m = ((decide (0 ≤ n) && decide (n ≤ if Nb = true then 2147483647 else 0)) && (decide (0 ≤ m) && decide (m ≤ if Nb = true then 2147483647 else 0)))) := hide (by rw [hN]; have := nu_sh (k := (kn : Int)) (n := n) (m := m); rw [this]; by_cases h7 : (kn : Int) = 7 <;> simp [h7])
      have HSQ : Hid (shQ (kn : Int) = [.string (wds.getD (kn : Int).toNat noText), .int .i64 (txM (kn : Int)), .int .i64 (A : Int), .bool Mb, .bool Nb]) := hide (by rw [hA, hM, hN]; rfl)
      have HMN : Hid (Mb = true → Nb = false) := hide (fun e => by rw [hM] at e; have := of_decide_eq_true e; rw [hN]; exact decide_eq_false (by omega))
      obtain ⟨TX, hTX⟩ : ∃ b, b = txF nameB ptW (kn : Int) x := ⟨_, rfl⟩
      have HTX : Hid (∀ W2, Mx W2 → Calls Tryz.prog 130 #[.string x, .int .i64 (txM (kn : Int))] W2 fun e w' => e = .returned (.bool TX) ∧ Below W2.heap.size W2 w') := hide (fun W2 h => by rw [hTX]; exact HTX.out W2 h)
      rw [← hTX]
      have HWI2 : Hid (∀ W2 : World, Calls Tryz.prog 53 #[.int .i64 (kn : Int), .int .i64 1, .int .i64 15] W2 fun e w' => e = .returned (.bool true) ∧ W2 = w') := hide (fun W2 => by have := HWI.out 1 15 W2; rw [show (decide (1 ≤ (kn : Int)) && decide ((kn : Int) ≤ 15)) = true from by rw [← Bool.decide_and]; exact decide_eq_true hk] at this; exact this)
      clear hk hA hM hN hTX
      obtain ⟨r, hr⟩ : ∃ r, r = ((TX && (cntF (kn : Int) ag.length && nuF (kn : Int) n m)) && ag.all (fitT nameB ptW d)) := ⟨_, rfl⟩
      rw [← hr]
      have HR := hide hr
      clear hr
      go_enter Tryz.func96, Tryz.ntmps96
      go_wp2_with (first
        | (refine wpList_boxJ rfl 52 (.tmp 0) rfl (cs := (tmC ⟨(kn : Int), x, n, m, ag⟩ (.slice a ag.length c))) rfl ?_; intro w2 hA2 hb2 hs2; have c0 := (tmC_arr hA2).1; have HA2 := hide hA2; have HB2 := hide hb2; clear hA2 hb2 hs2)
        | fail)
      refine (HWI2.out _).mono ?_
      rintro e w3 ⟨rfl, hw3⟩
      subst hw3
      have HSR := hide (HPG.out.sh.below HB2.out kn (by have := HK.out.1; omega) (by have := HK.out.2; omega))
      go_wp2_with (first
        | (refine wpList_loadJ rfl 153 (.tmp 19) rfl 1 (kn * 5) rfl (shQ (kn : Int)) _ HSR.out Tryz.underlying153 rfl (infoShs2 _) ?_)
        | (refine wpList_allocJ rfl 153 rfl infoShz2 ?_)
        | (refine wpList_storeJ rfl (.tmp 5) (.tmp 20) 153 rfl rfl rfl (Arr.new w2 zSh 153) (infoShs2 _) rfl (shQ_one _) ?_; intro w4 hA4 hg4; have HA4 := hide hA4; have HB4 := hide (jbelow_grown (jalloc_below w2 (.cells zSh.toArray 153)) hg4 (by simp) (Nat.le_refl _)); clear hA4 hg4; have c1 := (tmC_arr (HA2.out.below HB4.out)).2.1; have s1 := (sh_arr HA4.out).2.1)
        | fail)
      refine (unhide HTX _ (HPG.out.mx.below (below_then HB2.out HB4.out))).mono ?_
      rintro e w5 ⟨rfl, hb5⟩
      have HA5 := hide ((HA2.out.below HB4.out).below hb5)
      have HS5 : Hid (Arr w5 w2.heap.size 153 [.string (wds.getD (kn : Int).toNat noText), .int .i64 (txM (kn : Int)), .int .i64 (A : Int), .bool Mb, .bool Nb]) := hide (by rw [← HSQ.out]; exact HA4.out.below hb5)
      have HB5 := hide (below_then (below_then HB2.out HB4.out) hb5)
      clear hb5 c0 c1 s1 HA4 HB4 HA2 HB2 HSR HTX HWI2 HWI
      cases TX with
      | false =>
        have HV : Hid (r = false) := hide (by rw [HR.out]; rfl)
        go_wp2
        go_ret
        exact ⟨by rw [HV.out]; rfl, HB5.out⟩
      | true =>
        by_cases h1 : ag.length < A
        · have hqi : (ag.length : Int) < (A : Int) := by omega
          have HV : Hid (r = false) := hide (by rw [HR.out, HCN.out, decide_eq_false (show ¬ ag.length = A by omega), decide_eq_false (show ¬ A < ag.length by omega), Bool.and_false]; simp)
          clear h1
          have c4 := (tmC_arr HA5.out).2.2.2.2
          have s2 : w5.cell? ⟨w2.heap.size, 2, none⟩ = some (.int .i64 (A : Int)) := HS5.out.cell 2
          go_wp2
          go_ret
          exact ⟨by rw [HV.out]; rfl, HB5.out⟩
        · by_cases h2 : A < ag.length
          · have hqi : ¬ (ag.length : Int) < (A : Int) := by omega
            have hqj : (A : Int) < (ag.length : Int) := by omega
            have hqd : decide ((ag.length : Int) < (A : Int)) = false := decide_eq_false hqi
            have c4 := (tmC_arr HA5.out).2.2.2.2
            have s2 : w5.cell? ⟨w2.heap.size, 2, none⟩ = some (.int .i64 (A : Int)) := HS5.out.cell 2
            cases Mb with
            | false =>
              have HV : Hid (r = false) := hide (by rw [HR.out, HCN.out, decide_eq_false (show ¬ ag.length = A by omega)]; simp)
              clear h1 h2
              have s3 : w5.cell? ⟨w2.heap.size, 3, none⟩ = some (.bool false) := HS5.out.cell 3
              go_wp2
              go_ret
              exact ⟨by rw [HV.out]; rfl, HB5.out⟩
            | true =>
              have HCT : Hid (cntF (kn : Int) ag.length = true) := hide (by rw [HCN.out, decide_eq_true (show A < ag.length by omega), Bool.and_true, Bool.or_true])
              obtain rfl := HMN.out rfl
              clear h1 h2
              have s3 : w5.cell? ⟨w2.heap.size, 3, none⟩ = some (.bool true) := HS5.out.cell 3
              have c2 := (tmC_arr HA5.out).2.2.1
              have s4 : w5.cell? ⟨w2.heap.size, 4, none⟩ = some (.bool false) := HS5.out.cell 4
              by_cases hn : 0 ≤ n ∧ n ≤ 0
              · by_cases hm : 0 ≤ m ∧ m ≤ 0
                · have HNT : Hid (nuF (kn : Int) n m = true) := hide (by rw [HNU.out, show (if false = true then (2147483647 : Int) else 0) = 0 from rfl, ← Bool.decide_and (0 ≤ n), ← Bool.decide_and (0 ≤ m), decide_eq_true hn, decide_eq_true hm]; rfl)
                  have HWn : Hid (∀ W2 : World, Calls Tryz.prog 53 #[.int .i64 n, .int .i64 0, .int .i64 0] W2 fun e w' => e = .returned (.bool true) ∧ W2 = w') := hide (fun W2 => by have := HWN.out 0 W2; rw [show (decide (0 ≤ n) && decide (n ≤ 0)) = true from by rw [← Bool.decide_and]; exact decide_eq_true hn] at this; exact this)
                  have HWm : Hid (∀ W2 : World, Calls Tryz.prog 53 #[.int .i64 m, .int .i64 0, .int .i64 0] W2 fun e w' => e = .returned (.bool true) ∧ W2 = w') := hide (fun W2 => by have := HWM.out 0 W2; rw [show (decide (0 ≤ m) && decide (m ≤ 0)) = true from by rw [← Bool.decide_and]; exact decide_eq_true hm] at this; exact this)
                  clear hn hm
                  have c3 := (tmC_arr HA5.out).2.2.2.1
                  go_wp2_with fail
                  refine (HWn.out _).mono ?_
                  rintro e xn ⟨rfl, hwn⟩
                  subst hwn
                  go_wp2_with fail
                  refine (HWm.out _).mono ?_
                  rintro e xm ⟨rfl, hwm⟩
                  subst hwm
                  go_wp2_with fail
                  go_loopw [65] (fun iv wr => ∃ j : Nat, iv = .int .i64 (j : Int) ∧ j ≤ ag.length ∧ Hid (Below w.heap.size w wr ∧ (ag.take j).all (fitT nameB ptW d) = true)) (fun iv _ => ag.length - (intOf iv).toNat)
                  case atStart => exact ⟨0, rfl, Nat.zero_le _, HB5.out, rfl⟩
                  case round =>
                    obtain ⟨j, rfl, hjq, HJ⟩ := hrel
                    by_cases hlt : j < ag.length
                    · have hlti : (j : Int) < (ag.length : Int) := by omega
                      obtain ⟨b, o, c', e0, u2, hv, hD, hr, hi⟩ := HT.out.at hlt
                      cases hv
                      have hrr := rangeAt_below hr HJ.out.1
                      have hone := hi.one
                      have HIC := hide (fun W2 (h : Below w.heap.size w W2) => HIH.out W2 (ag.getD j .nul) e0 u2 (hi.below h) (HS.out _ (getT hlt)) (HPG.out.below h))
                      have HAL := hide (all_take (f := fitT nameB ptW d) hlt)
                      have hwj : IntKind.i64.wrap ((j : Int) + 1) = ((j + 1 : Nat) : Int) := by rw [IntKind.wrap_i64]; omega
                      have HAF := hide (all_false (l := ag) (f := fitT nameB ptW d) (i := j + 1))
                      obtain ⟨T2, hT2⟩ : ∃ t2, t2 = ag.getD j .nul := ⟨_, rfl⟩
                      rw [← hT2] at hrr HIC HAL
                      clear hr hi hT2 hD
                      go_wp2_with (first
                        | (refine wpList_loadJ rfl 52 (.tmp 67) rfl b (o + j * 5) rfl (tmC T2 u2) _ hrr Tryz.underlying52 rfl (infoTms _ _) ?_)
                        | (refine wpList_allocJ rfl 52 rfl infoTmz ?_)
                        | (refine wpList_storeJ rfl (.tmp 8) (.tmp 68) 52 rfl rfl rfl (Arr.new wr zTm 52) (infoTms _ _) rfl (tmC_one T2 hone) ?_; intro w6 hA6 hg6; have HA6 := hide hA6; have HB6 := hide (below_then HJ.out.1 (jbelow_grown (jalloc_below wr (.cells zTm.toArray 52)) hg6 (by simp) (Nat.le_refl _))); clear hA6 hg6)
                        | (refine wpList_loadJ rfl 52 (.tmp 8) rfl wr.heap.size 0 rfl (tmC T2 u2) _ HA6.out.rangeJ Tryz.underlying52 rfl (infoTms _ _) ?_)
                        | fail)
                      refine (HIC.out w6 HB6.out).mono ?_
                      rintro e w7 ⟨rfl, hb7⟩
                      have HB7 := hide (HB6.out.trans (hb7.mono HB6.out.size))
                      obtain ⟨fb, hfb⟩ : ∃ b, b = fitT nameB ptW d T2 := ⟨_, rfl⟩
                      rw [← hfb] at HAL
                      rw [← hfb]
                      clear hb7 hfb hrr HIC hone
                      cases fb with
                      | true =>
                        go_wp2
                        go_roundw
                        case rel => exact ⟨j + 1, by go_num, by omega, HB7.out, by rw [HAL.out, HJ.out.2]; rfl⟩
                        case measure => simp [intOf]; omega
                      | false =>
                        have HV : Hid (r = false) := hide (by rw [HR.out, HAF.out (by rw [HAL.out, Bool.and_false]), Bool.and_false])
                        go_wp2
                        go_ret
                        exact ⟨by rw [HV.out]; rfl, HB7.out⟩
                    · have hlti : ¬ (j : Int) < (ag.length : Int) := by omega
                      have hltd : decide ((j : Int) < (ag.length : Int)) = false := decide_eq_false hlti
                      have HV : Hid (r = true) := hide (by rw [HR.out, HCT.out, HNT.out]; have := HJ.out.2; rw [show j = ag.length by omega, List.take_length] at this; rw [this]; rfl)
                      go_wp2
                      go_ret
                      exact ⟨by rw [HV.out]; rfl, HJ.out.1⟩
                · have HV : Hid (r = false) := hide (by rw [HR.out, HNU.out, show (if false = true then (2147483647 : Int) else 0) = 0 from rfl, ← Bool.decide_and (0 ≤ m), decide_eq_false hm, Bool.and_false, Bool.and_false, Bool.and_false]; rfl)
                  have HWn : Hid (∀ W2 : World, Calls Tryz.prog 53 #[.int .i64 n, .int .i64 0, .int .i64 0] W2 fun e w' => e = .returned (.bool true) ∧ W2 = w') := hide (fun W2 => by have := HWN.out 0 W2; rw [show (decide (0 ≤ n) && decide (n ≤ 0)) = true from by rw [← Bool.decide_and]; exact decide_eq_true hn] at this; exact this)
                  have HWm : Hid (∀ W2 : World, Calls Tryz.prog 53 #[.int .i64 m, .int .i64 0, .int .i64 0] W2 fun e w' => e = .returned (.bool false) ∧ W2 = w') := hide (fun W2 => by have := HWM.out 0 W2; rw [show (decide (0 ≤ m) && decide (m ≤ 0)) = false from by rw [← Bool.decide_and]; exact decide_eq_false hm] at this; exact this)
                  clear hn hm
                  have c3 := (tmC_arr HA5.out).2.2.2.1
                  go_wp2_with fail
                  refine (HWn.out _).mono ?_
                  rintro e xn ⟨rfl, hwn⟩
                  subst hwn
                  go_wp2_with fail
                  refine (HWm.out _).mono ?_
                  rintro e xm ⟨rfl, hwm⟩
                  subst hwm
                  go_wp2
                  go_ret
                  exact ⟨by rw [HV.out]; rfl, HB5.out⟩
              · have HV : Hid (r = false) := hide (by rw [HR.out, HNU.out, show (if false = true then (2147483647 : Int) else 0) = 0 from rfl, ← Bool.decide_and (0 ≤ n), decide_eq_false hn, Bool.false_and, Bool.and_false, Bool.and_false]; rfl)
                have HWn : Hid (∀ W2 : World, Calls Tryz.prog 53 #[.int .i64 n, .int .i64 0, .int .i64 0] W2 fun e w' => e = .returned (.bool false) ∧ W2 = w') := hide (fun W2 => by have := HWN.out 0 W2; rw [show (decide (0 ≤ n) && decide (n ≤ 0)) = false from by rw [← Bool.decide_and]; exact decide_eq_false hn] at this; exact this)
                clear hn
                go_wp2_with fail
                refine (HWn.out _).mono ?_
                rintro e xn ⟨rfl, hwn⟩
                subst hwn
                go_wp2
                go_ret
                exact ⟨by rw [HV.out]; rfl, HB5.out⟩
          · have hqA : (ag.length : Int) = (A : Int) := by omega
            have hqi : ¬ (ag.length : Int) < (A : Int) := by omega
            have hqj : ¬ (A : Int) < (ag.length : Int) := by omega
            have hqd : decide ((ag.length : Int) < (A : Int)) = false := decide_eq_false hqi
            have hqe : decide ((A : Int) < (ag.length : Int)) = false := decide_eq_false hqj
            have HCT : Hid (cntF (kn : Int) ag.length = true) := hide (by rw [HCN.out, decide_eq_true (show ag.length = A by omega)]; rfl)
            clear hqA h1 h2
            have c4 := (tmC_arr HA5.out).2.2.2.2
            have s2 : w5.cell? ⟨w2.heap.size, 2, none⟩ = some (.int .i64 (A : Int)) := HS5.out.cell 2
            cases Nb with
            | true =>
              have c2 := (tmC_arr HA5.out).2.2.1
              have s4 : w5.cell? ⟨w2.heap.size, 4, none⟩ = some (.bool true) := HS5.out.cell 4
              by_cases hn : 0 ≤ n ∧ n ≤ 2147483647
              · by_cases hm : 0 ≤ m ∧ m ≤ 2147483647
                · have HNT : Hid (nuF (kn : Int) n m = true) := hide (by rw [HNU.out, show (if true = true then (2147483647 : Int) else 0) = 2147483647 from rfl, ← Bool.decide_and (0 ≤ n), ← Bool.decide_and (0 ≤ m), decide_eq_true hn, decide_eq_true hm]; rfl)
                  have HWn : Hid (∀ W2 : World, Calls Tryz.prog 53 #[.int .i64 n, .int .i64 0, .int .i64 2147483647] W2 fun e w' => e = .returned (.bool true) ∧ W2 = w') := hide (fun W2 => by have := HWN.out 2147483647 W2; rw [show (decide (0 ≤ n) && decide (n ≤ 2147483647)) = true from by rw [← Bool.decide_and]; exact decide_eq_true hn] at this; exact this)
                  have HWm : Hid (∀ W2 : World, Calls Tryz.prog 53 #[.int .i64 m, .int .i64 0, .int .i64 2147483647] W2 fun e w' => e = .returned (.bool true) ∧ W2 = w') := hide (fun W2 => by have := HWM.out 2147483647 W2; rw [show (decide (0 ≤ m) && decide (m ≤ 2147483647)) = true from by rw [← Bool.decide_and]; exact decide_eq_true hm] at this; exact this)
                  clear hn hm
                  have c3 := (tmC_arr HA5.out).2.2.2.1
                  go_wp2_with fail
                  refine (HWn.out _).mono ?_
                  rintro e xn ⟨rfl, hwn⟩
                  subst hwn
                  go_wp2_with fail
                  refine (HWm.out _).mono ?_
                  rintro e xm ⟨rfl, hwm⟩
                  subst hwm
                  go_wp2_with fail
                  go_loopw [65] (fun iv wr => ∃ j : Nat, iv = .int .i64 (j : Int) ∧ j ≤ ag.length ∧ Hid (Below w.heap.size w wr ∧ (ag.take j).all (fitT nameB ptW d) = true)) (fun iv _ => ag.length - (intOf iv).toNat)
                  case atStart => exact ⟨0, rfl, Nat.zero_le _, HB5.out, rfl⟩
                  case round =>
                    obtain ⟨j, rfl, hjq, HJ⟩ := hrel
                    by_cases hlt : j < ag.length
                    · have hlti : (j : Int) < (ag.length : Int) := by omega
                      obtain ⟨b, o, c', e0, u2, hv, hD, hr, hi⟩ := HT.out.at hlt
                      cases hv
                      have hrr := rangeAt_below hr HJ.out.1
                      have hone := hi.one
                      have HIC := hide (fun W2 (h : Below w.heap.size w W2) => HIH.out W2 (ag.getD j .nul) e0 u2 (hi.below h) (HS.out _ (getT hlt)) (HPG.out.below h))
                      have HAL := hide (all_take (f := fitT nameB ptW d) hlt)
                      have hwj : IntKind.i64.wrap ((j : Int) + 1) = ((j + 1 : Nat) : Int) := by rw [IntKind.wrap_i64]; omega
                      have HAF := hide (all_false (l := ag) (f := fitT nameB ptW d) (i := j + 1))
                      obtain ⟨T2, hT2⟩ : ∃ t2, t2 = ag.getD j .nul := ⟨_, rfl⟩
                      rw [← hT2] at hrr HIC HAL
                      clear hr hi hT2 hD
                      go_wp2_with (first
                        | (refine wpList_loadJ rfl 52 (.tmp 67) rfl b (o + j * 5) rfl (tmC T2 u2) _ hrr Tryz.underlying52 rfl (infoTms _ _) ?_)
                        | (refine wpList_allocJ rfl 52 rfl infoTmz ?_)
                        | (refine wpList_storeJ rfl (.tmp 8) (.tmp 68) 52 rfl rfl rfl (Arr.new wr zTm 52) (infoTms _ _) rfl (tmC_one T2 hone) ?_; intro w6 hA6 hg6; have HA6 := hide hA6; have HB6 := hide (below_then HJ.out.1 (jbelow_grown (jalloc_below wr (.cells zTm.toArray 52)) hg6 (by simp) (Nat.le_refl _))); clear hA6 hg6)
                        | (refine wpList_loadJ rfl 52 (.tmp 8) rfl wr.heap.size 0 rfl (tmC T2 u2) _ HA6.out.rangeJ Tryz.underlying52 rfl (infoTms _ _) ?_)
                        | fail)
                      refine (HIC.out w6 HB6.out).mono ?_
                      rintro e w7 ⟨rfl, hb7⟩
                      have HB7 := hide (HB6.out.trans (hb7.mono HB6.out.size))
                      obtain ⟨fb, hfb⟩ : ∃ b, b = fitT nameB ptW d T2 := ⟨_, rfl⟩
                      rw [← hfb] at HAL
                      rw [← hfb]
                      clear hb7 hfb hrr HIC hone
                      cases fb with
                      | true =>
                        go_wp2
                        go_roundw
                        case rel => exact ⟨j + 1, by go_num, by omega, HB7.out, by rw [HAL.out, HJ.out.2]; rfl⟩
                        case measure => simp [intOf]; omega
                      | false =>
                        have HV : Hid (r = false) := hide (by rw [HR.out, HAF.out (by rw [HAL.out, Bool.and_false]), Bool.and_false])
                        go_wp2
                        go_ret
                        exact ⟨by rw [HV.out]; rfl, HB7.out⟩
                    · have hlti : ¬ (j : Int) < (ag.length : Int) := by omega
                      have hltd : decide ((j : Int) < (ag.length : Int)) = false := decide_eq_false hlti
                      have HV : Hid (r = true) := hide (by rw [HR.out, HCT.out, HNT.out]; have := HJ.out.2; rw [show j = ag.length by omega, List.take_length] at this; rw [this]; rfl)
                      go_wp2
                      go_ret
                      exact ⟨by rw [HV.out]; rfl, HJ.out.1⟩
                · have HV : Hid (r = false) := hide (by rw [HR.out, HNU.out, show (if true = true then (2147483647 : Int) else 0) = 2147483647 from rfl, ← Bool.decide_and (0 ≤ m), decide_eq_false hm, Bool.and_false, Bool.and_false, Bool.and_false]; rfl)
                  have HWn : Hid (∀ W2 : World, Calls Tryz.prog 53 #[.int .i64 n, .int .i64 0, .int .i64 2147483647] W2 fun e w' => e = .returned (.bool true) ∧ W2 = w') := hide (fun W2 => by have := HWN.out 2147483647 W2; rw [show (decide (0 ≤ n) && decide (n ≤ 2147483647)) = true from by rw [← Bool.decide_and]; exact decide_eq_true hn] at this; exact this)
                  have HWm : Hid (∀ W2 : World, Calls Tryz.prog 53 #[.int .i64 m, .int .i64 0, .int .i64 2147483647] W2 fun e w' => e = .returned (.bool false) ∧ W2 = w') := hide (fun W2 => by have := HWM.out 2147483647 W2; rw [show (decide (0 ≤ m) && decide (m ≤ 2147483647)) = false from by rw [← Bool.decide_and]; exact decide_eq_false hm] at this; exact this)
                  clear hn hm
                  have c3 := (tmC_arr HA5.out).2.2.2.1
                  go_wp2_with fail
                  refine (HWn.out _).mono ?_
                  rintro e xn ⟨rfl, hwn⟩
                  subst hwn
                  go_wp2_with fail
                  refine (HWm.out _).mono ?_
                  rintro e xm ⟨rfl, hwm⟩
                  subst hwm
                  go_wp2
                  go_ret
                  exact ⟨by rw [HV.out]; rfl, HB5.out⟩
              · have HV : Hid (r = false) := hide (by rw [HR.out, HNU.out, show (if true = true then (2147483647 : Int) else 0) = 2147483647 from rfl, ← Bool.decide_and (0 ≤ n), decide_eq_false hn, Bool.false_and, Bool.and_false, Bool.and_false]; rfl)
                have HWn : Hid (∀ W2 : World, Calls Tryz.prog 53 #[.int .i64 n, .int .i64 0, .int .i64 2147483647] W2 fun e w' => e = .returned (.bool false) ∧ W2 = w') := hide (fun W2 => by have := HWN.out 2147483647 W2; rw [show (decide (0 ≤ n) && decide (n ≤ 2147483647)) = false from by rw [← Bool.decide_and]; exact decide_eq_false hn] at this; exact this)
                clear hn
                go_wp2_with fail
                refine (HWn.out _).mono ?_
                rintro e xn ⟨rfl, hwn⟩
                subst hwn
                go_wp2
                go_ret
                exact ⟨by rw [HV.out]; rfl, HB5.out⟩
            | false =>
              have c2 := (tmC_arr HA5.out).2.2.1
              have s4 : w5.cell? ⟨w2.heap.size, 4, none⟩ = some (.bool false) := HS5.out.cell 4
              by_cases hn : 0 ≤ n ∧ n ≤ 0
              · by_cases hm : 0 ≤ m ∧ m ≤ 0
                · have HNT : Hid (nuF (kn : Int) n m = true) := hide (by rw [HNU.out, show (if false = true then (2147483647 : Int) else 0) = 0 from rfl, ← Bool.decide_and (0 ≤ n), ← Bool.decide_and (0 ≤ m), decide_eq_true hn, decide_eq_true hm]; rfl)
                  have HWn : Hid (∀ W2 : World, Calls Tryz.prog 53 #[.int .i64 n, .int .i64 0, .int .i64 0] W2 fun e w' => e = .returned (.bool true) ∧ W2 = w') := hide (fun W2 => by have := HWN.out 0 W2; rw [show (decide (0 ≤ n) && decide (n ≤ 0)) = true from by rw [← Bool.decide_and]; exact decide_eq_true hn] at this; exact this)
                  have HWm : Hid (∀ W2 : World, Calls Tryz.prog 53 #[.int .i64 m, .int .i64 0, .int .i64 0] W2 fun e w' => e = .returned (.bool true) ∧ W2 = w') := hide (fun W2 => by have := HWM.out 0 W2; rw [show (decide (0 ≤ m) && decide (m ≤ 0)) = true from by rw [← Bool.decide_and]; exact decide_eq_true hm] at this; exact this)
                  clear hn hm
                  have c3 := (tmC_arr HA5.out).2.2.2.1
                  go_wp2_with fail
                  refine (HWn.out _).mono ?_
                  rintro e xn ⟨rfl, hwn⟩
                  subst hwn
                  go_wp2_with fail
                  refine (HWm.out _).mono ?_
                  rintro e xm ⟨rfl, hwm⟩
                  subst hwm
                  go_wp2_with fail
                  go_loopw [65] (fun iv wr => ∃ j : Nat, iv = .int .i64 (j : Int) ∧ j ≤ ag.length ∧ Hid (Below w.heap.size w wr ∧ (ag.take j).all (fitT nameB ptW d) = true)) (fun iv _ => ag.length - (intOf iv).toNat)
                  case atStart => exact ⟨0, rfl, Nat.zero_le _, HB5.out, rfl⟩
                  case round =>
                    obtain ⟨j, rfl, hjq, HJ⟩ := hrel
                    by_cases hlt : j < ag.length
                    · have hlti : (j : Int) < (ag.length : Int) := by omega
                      obtain ⟨b, o, c', e0, u2, hv, hD, hr, hi⟩ := HT.out.at hlt
                      cases hv
                      have hrr := rangeAt_below hr HJ.out.1
                      have hone := hi.one
                      have HIC := hide (fun W2 (h : Below w.heap.size w W2) => HIH.out W2 (ag.getD j .nul) e0 u2 (hi.below h) (HS.out _ (getT hlt)) (HPG.out.below h))
                      have HAL := hide (all_take (f := fitT nameB ptW d) hlt)
                      have hwj : IntKind.i64.wrap ((j : Int) + 1) = ((j + 1 : Nat) : Int) := by rw [IntKind.wrap_i64]; omega
                      have HAF := hide (all_false (l := ag) (f := fitT nameB ptW d) (i := j + 1))
                      obtain ⟨T2, hT2⟩ : ∃ t2, t2 = ag.getD j .nul := ⟨_, rfl⟩
                      rw [← hT2] at hrr HIC HAL
                      clear hr hi hT2 hD
                      go_wp2_with (first
                        | (refine wpList_loadJ rfl 52 (.tmp 67) rfl b (o + j * 5) rfl (tmC T2 u2) _ hrr Tryz.underlying52 rfl (infoTms _ _) ?_)
                        | (refine wpList_allocJ rfl 52 rfl infoTmz ?_)
                        | (refine wpList_storeJ rfl (.tmp 8) (.tmp 68) 52 rfl rfl rfl (Arr.new wr zTm 52) (infoTms _ _) rfl (tmC_one T2 hone) ?_; intro w6 hA6 hg6; have HA6 := hide hA6; have HB6 := hide (below_then HJ.out.1 (jbelow_grown (jalloc_below wr (.cells zTm.toArray 52)) hg6 (by simp) (Nat.le_refl _))); clear hA6 hg6)
                        | (refine wpList_loadJ rfl 52 (.tmp 8) rfl wr.heap.size 0 rfl (tmC T2 u2) _ HA6.out.rangeJ Tryz.underlying52 rfl (infoTms _ _) ?_)
                        | fail)
                      refine (HIC.out w6 HB6.out).mono ?_
                      rintro e w7 ⟨rfl, hb7⟩
                      have HB7 := hide (HB6.out.trans (hb7.mono HB6.out.size))
                      obtain ⟨fb, hfb⟩ : ∃ b, b = fitT nameB ptW d T2 := ⟨_, rfl⟩
                      rw [← hfb] at HAL
                      rw [← hfb]
                      clear hb7 hfb hrr HIC hone
                      cases fb with
                      | true =>
                        go_wp2
                        go_roundw
                        case rel => exact ⟨j + 1, by go_num, by omega, HB7.out, by rw [HAL.out, HJ.out.2]; rfl⟩
                        case measure => simp [intOf]; omega
                      | false =>
                        have HV : Hid (r = false) := hide (by rw [HR.out, HAF.out (by rw [HAL.out, Bool.and_false]), Bool.and_false])
                        go_wp2
                        go_ret
                        exact ⟨by rw [HV.out]; rfl, HB7.out⟩
                    · have hlti : ¬ (j : Int) < (ag.length : Int) := by omega
                      have hltd : decide ((j : Int) < (ag.length : Int)) = false := decide_eq_false hlti
                      have HV : Hid (r = true) := hide (by rw [HR.out, HCT.out, HNT.out]; have := HJ.out.2; rw [show j = ag.length by omega, List.take_length] at this; rw [this]; rfl)
                      go_wp2
                      go_ret
                      exact ⟨by rw [HV.out]; rfl, HJ.out.1⟩
                · have HV : Hid (r = false) := hide (by rw [HR.out, HNU.out, show (if false = true then (2147483647 : Int) else 0) = 0 from rfl, ← Bool.decide_and (0 ≤ m), decide_eq_false hm, Bool.and_false, Bool.and_false, Bool.and_false]; rfl)
                  have HWn : Hid (∀ W2 : World, Calls Tryz.prog 53 #[.int .i64 n, .int .i64 0, .int .i64 0] W2 fun e w' => e = .returned (.bool true) ∧ W2 = w') := hide (fun W2 => by have := HWN.out 0 W2; rw [show (decide (0 ≤ n) && decide (n ≤ 0)) = true from by rw [← Bool.decide_and]; exact decide_eq_true hn] at this; exact this)
                  have HWm : Hid (∀ W2 : World, Calls Tryz.prog 53 #[.int .i64 m, .int .i64 0, .int .i64 0] W2 fun e w' => e = .returned (.bool false) ∧ W2 = w') := hide (fun W2 => by have := HWM.out 0 W2; rw [show (decide (0 ≤ m) && decide (m ≤ 0)) = false from by rw [← Bool.decide_and]; exact decide_eq_false hm] at this; exact this)
                  clear hn hm
                  have c3 := (tmC_arr HA5.out).2.2.2.1
                  go_wp2_with fail
                  refine (HWn.out _).mono ?_
                  rintro e xn ⟨rfl, hwn⟩
                  subst hwn
                  go_wp2_with fail
                  refine (HWm.out _).mono ?_
                  rintro e xm ⟨rfl, hwm⟩
                  subst hwm
                  go_wp2
                  go_ret
                  exact ⟨by rw [HV.out]; rfl, HB5.out⟩
              · have HV : Hid (r = false) := hide (by rw [HR.out, HNU.out, show (if false = true then (2147483647 : Int) else 0) = 0 from rfl, ← Bool.decide_and (0 ≤ n), decide_eq_false hn, Bool.false_and, Bool.and_false, Bool.and_false]; rfl)
                have HWn : Hid (∀ W2 : World, Calls Tryz.prog 53 #[.int .i64 n, .int .i64 0, .int .i64 0] W2 fun e w' => e = .returned (.bool false) ∧ W2 = w') := hide (fun W2 => by have := HWN.out 0 W2; rw [show (decide (0 ≤ n) && decide (n ≤ 0)) = false from by rw [← Bool.decide_and]; exact decide_eq_false hn] at this; exact this)
                clear hn
                go_wp2_with fail
                refine (HWn.out _).mono ?_
                rintro e xn ⟨rfl, hwn⟩
                subst hwn
                go_wp2
                go_ret
                exact ⟨by rw [HV.out]; rfl, HB5.out⟩
    · rw [decide_eq_false hk, Bool.false_and, Bool.false_and]
      have HWI2 : Hid (∀ W2 : World, Calls Tryz.prog 53 #[.int .i64 k, .int .i64 1, .int .i64 15] W2 fun e w' => e = .returned (.bool false) ∧ W2 = w') := hide (fun W2 => by have := HWI.out 1 15 W2; rw [show (decide (1 ≤ k) && decide (k ≤ 15)) = false from by rw [← Bool.decide_and]; exact decide_eq_false hk] at this; exact this)
      clear hk
      go_enter Tryz.func96, Tryz.ntmps96
      go_wp2_with (first
        | (refine wpList_boxJ rfl 52 (.tmp 0) rfl (cs := (tmC ⟨k, x, n, m, ag⟩ (.slice a ag.length c))) rfl ?_; intro w2 hA2 hb2 hs2; have c0 := (tmC_arr hA2).1; have HA2 := hide hA2; have HB2 := hide hb2; clear hA2 hb2 hs2)
        | fail)
      refine (HWI2.out _).mono ?_
      rintro e w3 ⟨rfl, hw3⟩
      subst hw3
      go_wp2
      go_ret
      exact ⟨rfl, HB2.out⟩
end Go.Proofs.YtfhfobikbfbajaaGreatDoor
