/- The document's written: a term behind other bytes. A row of bytes and a row of texts that both grow. -/
import Derived.Test.YtfhfobikbfbajaaGreatDoorTAT
import Derived.Test.YtfhfobikbfbajaaGreatDoorTAN
import Derived.Test.YtfhfobikbfbajaaGreatDoorTAS
import Derived.Test.YtfhfobikbfbajaaGreatDoorTAO
namespace Go.Proofs.YtfhfobikbfbajaaGreatDoor
open Go.RowKit Go.Maps

/-- What a term's writing leaves. -/
def WrP (w W0 : World) (B : Bool) (l : List UInt8) (bs : List UInt8) (n : Nat) (e : Ending) (W' : World) : Prop := ∃ v' l', e = .returned (.tuple #[v', .bool B]) ∧ Hid (Bw w W0 W' v' l' ∧ (B = true → l' = l ++ bs) ∧ l'.length ≤ l.length + n)
/-- No text of it is too long. -/
def smT : Tm → Prop
  | ⟨_, x, _, _, ag⟩ => x.size ≤ 2000000 ∧ ∀ a ∈ ag, smT a
theorem smT_eq (t : Tm) : smT t = (t.text.size ≤ 2000000 ∧ ∀ a ∈ t.args, smT a) := by
  cases t; rw [smT]
theorem IsTr.at {W : World} {F : Nat → Prop} {d : Nat} {ts : List Tm} {v : Value} (h : IsTr W F d ts v) {j : Nat} (hj : j < ts.length) : ∃ b o c e u, v = .slice (some ⟨b, o, none⟩) ts.length c ∧ d = e + 1 ∧ W.rangeAt b (o + j * 5) (tmC (ts.getD j .nul) u) ∧ IsTr W F e (ts.getD j .nul).args u := by
  cases d with
  | zero => obtain ⟨rfl, _⟩ := h; simp at hj
  | succ d =>
    obtain ⟨a, c, rfl, _, _, _, h4⟩ := h
    obtain ⟨b, o, rfl, _, _, he⟩ := h4 (by omega)
    obtain ⟨u, h5, h6⟩ := he j hj
    exact ⟨b, o, c, d, u, rfl, rfl, h5, h6⟩
theorem getT {l : List Tm} {i : Nat} (h : i < l.length) : l.getD i .nul ∈ l := by
  rw [List.getD_eq_getElem?_getD, List.getElem?_eq_getElem h]
  exact List.getElem_mem h
theorem all_take {l : List Tm} {f : Tm → Bool} {i : Nat} (h : i < l.length) : (l.take (i + 1)).all f = ((l.take i).all f && f (l.getD i .nul)) := by
  rw [List.take_succ_eq_append_getElem h, List.all_append, List.getD_eq_getElem?_getD, List.getElem?_eq_getElem h]
  simp
theorem all_false {l : List Tm} {f : Tm → Bool} {i : Nat} (h : (l.take i).all f = false) : l.all f = false := by
  cases e : l.all f with
  | false => rfl
  | true =>
    rw [List.all_eq_true] at e
    have : (l.take i).all f = true := List.all_eq_true.2 fun x hx => e x (List.mem_of_mem_take hx)
    rw [this] at h; cases h
set_option maxRecDepth 100000 in
set_option maxHeartbeats 4000000 in
theorem dwritten_calls : ∀ (d : Nat) (dp : Int), dp + d = 65 → 1 ≤ dp → ∀ (w : World) (t : Tm) (D : Nat) (u : Value), IsTr w anyB D t.args u → smT t → ∀ (W : World) (v : Value) (l : List UInt8), Below w.heap.size w W → Own8 W w.heap.size v (iL l) → l.length + tmW t ≤ 10000000000 →
    Calls Tryz.prog 69 #[v, .agg (tmC t u).toArray, .int .i64 dp] W (WrP w W (fitT nameB ptW d t) l (tmB t) (tmW t)) := by
  intro d
  induction d with
  | zero =>
    intro dp hd h1 w t D u ht hs W v l hb ho hl
    have hB := hide (Bw.start hb ho)
    have hdp : (64 : Int) < dp := by omega
    have hu : ∃ a c, u = .slice a t.args.length c := by obtain ⟨a, c, e, _⟩ := ht.shape; exact ⟨a, c, e⟩
    obtain ⟨a, c, rfl⟩ := hu
    clear hd h1 ht hs ho hb
    go_enter Tryz.func69, Tryz.ntmps69
    go_wp2_with (first
      | (refine wpList_boxJ rfl 52 (.tmp 1) rfl (cs := tmC t (.slice a t.args.length c)) rfl ?_; intro w2 hA2 hb2 hs2; have HB2 := hide hb2; clear hA2 hb2 hs2)
      | fail)
    refine bodyPost_ret (pwres2 (p := 6) (q := 7) rfl) rfl ?_
    exact ⟨v, l, rfl, hide ⟨hB.out.below HB2.out, fun e => (by cases e), by omega⟩⟩
  | succ d ih =>
    intro dp hd h1 w t D u ht hs W v l hb ho hl
    have hB := hide (Bw.start hb ho)
    have hdp : ¬ (64 : Int) < dp := by omega
    have hdd : decide ((64 : Int) < dp) = false := decide_eq_false hdp
    have hw1 : IntKind.i64.wrap (dp + 1) = dp + 1 := by rw [IntKind.wrap_i64]; omega
    obtain ⟨a, c, hu, hlc, hmc⟩ := ht.shape
    rw [smT_eq] at hs
    have HF := hide (fun W2 => dfits_calls t u W2 ⟨a, c, hu⟩ hs.1 (by omega))
    have HT := hide ht
    have HS := hide hs.2
    have HIH : Hid (∀ (t2 : Tm) (D2 : Nat) (u2 : Value), IsTr w anyB D2 t2.args u2 → smT t2 → ∀ (W2 : World) (v2 : Value) (l2 : List UInt8), Below w.heap.size w W2 → Own8 W2 w.heap.size v2 (iL l2) → l2.length + tmW t2 ≤ 10000000000 → Calls Tryz.prog 69 #[v2, .agg (tmC t2 u2).toArray, .int .i64 (dp + 1)] W2 (WrP w W2 (fitT nameB ptW d t2) l2 (tmB t2) (tmW t2))) := hide (fun t2 D2 u2 h2 h3 W2 v2 l2 h4 h5 h6 => ih (dp + 1) (by omega) (by omega) w t2 D2 u2 h2 h3 W2 v2 l2 h4 h5 h6)
    have HQ := hide (fun W2 => rquote_calls t.text (by have := hs.1; omega) W2)
    have HWD := hide (fun W2 => dwordOf_calls t.kind W2)
    rw [fitT_succ]
    have HTW := hide (tmW_eq t)
    have HL := hide hl
    obtain ⟨k, x, n, m, ag⟩ := t
    subst hu
    have HTW : Hid (tmW ⟨k, x, n, m, ag⟩ = 64 + 4 * x.size + (ag.map fun a => tmW a + 1).sum) := HTW
    clear ih ht hs ho hb hl hd
    cases hf : fit1 nameB ptW ⟨k, x, n, m, ag⟩ with
    | false =>
      rw [hf] at HF
      clear hf
      go_enter Tryz.func69, Tryz.ntmps69
      go_wp2_with (first
        | (refine wpList_boxJ rfl 52 (.tmp 1) rfl (cs := (tmC ⟨k, x, n, m, ag⟩ (.slice a ag.length c))) rfl ?_; intro w2 hA2 hb2 hs2; have HA2 := hide hA2; have HB2 := hide hb2; clear hA2 hb2 hs2)
        | (refine wpList_loadJ rfl 52 (.tmp 4) rfl _ 0 rfl (tmC ⟨k, x, n, m, ag⟩ (.slice a ag.length c)) _ HA2.out.rangeJ Tryz.underlying52 rfl (infoTms _ _) ?_)
        | fail)
      refine (unhide HF _).mono ?_
      rintro e w3 ⟨rfl, hb3⟩
      have HA3 := hide (HA2.out.below hb3)
      have HB3 := hide ((hB.out.below HB2.out).below hb3)
      clear hb3 HF hB HA2 HB2
      go_wp2
      refine bodyPost_ret (pwres2 (p := 6) (q := 7) rfl) rfl ?_
      exact ⟨v, l, rfl, hide ⟨HB3.out, fun e => (by cases e), by omega⟩⟩
    | true =>
      rw [hf] at HF
      by_cases hk1 : k = 1
      · subst hk1
        have HAG := hide (fit_lit hf rfl)
        have HTB : Hid (tmB ⟨1, x, n, m, ag⟩ = quoteL x.data.toList) := hide (by rw [tmB_eq, if_pos rfl]; rfl)
        have HQL := hide (quote_le x.data.toList)
        have HXL : Hid (x.data.toList.length = x.size) := hide (byL_len x)
        clear hf HIH HWD HT HS
        go_enter Tryz.func69, Tryz.ntmps69
        go_wp2_with (first
          | (refine wpList_boxJ rfl 52 (.tmp 1) rfl (cs := (tmC ⟨1, x, n, m, ag⟩ (.slice a ag.length c))) rfl ?_; intro w2 hA2 hb2 hs2; have HA2 := hide hA2; have HB2 := hide hb2; clear hA2 hb2 hs2)
          | (refine wpList_loadJ rfl 52 (.tmp 4) rfl _ 0 rfl (tmC ⟨1, x, n, m, ag⟩ (.slice a ag.length c)) _ HA2.out.rangeJ Tryz.underlying52 rfl (infoTms _ _) ?_)
          | fail)
        refine (unhide HF _).mono ?_
        rintro e w3 ⟨rfl, hb3⟩
        have HA3 := hide (HA2.out.below hb3)
        have HB3 := hide ((hB.out.below HB2.out).below hb3)
        clear hb3 HF hB HA2 HB2
        obtain ⟨c0, c1, c2, c3, c4⟩ := tmC_arr HA3.out
        go_wp2_with fail
        refine (unhide HQ _).mono ?_
        rintro e w4 ⟨rfl, hb4⟩
        have HB4 := hide (HB3.out.below hb4)
        clear hb4 HQ c0 c1 c2 c3 c4
        have HLN : Hid (l.length + (bs (quoteL x.data.toList)).size ≤ 100000000000) := hide (by
          have h1 := HL.out
          rw [HTW.out] at h1
          have h2 := HQL.out
          rw [HXL.out] at h2
          have h3 : (bs (quoteL x.data.toList)).size = (quoteL x.data.toList).length := by unfold bs; simp [ByteArray.size]
          omega)
        obtain ⟨bq, hbq⟩ : ∃ b, b = bs (quoteL x.data.toList) := ⟨_, rfl⟩
        rw [← hbq] at HLN
        rw [← hbq]
        have HBQ : Hid (byL bq = quoteL x.data.toList) := hide (by rw [hbq]; unfold byL bs; simp)
        clear hbq
        go_wp2_with (first
          | (at_builtin; refine wpList_apS rfl (.tmp 21) (.tmp 24) rfl rfl HB4.out rfl HLN.out ?_; intro v5 w5 hB5; have HB5 := hide hB5; clear hB5)
          | fail)
        refine bodyPost_ret (pwres2 (p := 6) (q := 7) rfl) rfl ?_
        refine ⟨v5, l ++ byL bq, ?_, hide ⟨HB5.out, fun _ => by rw [HBQ.out, HTB.out], ?_⟩⟩
        · rw [HAG.out]; rfl
        · rw [HBQ.out, List.length_append, HTW.out]
          have h2 := HQL.out
          rw [HXL.out] at h2
          omega
      · have HFIT := hide hf
        have HTB := hide (dB_end (nm := nameB) (pt := ptW) hf hk1)
        have HKR := hide (fit1_parts hf).1
        have HK1 := hide hk1
        have hkb : (k == 1) = false := by simpa using hk1
        have HWK : Hid (wdK k = wds.getD k.toNat noText) := hide (by unfold wdK; rw [if_pos (show 0 ≤ k ∧ k ≤ 15 from ⟨by have : 1 ≤ k := HKR.out.1; omega, HKR.out.2⟩)])
        clear hf hk1 HQ
        go_enter Tryz.func69, Tryz.ntmps69
        go_wp2_with (first
          | (refine wpList_boxJ rfl 52 (.tmp 1) rfl (cs := (tmC ⟨k, x, n, m, ag⟩ (.slice a ag.length c))) rfl ?_; intro w2 hA2 hb2 hs2; have HA2 := hide hA2; have HB2 := hide hb2; clear hA2 hb2 hs2)
          | (refine wpList_loadJ rfl 52 (.tmp 4) rfl _ 0 rfl (tmC ⟨k, x, n, m, ag⟩ (.slice a ag.length c)) _ HA2.out.rangeJ Tryz.underlying52 rfl (infoTms _ _) ?_)
          | fail)
        refine (unhide HF _).mono ?_
        rintro e w3 ⟨rfl, hb3⟩
        have HA3 := hide (HA2.out.below hb3)
        have HB3 := hide ((hB.out.below HB2.out).below hb3)
        clear hb3 HF hB HA2 HB2
        have HR3 := hide (Bw.start HB3.out.base HB3.out.own)
        have HARR : Hid (∀ (W2 : World) (v2 : Value) (l2 : List UInt8), Bw w w3 W2 v2 l2 → Arr W2 W.heap.size 52 (tmC ⟨k, x, n, m, ag⟩ (.slice a ag.length c))) := hide (fun W2 v2 l2 h => HA3.out.ch h.ch (by unfold U8; decide))
        obtain ⟨c0, c1, c2, c3, c4⟩ := tmC_arr HA3.out
        clear c1 c2 c3 c4
        go_wp2_with fail
        refine (unhide HWD _).mono ?_
        rintro e w4 ⟨rfl, hb4⟩
        have HB4 := hide (HR3.out.below hb4)
        rw [HWK.out]
        obtain ⟨wd, hwd⟩ : ∃ s, s = wds.getD k.toNat noText := ⟨_, rfl⟩
        rw [← hwd]
        have HWL : Hid (wd.size ≤ 7) := hide (by have := wdk_len k.toNat; rw [byL_len, ← hwd] at this; exact this)
        have HWE := hide hwd
        have HL4 : Hid (l.length + wd.size ≤ 100000000000) := hide (by have h1 := HL.out; rw [HTW.out] at h1; have h4 : (⟨k, x, n, m, ag⟩ : Tm).text = x := rfl; have h5 : tmsW ag = (ag.map fun a => tmW a + 1).sum := rfl; have h6 : (⟨k, x, n, m, ag⟩ : Tm).args = ag := rfl; have := HWL.out; omega)
        have HL5 : Hid ((l ++ byL wd).length ≤ 100000000000) := hide (by have := HL4.out; rw [List.length_append, byL_len]; exact this)
        have HL6 : Hid ((l ++ byL wd ++ [(40 : UInt8)]).length + x.size ≤ 100000000000) := hide (by have h1 := HL.out; rw [HTW.out] at h1; have h4 : (⟨k, x, n, m, ag⟩ : Tm).text = x := rfl; have h5 : tmsW ag = (ag.map fun a => tmW a + 1).sum := rfl; have h6 : (⟨k, x, n, m, ag⟩ : Tm).args = ag := rfl; have := HWL.out; simp only [List.length_append, List.length_cons, List.length_nil, byL_len]; omega)
        clear hb4 hwd HWK HWD c0
        go_wp2_with (first
          | (at_builtin; refine wpList_apS rfl (.tmp 26) (.tmp 29) rfl rfl HB4.out rfl HL4.out ?_; intro v5 w5 hB5; have HB5 := hide hB5; clear hB5)
          | (at_builtin; refine wpList_apC 40 rfl (.tmp 31) (.tmp 32) rfl rfl rfl HB5.out rfl HL5.out ?_; intro v6 w6 hB6; have c1 := (tmC_arr (HARR.out _ _ _ hB6)).2.1; have HB6 := hide hB6; clear hB6)
          | (at_builtin; refine wpList_apS rfl (.tmp 34) (.tmp 36) rfl rfl HB6.out rfl HL6.out ?_; intro v7 w7 hB7; have HB7 := hide hB7; clear hB7)
          | fail)
        clear c1
        go_loopw [0, 8, 9] (fun bv okv iv wr => ∃ (j : Nat) (okb : Bool) (lj : List UInt8), okv = .bool okb ∧ iv = .int .i64 (j : Int) ∧ j ≤ ag.length ∧ Hid (Bw w w3 wr bv lj ∧ Arr wr W.heap.size 52 (tmC ⟨k, x, n, m, ag⟩ (.slice a ag.length c)) ∧ okb = (ag.take j).all (fitT nameB ptW d) ∧ (okb = true → lj = l ++ dB ⟨k, x, n, m, ag⟩ j) ∧ lj.length ≤ l.length + 8 + x.size + tmsW (ag.take j))) (fun _ _ iv _ => ag.length - (intOf iv).toNat)
        case atStart => exact ⟨0, true, l ++ byL wd ++ [40] ++ byL x, rfl, rfl, by omega, HB7.out, HARR.out _ _ _ HB7.out, rfl, fun _ => by unfold dB; rw [List.take_zero, HWE.out]; simp [dA], by have := HWL.out; simp only [List.length_append, List.length_cons, List.length_nil, byL_len, List.take_zero, tmsW_nil]; omega⟩
        case round =>
          obtain ⟨j, okb, lj, rfl, rfl, hjq, HJ⟩ := hrel
          clear HB4 HB5 HB6 HB7 HL4 HL5 HL6
          have HTB : Hid (tmB ⟨k, x, n, m, ag⟩ = dB ⟨k, x, n, m, ag⟩ ag.length ++ (dN ⟨k, x, n, m, ag⟩ ++ [41])) := HTB
          by_cases hlt : j < ag.length
          · have hlti : (j : Int) < (ag.length : Int) := by omega
            cases okb with
            | false =>
              have HOK : Hid (false = ag.all (fitT nameB ptW d)) := hide ((all_false HJ.out.2.2.1.symm).symm)
              have HEQ : Hid (ag.all (fitT nameB ptW d) = true → lj = l ++ dB ⟨k, x, n, m, ag⟩ ag.length) := hide (fun e => by rw [all_false HJ.out.2.2.1.symm] at e; cases e)
              have HLE : Hid (lj.length ≤ l.length + 8 + x.size + tmsW ag) := hide (by have := HJ.out.2.2.2.2; have := tmsW_le ag j; omega)
              have HLT : Hid (lj.length ≤ 100000000000) := hide (by have := HLE.out; have h1 := HL.out; rw [HTW.out] at h1; have h4 : (⟨k, x, n, m, ag⟩ : Tm).text = x := rfl; have h5 : tmsW ag = (ag.map fun a => tmW a + 1).sum := rfl; have h6 : (⟨k, x, n, m, ag⟩ : Tm).args = ag := rfl; omega)
              have HBE := hide HJ.out.1
              have HAE := hide HJ.out.2.1
              clear HJ
              obtain ⟨c0, c1, c2, c3, c4⟩ := tmC_arr HAE.out
              clear c1 c2 c3
              by_cases h7 : k = 7
              · have h7b : (k == 7) = true := by simpa using h7
                have HNU := hide (by have := (fit1_parts HFIT.out).2.2.2; unfold nuF at this; rw [if_pos h7] at this; exact of_decide_eq_true this)
                have HDN : Hid (dN ⟨k, x, n, m, ag⟩ = 44 :: (byL (decW n) ++ 44 :: byL (decW m))) := hide (by unfold dN; rw [if_pos h7])
                have HDC : Hid (∀ z : Int, 0 ≤ z → z ≤ 2147483647 → ∀ W2 : World, Calls Tryz.prog 66 #[.int .i64 z] W2 fun e w' => e = .returned (.string (decW z)) ∧ Below W2.heap.size W2 w') := hide (fun z h0 h1 W2 => by
                  obtain ⟨y, rfl⟩ : ∃ y : Nat, z = (y : Int) := ⟨z.toNat, by omega⟩
                  exact ddecimal_calls 10 y (by have : (10 : Nat) ^ 10 = 10000000000 := by decide
                                                omega) (by decide) (by decide) W2)
                have HD1 := hide (HDC.out n HNU.out.1 HNU.out.2.1)
                have HD2 := hide (HDC.out m HNU.out.2.2.1 HNU.out.2.2.2)
                have HE1 := hide (decW_len HNU.out.1 HNU.out.2.1)
                have HE2 := hide (decW_len HNU.out.2.2.1 HNU.out.2.2.2)
                obtain ⟨dn, hdn⟩ : ∃ b, b = decW n := ⟨_, rfl⟩
                obtain ⟨dm, hdm⟩ : ∃ b, b = decW m := ⟨_, rfl⟩
                rw [← hdn] at HD1 HE1 HDN
                rw [← hdm] at HD2 HE2 HDN
                clear h7 hdn hdm HDC
                have HDL : Hid ((byL dn).length ≤ 10 ∧ (byL dm).length ≤ 10) := hide ⟨HE1.out, HE2.out⟩
                have c2 : wr.cell? ⟨W.heap.size, 2, none⟩ = some (.int .i64 n) := (tmC_arr HAE.out).2.2.1
                go_wp2_with (first
                  | (at_builtin; refine wpList_apC 44 rfl (.tmp 73) (.tmp 74) rfl rfl rfl HBE.out rfl HLT.out ?_; intro v6 w6 hB6; have HA6 : Hid (Arr w6 W.heap.size 52 (tmC ⟨k, x, n, m, ag⟩ (.slice a ag.length c))) := hide (HARR.out _ _ _ hB6); have c2 := (tmC_arr HA6.out).2.2.1; have c3 := (tmC_arr HA6.out).2.2.2.1; have HB6 := hide hB6; clear hB6)
                  | fail)
                refine (unhide HD1 _).mono ?_
                rintro e w7 ⟨rfl, hb7⟩
                have HB7 := hide (HB6.out.below hb7)
                have HL7 : Hid ((lj ++ [(44 : UInt8)]).length + dn.size ≤ 100000000000) := hide (by have h1 := HLT.out; have h2 := HE1.out; rw [byL_len] at h2; simp only [List.length_append, List.length_cons, List.length_nil]; have := HLE.out; have := HL.out; have := HTW.out; have h4 : (⟨k, x, n, m, ag⟩ : Tm).text = x := rfl; have h5 : tmsW ag = (ag.map fun a => tmW a + 1).sum := rfl; have h6 : (⟨k, x, n, m, ag⟩ : Tm).args = ag := rfl; omega)
                have HL8 : Hid ((lj ++ [(44 : UInt8)] ++ byL dn).length ≤ 100000000000) := hide (by have h1 := HL7.out; simp only [List.length_append, List.length_cons, List.length_nil, byL_len] at h1 ⊢; omega)
                clear hb7 c2 c3
                go_wp2_with (first
                  | (at_builtin; refine wpList_apS rfl (.tmp 76) (.tmp 79) rfl rfl HB7.out rfl HL7.out ?_; intro v8 w8 hB8; have HB8 := hide hB8; clear hB8)
                  | (at_builtin; refine wpList_apC 44 rfl (.tmp 81) (.tmp 82) rfl rfl rfl HB8.out rfl HL8.out ?_; intro v10 w10 hB10; have HA10 : Hid (Arr w10 W.heap.size 52 (tmC ⟨k, x, n, m, ag⟩ (.slice a ag.length c))) := hide (HARR.out _ _ _ hB10); have c3 := (tmC_arr HA10.out).2.2.2.1; have HB10 := hide hB10; clear hB10)
                  | fail)
                refine (unhide HD2 _).mono ?_
                rintro e w11 ⟨rfl, hb11⟩
                have HB11 := hide (HB10.out.below hb11)
                have HL11 : Hid ((lj ++ [(44 : UInt8)] ++ byL dn ++ [(44 : UInt8)]).length + dm.size ≤ 100000000000) := hide (by have h1 := HL7.out; have h2 := HE2.out; have := HLE.out; have := HL.out; have := HTW.out; have h4 : (⟨k, x, n, m, ag⟩ : Tm).text = x := rfl; have h5 : tmsW ag = (ag.map fun a => tmW a + 1).sum := rfl; have h6 : (⟨k, x, n, m, ag⟩ : Tm).args = ag := rfl; have h8 := HE1.out; rw [byL_len] at h2 h8; simp only [List.length_append, List.length_cons, List.length_nil, byL_len] at h1 ⊢; omega)
                have HL12 : Hid ((lj ++ [(44 : UInt8)] ++ byL dn ++ [(44 : UInt8)] ++ byL dm).length ≤ 100000000000) := hide (by have h1 := HL11.out; simp only [List.length_append, List.length_cons, List.length_nil, byL_len] at h1 ⊢; omega)
                clear hb11 c3
                go_wp2_with (first
                  | (at_builtin; refine wpList_apS rfl (.tmp 84) (.tmp 87) rfl rfl HB11.out rfl HL11.out ?_; intro v12 w12 hB12; have HB12 := hide hB12; clear hB12)
                  | (at_builtin; refine wpList_apC 41 rfl (.tmp 89) (.tmp 90) rfl rfl rfl HB12.out rfl HL12.out ?_; intro v9 w9 hB9; have HZ := hide hB9; clear hB9)
                  | fail)
                refine bodyPost_ret (pwres2 (p := 6) (q := 7) rfl) rfl ?_
                refine ⟨_, _, by first | (rw [Bool.true_and, ← HOK.out]; rfl) | (rw [← HOK.out]; rfl), hide ⟨HB3.out.join HZ.out, fun e => ?_, ?_⟩⟩
                · try rw [Bool.true_and] at e
                  rw [HEQ.out e, HTB.out, HDN.out]
                  simp [List.append_assoc]
                · have h1 := HLE.out
                  have h2 := HTW.out
                  have h3 := HDL.out
                  simp only [List.length_append, List.length_cons, List.length_nil] at h1 h2 h3 ⊢
                  have h5 : tmsW ag = (ag.map fun a => tmW a + 1).sum := rfl
                  omega
              · have h7b : (k == 7) = false := by simpa using h7
                have HDN : Hid (dN ⟨k, x, n, m, ag⟩ = []) := hide (by unfold dN; rw [if_neg h7])
                have HDL : Hid (0 ≤ 24) := hide (by omega)
                clear h7
                go_wp2_with (first
                  | (at_builtin; refine wpList_apC 41 rfl (.tmp 89) (.tmp 90) rfl rfl rfl HBE.out rfl HLT.out ?_; intro v9 w9 hB9; have HZ := hide hB9; clear hB9)
                  | fail)
                refine bodyPost_ret (pwres2 (p := 6) (q := 7) rfl) rfl ?_
                refine ⟨_, _, by first | (rw [Bool.true_and, ← HOK.out]; rfl) | (rw [← HOK.out]; rfl), hide ⟨HB3.out.join HZ.out, fun e => ?_, ?_⟩⟩
                · try rw [Bool.true_and] at e
                  rw [HEQ.out e, HTB.out, HDN.out]
                  simp [List.append_assoc]
                · have h1 := HLE.out
                  have h2 := HTW.out
                  have h3 := HDL.out
                  simp only [List.length_append, List.length_cons, List.length_nil] at h1 h2 h3 ⊢
                  have h5 : tmsW ag = (ag.map fun a => tmW a + 1).sum := rfl
                  omega
            | true =>
              obtain ⟨b, o, c', e0, u2, hv, hD, hr, hi⟩ := HT.out.at hlt
              cases hv
              have HR := hide hr
              have HIC := hide (HIH.out (ag.getD j .nul) e0 u2 hi (HS.out _ (getT hlt)))
              have HST := hide (dB_step (t := ⟨k, x, n, m, ag⟩) hlt)
              have HTK := hide (tmsW_take hlt)
              have HTA := hide (tmW_at hlt)
              have HAL := hide (all_take (f := fitT nameB ptW d) hlt)
              have hwj : IntKind.i64.wrap ((j : Int) + 1) = ((j + 1 : Nat) : Int) := by rw [IntKind.wrap_i64]; omega
              have HLJ : Hid (lj.length + 1 + tmW (ag.getD j .nul) ≤ 10000000000) := hide (by have h1 := HL.out; rw [HTW.out] at h1; have h4 : (⟨k, x, n, m, ag⟩ : Tm).text = x := rfl; have h5 : tmsW ag = (ag.map fun a => tmW a + 1).sum := rfl; have h6 : (⟨k, x, n, m, ag⟩ : Tm).args = ag := rfl; have h7 := HJ.out.2.2.2.2; have h8 := HTA.out; omega)
              obtain ⟨T2, hT2⟩ : ∃ t2, t2 = ag.getD j .nul := ⟨_, rfl⟩
              rw [← hT2] at HR HIC HST HTK HTA HAL HLJ
              clear hr hi hT2 hD
              obtain ⟨c0, c1, c2, c3, c4⟩ := tmC_arr HJ.out.2.1
              clear c1 c2 c3
              by_cases hj0 : 0 < j
              · have hji : (0 : Int) < (j : Int) := by omega
                go_wp2_with (first
                  | (at_builtin; refine wpList_apC 44 rfl (.tmp 55) (.tmp 56) rfl rfl rfl HJ.out.1 rfl (by have := HLJ.out; omega) ?_; intro v6 w6 hB6; have c4 := (tmC_arr (HARR.out _ _ _ hB6)).2.2.2.2; have hr6 := rangeAt_below HR.out hB6.base; have HB6 := hide hB6; clear hB6)
                  | (refine wpList_loadJ rfl 52 (.tmp 63) rfl b (o + j * 5) rfl (tmC T2 u2) _ hr6 Tryz.underlying52 rfl (infoTms _ _) ?_)
                  | fail)
                refine (HIC.out w6 v6 (lj ++ [44]) HB6.out.base HB6.out.own (by have := HLJ.out; simp only [List.length_append, List.length_cons, List.length_nil]; omega)).mono ?_
                rintro e w7 ⟨v7, l7, rfl, HX⟩
                go_wp2
                go_roundw
                case rel => exact ⟨j + 1, fitT nameB ptW d T2, l7, rfl, by go_num, by omega, HB6.out.join HX.out.1, HARR.out _ _ _ (HB6.out.join HX.out.1), by rw [HAL.out, ← HJ.out.2.2.1]; rfl, fun e => by rw [HX.out.2.1 e, HST.out, HJ.out.2.2.2.1 (by trivial), if_pos (Or.inl (decide_eq_true hj0))]; simp only [List.append_assoc, List.cons_append, List.nil_append], by have h1 := HX.out.2.2; have h2 := HJ.out.2.2.2.2; have h3 := HTK.out; simp only [List.length_append, List.length_cons, List.length_nil] at h1; omega⟩
                case measure => simp [intOf]; omega
              · have hji : ¬ (0 : Int) < (j : Int) := by omega
                have hjd : decide ((0 : Int) < (j : Int)) = false := decide_eq_false hji
                by_cases h13 : k = 13
                · have h13b : (k == 13) = true := by simpa using h13
                  have H13 := hide h13
                  clear h13
                  go_wp2_with (first
                    | (at_builtin; refine wpList_apC 44 rfl (.tmp 55) (.tmp 56) rfl rfl rfl HJ.out.1 rfl (by have := HLJ.out; omega) ?_; intro v6 w6 hB6; have c4 := (tmC_arr (HARR.out _ _ _ hB6)).2.2.2.2; have hr6 := rangeAt_below HR.out hB6.base; have HB6 := hide hB6; clear hB6)
                    | (refine wpList_loadJ rfl 52 (.tmp 63) rfl b (o + j * 5) rfl (tmC T2 u2) _ hr6 Tryz.underlying52 rfl (infoTms _ _) ?_)
                    | fail)
                  refine (HIC.out w6 v6 (lj ++ [44]) HB6.out.base HB6.out.own (by have := HLJ.out; simp only [List.length_append, List.length_cons, List.length_nil]; omega)).mono ?_
                  rintro e w7 ⟨v7, l7, rfl, HX⟩
                  go_wp2
                  go_roundw
                  case rel => exact ⟨j + 1, fitT nameB ptW d T2, l7, rfl, by go_num, by omega, HB6.out.join HX.out.1, HARR.out _ _ _ (HB6.out.join HX.out.1), by rw [HAL.out, ← HJ.out.2.2.1]; rfl, fun e => by rw [HX.out.2.1 e, HST.out, HJ.out.2.2.2.1 (by trivial), if_pos (Or.inr (decide_eq_true H13.out))]; simp only [List.append_assoc, List.cons_append, List.nil_append], by have h1 := HX.out.2.2; have h2 := HJ.out.2.2.2.2; have h3 := HTK.out; simp only [List.length_append, List.length_cons, List.length_nil] at h1; omega⟩
                  case measure => simp [intOf]; omega
                · have h13b : (k == 13) = false := by simpa using h13
                  have H13 := hide h13
                  clear h13
                  have HB6 := hide HJ.out.1
                  have hr6 := rangeAt_below HR.out HB6.out.base
                  go_wp2_with (first
                    | (refine wpList_loadJ rfl 52 (.tmp 63) rfl b (o + j * 5) rfl (tmC T2 u2) _ hr6 Tryz.underlying52 rfl (infoTms _ _) ?_)
                    | fail)
                  refine (HIC.out wr u0 lj HB6.out.base HB6.out.own (by have := HLJ.out; omega)).mono ?_
                  rintro e w7 ⟨v7, l7, rfl, HX⟩
                  go_wp2
                  go_roundw
                  case rel => exact ⟨j + 1, fitT nameB ptW d T2, l7, rfl, by go_num, by omega, HB6.out.join HX.out.1, HARR.out _ _ _ (HB6.out.join HX.out.1), by rw [HAL.out, ← HJ.out.2.2.1]; rfl, fun e => by rw [HX.out.2.1 e, HST.out, HJ.out.2.2.2.1 (by trivial), if_neg (fun e => e.elim (fun e => hj0 (of_decide_eq_true e)) (fun e => H13.out (of_decide_eq_true e)))]; simp only [List.append_assoc, List.nil_append], by have h1 := HX.out.2.2; have h2 := HJ.out.2.2.2.2; have h3 := HTK.out; omega⟩
                  case measure => simp [intOf]; omega
          · have hje : j = ag.length := by omega
            have hlti : ¬ (j : Int) < (ag.length : Int) := by omega
            have hltd : decide ((j : Int) < (ag.length : Int)) = false := decide_eq_false hlti
            have HOK : Hid (okb = ag.all (fitT nameB ptW d)) := hide (by rw [HJ.out.2.2.1, hje, List.take_length])
            have HEQ : Hid (ag.all (fitT nameB ptW d) = true → lj = l ++ dB ⟨k, x, n, m, ag⟩ ag.length) := hide (fun e => by rw [← hje]; exact HJ.out.2.2.2.1 (by rw [HJ.out.2.2.1, hje, List.take_length]; exact e))
            have HLE : Hid (lj.length ≤ l.length + 8 + x.size + tmsW ag) := hide (by have := HJ.out.2.2.2.2; have := tmsW_le ag j; omega)
            have HLT : Hid (lj.length ≤ 100000000000) := hide (by have := HLE.out; have h1 := HL.out; rw [HTW.out] at h1; have h4 : (⟨k, x, n, m, ag⟩ : Tm).text = x := rfl; have h5 : tmsW ag = (ag.map fun a => tmW a + 1).sum := rfl; have h6 : (⟨k, x, n, m, ag⟩ : Tm).args = ag := rfl; omega)
            have HBE := hide HJ.out.1
            have HAE := hide HJ.out.2.1
            clear HJ
            clear hje
            obtain ⟨c0, c1, c2, c3, c4⟩ := tmC_arr HAE.out
            clear c1 c2 c3
            by_cases h7 : k = 7
            · have h7b : (k == 7) = true := by simpa using h7
              have HNU := hide (by have := (fit1_parts HFIT.out).2.2.2; unfold nuF at this; rw [if_pos h7] at this; exact of_decide_eq_true this)
              have HDN : Hid (dN ⟨k, x, n, m, ag⟩ = 44 :: (byL (decW n) ++ 44 :: byL (decW m))) := hide (by unfold dN; rw [if_pos h7])
              have HDC : Hid (∀ z : Int, 0 ≤ z → z ≤ 2147483647 → ∀ W2 : World, Calls Tryz.prog 66 #[.int .i64 z] W2 fun e w' => e = .returned (.string (decW z)) ∧ Below W2.heap.size W2 w') := hide (fun z h0 h1 W2 => by
                obtain ⟨y, rfl⟩ : ∃ y : Nat, z = (y : Int) := ⟨z.toNat, by omega⟩
                exact ddecimal_calls 10 y (by have : (10 : Nat) ^ 10 = 10000000000 := by decide
                                              omega) (by decide) (by decide) W2)
              have HD1 := hide (HDC.out n HNU.out.1 HNU.out.2.1)
              have HD2 := hide (HDC.out m HNU.out.2.2.1 HNU.out.2.2.2)
              have HE1 := hide (decW_len HNU.out.1 HNU.out.2.1)
              have HE2 := hide (decW_len HNU.out.2.2.1 HNU.out.2.2.2)
              obtain ⟨dn, hdn⟩ : ∃ b, b = decW n := ⟨_, rfl⟩
              obtain ⟨dm, hdm⟩ : ∃ b, b = decW m := ⟨_, rfl⟩
              rw [← hdn] at HD1 HE1 HDN
              rw [← hdm] at HD2 HE2 HDN
              clear h7 hdn hdm HDC
              have HDL : Hid ((byL dn).length ≤ 10 ∧ (byL dm).length ≤ 10) := hide ⟨HE1.out, HE2.out⟩
              have c2 : wr.cell? ⟨W.heap.size, 2, none⟩ = some (.int .i64 n) := (tmC_arr HAE.out).2.2.1
              go_wp2_with (first
                | (at_builtin; refine wpList_apC 44 rfl (.tmp 73) (.tmp 74) rfl rfl rfl HBE.out rfl HLT.out ?_; intro v6 w6 hB6; have HA6 : Hid (Arr w6 W.heap.size 52 (tmC ⟨k, x, n, m, ag⟩ (.slice a ag.length c))) := hide (HARR.out _ _ _ hB6); have c2 := (tmC_arr HA6.out).2.2.1; have c3 := (tmC_arr HA6.out).2.2.2.1; have HB6 := hide hB6; clear hB6)
                | fail)
              refine (unhide HD1 _).mono ?_
              rintro e w7 ⟨rfl, hb7⟩
              have HB7 := hide (HB6.out.below hb7)
              have HL7 : Hid ((lj ++ [(44 : UInt8)]).length + dn.size ≤ 100000000000) := hide (by have h1 := HLT.out; have h2 := HE1.out; rw [byL_len] at h2; simp only [List.length_append, List.length_cons, List.length_nil]; have := HLE.out; have := HL.out; have := HTW.out; have h4 : (⟨k, x, n, m, ag⟩ : Tm).text = x := rfl; have h5 : tmsW ag = (ag.map fun a => tmW a + 1).sum := rfl; have h6 : (⟨k, x, n, m, ag⟩ : Tm).args = ag := rfl; omega)
              have HL8 : Hid ((lj ++ [(44 : UInt8)] ++ byL dn).length ≤ 100000000000) := hide (by have h1 := HL7.out; simp only [List.length_append, List.length_cons, List.length_nil, byL_len] at h1 ⊢; omega)
              clear hb7 c2 c3
              go_wp2_with (first
                | (at_builtin; refine wpList_apS rfl (.tmp 76) (.tmp 79) rfl rfl HB7.out rfl HL7.out ?_; intro v8 w8 hB8; have HB8 := hide hB8; clear hB8)
                | (at_builtin; refine wpList_apC 44 rfl (.tmp 81) (.tmp 82) rfl rfl rfl HB8.out rfl HL8.out ?_; intro v10 w10 hB10; have HA10 : Hid (Arr w10 W.heap.size 52 (tmC ⟨k, x, n, m, ag⟩ (.slice a ag.length c))) := hide (HARR.out _ _ _ hB10); have c3 := (tmC_arr HA10.out).2.2.2.1; have HB10 := hide hB10; clear hB10)
                | fail)
              refine (unhide HD2 _).mono ?_
              rintro e w11 ⟨rfl, hb11⟩
              have HB11 := hide (HB10.out.below hb11)
              have HL11 : Hid ((lj ++ [(44 : UInt8)] ++ byL dn ++ [(44 : UInt8)]).length + dm.size ≤ 100000000000) := hide (by have h1 := HL7.out; have h2 := HE2.out; have := HLE.out; have := HL.out; have := HTW.out; have h4 : (⟨k, x, n, m, ag⟩ : Tm).text = x := rfl; have h5 : tmsW ag = (ag.map fun a => tmW a + 1).sum := rfl; have h6 : (⟨k, x, n, m, ag⟩ : Tm).args = ag := rfl; have h8 := HE1.out; rw [byL_len] at h2 h8; simp only [List.length_append, List.length_cons, List.length_nil, byL_len] at h1 ⊢; omega)
              have HL12 : Hid ((lj ++ [(44 : UInt8)] ++ byL dn ++ [(44 : UInt8)] ++ byL dm).length ≤ 100000000000) := hide (by have h1 := HL11.out; simp only [List.length_append, List.length_cons, List.length_nil, byL_len] at h1 ⊢; omega)
              clear hb11 c3
              go_wp2_with (first
                | (at_builtin; refine wpList_apS rfl (.tmp 84) (.tmp 87) rfl rfl HB11.out rfl HL11.out ?_; intro v12 w12 hB12; have HB12 := hide hB12; clear hB12)
                | (at_builtin; refine wpList_apC 41 rfl (.tmp 89) (.tmp 90) rfl rfl rfl HB12.out rfl HL12.out ?_; intro v9 w9 hB9; have HZ := hide hB9; clear hB9)
                | fail)
              refine bodyPost_ret (pwres2 (p := 6) (q := 7) rfl) rfl ?_
              refine ⟨_, _, by first | (rw [Bool.true_and, HOK.out]; rfl) | (rw [HOK.out]; rfl), hide ⟨HB3.out.join HZ.out, fun e => ?_, ?_⟩⟩
              · try rw [Bool.true_and] at e
                rw [HEQ.out e, HTB.out, HDN.out]
                simp [List.append_assoc]
              · have h1 := HLE.out
                have h2 := HTW.out
                have h3 := HDL.out
                simp only [List.length_append, List.length_cons, List.length_nil] at h1 h2 h3 ⊢
                have h5 : tmsW ag = (ag.map fun a => tmW a + 1).sum := rfl
                omega
            · have h7b : (k == 7) = false := by simpa using h7
              have HDN : Hid (dN ⟨k, x, n, m, ag⟩ = []) := hide (by unfold dN; rw [if_neg h7])
              have HDL : Hid (0 ≤ 24) := hide (by omega)
              clear h7
              go_wp2_with (first
                | (at_builtin; refine wpList_apC 41 rfl (.tmp 89) (.tmp 90) rfl rfl rfl HBE.out rfl HLT.out ?_; intro v9 w9 hB9; have HZ := hide hB9; clear hB9)
                | fail)
              refine bodyPost_ret (pwres2 (p := 6) (q := 7) rfl) rfl ?_
              refine ⟨_, _, by first | (rw [Bool.true_and, HOK.out]; rfl) | (rw [HOK.out]; rfl), hide ⟨HB3.out.join HZ.out, fun e => ?_, ?_⟩⟩
              · try rw [Bool.true_and] at e
                rw [HEQ.out e, HTB.out, HDN.out]
                simp [List.append_assoc]
              · have h1 := HLE.out
                have h2 := HTW.out
                have h3 := HDL.out
                simp only [List.length_append, List.length_cons, List.length_nil] at h1 h2 h3 ⊢
                have h5 : tmsW ag = (ag.map fun a => tmW a + 1).sum := rfl
                omega
end Go.Proofs.YtfhfobikbfbajaaGreatDoor

namespace Go.Proofs.YtfhfobikbfbajaaGreatDoor
open Go.RowKit Go.Maps

/-- Bytes and texts alone. -/
def U8S (t : TypeId) : Prop := t = 5 ∨ t = 9
theorem u8_u8s {B : Nat} {w w' : World} (h : Ch B U8 w w') : Ch B U8S w w' := h.mono (Nat.le_refl _) (fun _ ht => Or.inl ht)
theorem infoTxt : (Tryz.prog.info? 9).map (fun i => (i.zero, i.size, i.bytes)) = some (some (.string ByteArray.empty), 1, 16) := by kernel_rfl
theorem sV_app (a b : List ByteArray) : sV (a ++ b) = sV a ++ sV b := by unfold sV; rw [List.map_append]
/-- So much is written, so many texts are gathered (in a row that was vo0's); nothing but bytes and that row from w's end on was changed. -/
structure Bo (w W0 W : World) (vb vo : Value) (l : List UInt8) (md : List ByteArray) (vo0 : Value) : Prop where
  own : Own8 W w.heap.size vb (iL l)
  row : Row W w.heap.size 9 vo (sV md)
  ch : Ch w.heap.size U8S W0 W
  old : Below w.heap.size w W0
  st : ∀ k, k < W0.heap.size → vo0.ownBlock ≠ some k → (∀ cs m, W0.heap[k]? ≠ some (.cells cs 5 m)) → W.heap[k]? = W0.heap[k]?
  nw : vo.ownBlock = vo0.ownBlock ∨ ∃ b, vo.ownBlock = some b ∧ W0.heap.size ≤ b
theorem Row.chT {w w' : World} {B b : Nat} {T : TypeId → Prop} {t : TypeId} {v : Value} {xs : List Value} (h : Row w b t v xs) (hc : Ch B T w w') (ht : ¬ T t) : Row w' b t v xs := hc.owns h ht
section
variable {w W0 W W' : World} {vb vo vb' vo' vo0 : Value} {l l' : List UInt8} {md md' : List ByteArray}
theorem Bo.base (h : Bo w W0 W vb vo l md vo0) : Below w.heap.size w W := belowCh h.old h.ch h.old.size
theorem Bo.below (h : Bo w W0 W vb vo l md vo0) (hb : Below W.heap.size W W') : Bo w W0 W' vb vo l md vo0 := ⟨h.own.below hb, owns_below h.row hb, h.ch.trans (Ch.of_below hb), h.old, fun k hk h1 h2 => (hb.block k (Nat.lt_of_lt_of_le hk h.ch.size)).trans (h.st k hk h1 h2), h.nw⟩
theorem Bo.bytes (h : Bo w W0 W vb vo l md vo0) (k : Bw w W W' vb' l') : Bo w W0 W' vb' vo l' md vo0 := ⟨k.own, h.row.chT k.ch (by unfold U8; decide), h.ch.trans (u8_u8s k.ch), h.old, fun i hi h1 h2 => (k.ch.block i (Nat.lt_of_lt_of_le hi h.ch.size) (Or.inr fun cs t m e ht => by
    rw [h.st i hi h1 h2] at e
    have ht : t = 5 := ht
    subst ht
    exact h2 _ _ e)).trans (h.st i hi h1 h2), h.nw⟩
theorem Bo.bw (h : Bo w W0 W vb vo l md vo0) : Bw w W W vb l := Bw.start h.base h.own
theorem Bo.start (hb : Below w.heap.size w W) (ho : Own8 W w.heap.size vb (iL l)) (hr : Row W w.heap.size 9 vo (sV md)) : Bo w W W vb vo l md vo := ⟨ho, hr, Ch.refl _ _ _, hb, fun _ _ _ _ => rfl, Or.inl rfl⟩
theorem Bo.rebase (h : Bo w W0 W vb vo l md vo0) : Bo w W W vb vo l md vo := Bo.start h.base h.own h.row
/-- Another row of texts, which was there. -/
theorem Bo.other (h : Bo w W0 W vb vo l md vo0) {B : Nat} {v : Value} {xs : List Value} (hr : Row W0 B 9 v xs) (hn : v.ownBlock = none ∨ v.ownBlock ≠ vo0.ownBlock) : Row W B 9 v xs ∧ (v.ownBlock = none ∨ v.ownBlock ≠ vo.ownBlock) := by
  obtain ⟨hl, hh⟩ := hr
  rcases hh with hh | ⟨g, cap, cur, rfl, hB, hg, h1, h2, h3, h4⟩
  · exact ⟨⟨hl, Or.inl hh⟩, Or.inl (by rw [hh.1]; rfl)⟩
  · have hgl := (Array.getElem?_eq_some_iff.1 hg).1
    have hn : (Value.slice (some ⟨g, 0, none⟩) xs.length cap).ownBlock ≠ vo0.ownBlock := by
      rcases hn with hn | hn
      · cases hn
      · exact hn
    refine ⟨⟨hl, Or.inr ⟨g, cap, cur, rfl, hB, (h.st g hgl (fun e => hn e.symm) (fun cs m e => ?_)).trans hg, h1, h2, h3, h4⟩⟩, Or.inr fun e => ?_⟩
    · rw [hg] at e
      injection e with e
      injection e with _ e
      exact absurd e (by decide)
    · rcases h.nw with q | ⟨b, q, hb⟩
      · exact hn (e.trans q)
      · rw [q] at e
        injection e with e
        have e : g = b := e
        omega
theorem Bo.join {W1 : World} {vb1 vo1 : Value} {l1 : List UInt8} {md1 : List ByteArray} (h : Bo w W0 W1 vb1 vo1 l1 md1 vo0) (k : Bo w W1 W vb' vo' l' md' vo1) : Bo w W0 W vb' vo' l' md' vo0 := ⟨k.own, k.row, h.ch.trans k.ch, h.old, fun i hi h1 h2 => (k.st i (Nat.lt_of_lt_of_le hi h.ch.size) (fun e => by
    rcases h.nw with q | ⟨b, q, hb⟩
    · exact h1 (q.symm.trans e)
    · rw [q] at e; injection e with e; omega) (fun cs m e => h2 cs m (by rw [← h.st i hi h1 h2]; exact e))).trans (h.st i hi h1 h2), by
  rcases k.nw with q | ⟨b, q, hb⟩
  · rcases h.nw with p | ⟨c, p, hc⟩
    · exact Or.inl (q.trans p)
    · exact Or.inr ⟨c, q.trans p, hc⟩
  · exact Or.inr ⟨b, q, Nat.le_trans h.ch.size hb⟩⟩
/-- A text more. -/
theorem Bo.text (h : Bo w W0 W vb vo l md vo0) {s : ByteArray} (hr : Row W' w.heap.size 9 vo' (sV (md ++ [s]))) (hg : W.grownBy W' vo.ownBlock) (hv : vo'.ownBlock = vo.ownBlock ∨ vo'.ownBlock = some W.heap.size) : Bo w W0 W' vb vo' l (md ++ [s]) vo0 := by
  have hc : Ch w.heap.size (fun t => t = 9) W W' := Ch.of_owns h.row (Nat.le_refl _) hg rfl
  refine ⟨⟨hc.owns h.own.1 (by decide), h.own.2⟩, hr, h.ch.trans (hc.mono (Nat.le_refl _) (fun _ ht => Or.inr ht)), h.old, fun k hk h1 h2 => (hg.block k (Nat.lt_of_lt_of_le hk h.ch.size) (fun e => ?_)).trans (h.st k hk h1 h2), ?_⟩
  · rcases h.nw with q | ⟨b, q, hb⟩
    · exact h1 (q.symm.trans e.symm)
    · rw [q] at e; injection e with e; omega
  · rcases hv with hv | hv
    · rcases h.nw with q | ⟨b, q, hb⟩
      · exact Or.inl (hv.trans q)
      · exact Or.inr ⟨b, hv.trans q, hb⟩
    · exact Or.inr ⟨_, hv, h.ch.size⟩
end
section
variable {ops : Array Oper} {rest : List Oper} {o : Oper} {a : Act} {Q : Exit → Act → World → Prop} {w W0 W : World} {vb vo vo0 : Value} {l : List UInt8} {md : List ByteArray}
theorem wpList_boS (hg : Region.wanted o (yielded ops a.tmps) = true) (x y : Operand) (ho : o.op = .call { callee := .builtin .append, args := #[x, y], argTypes := #[65, 9] }) {s : ByteArray} (hx : a.eval x = vb) (h : Bo w W0 W vb vo l md vo0) (hy : a.eval y = .string s)
    (hl : l.length + s.size ≤ 100000000000) (hk : ∀ v' W', Bo w W0 W' v' vo (l ++ byL s) md vo0 → wpList Tryz.prog ops Q rest (a.put o.dst v') W') : wpList Tryz.prog ops Q (o :: rest) a W :=
  wpList_apS hg x y ho hx h.bw hy hl fun v' W' k => hk v' W' (h.bytes k)
theorem wpList_boC (c : UInt8) (hg : Region.wanted o (yielded ops a.tmps) = true) (x y : Operand) (ho : o.op = .call { callee := .builtin .append, args := #[x, y], argTypes := #[65, 65] }) {z : Int} (hz : z = (c.toNat : Int)) (hx : a.eval x = vb) (h : Bo w W0 W vb vo l md vo0) (hy : a.eval y = .slice (some ⟨W.heap.size, 0, none⟩) 1 1)
    (hl : l.length ≤ 100000000000) (hk : ∀ v' W', Bo w W0 W' v' vo (l ++ [c]) md vo0 → wpList Tryz.prog ops Q rest (a.put o.dst v') W') : wpList Tryz.prog ops Q (o :: rest) a (W.alloc (.cells #[.int .u8 z] 5)) :=
  wpList_apC c hg x y ho hz hx h.bw hy hl fun v' W' k => hk v' W' (h.bytes k)
theorem wpList_boM (hgd : o.guard = none) (x y : Operand) (ho : o.op = .call { callee := .builtin .append, args := #[x, y], argTypes := #[22, 22] }) {s : ByteArray} (hx : a.eval x = vo) (h : Bo w W0 W vb vo l md vo0) (hy : a.eval y = .slice (some ⟨W.heap.size, 0, none⟩) 1 1)
    (hl : md.length ≤ 100000000) (hk : ∀ v' W', Bo w W0 W' vb v' l (md ++ [s]) vo0 → wpList Tryz.prog ops Q rest (a.put o.dst v') W') : wpList Tryz.prog ops Q (o :: rest) a (W.alloc (.cells #[.string s] 9)) := by
  have h2 := h.below (jalloc_below W (.cells #[.string s] 9))
  refine wpList_appRow (t := 9) (s := 1) Tryz.underlying22 infoTxt (by simp [Value.cells]) (by decide) (by decide) hgd x y ho hx h2.row hy (m := 1) rfl (ds := [.string s]) (by simp) (fun j u hu => ?_) (fun u hu => ?_) (by rw [sV_len]; omega) h2.base.size (fun v' W' q1 q2 q3 => hk v' W' (h2.text (by unfold Row; rw [sV_len, List.length_append, sV_app]; rw [sV_len] at q1; exact q1) q2 q3))
  · exact (cells_lit W [.string s] 9 j u hu)
  · rw [List.mem_singleton.1 hu]; rfl
end
/-- No text of a task is too long. -/
def smK (t : Tsk) : Prop := t.name.size ≤ 2000000 ∧ (∀ s ∈ t.ins, s.size ≤ 2000000) ∧ ∀ o ∈ t.outs, o.1.size ≤ 2000000 ∧ smT o.2
end Go.Proofs.YtfhfobikbfbajaaGreatDoor
