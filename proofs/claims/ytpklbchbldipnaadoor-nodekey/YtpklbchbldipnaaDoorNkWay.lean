/- NodeKey: the walk, y.tmod 4 = 0, fewer refs. -/
import Derived.Test.YtpklbchbldipnaaDoorNAr
namespace Go.Proofs.YtpklbchbldipnaaDoor
open Go.RowKit Go.Maps Classical

set_option maxRecDepth 100000 in
set_option maxHeartbeats 40000000 in
theorem nodeKey_walk_ay {w : World} {v vr : Value} {l0 : List Ent} {rs : List Rf} {x y z : Int} (hx : -9223372036854775808 ≤ x ∧ x ≤ 9223372036854775807) (hy : -9223372036854775808 ≤ y ∧ y ≤ 9223372036854775807) (h : IsEn w v l0) (hR : IsRf w vr rs) (hT : Tabs w) (hcc : y.tmod 4 = 0) (hxy : rs.length < (l0.take 1100).length) : Calls Tryd.prog 8 #[v, vr, .int .i64 x, .int .i64 y, .int .i64 z] w fun e w' => e = .returned (.bool true) ∧ Below w.heap.size w w' := by
  obtain ⟨a, c, rfl⟩ := h.shape
  have HTL := hide (ntold_calls hT)
  have HH := hide h
  have HT := hide hT
  have HCC := hide hcc
  have HXY := hide hxy
  have HX := hide hx
  have HY := hide hy
  obtain ⟨ra, rc, hvr, hrl, hrm, hrg⟩ := hR.val
  subst hvr
  have HRO := hide hR.ok
  obtain ⟨nr, hnr⟩ : ∃ nr, nr = rs.length := ⟨_, rfl⟩
  rw [← hnr] at hrl ⊢
  have HNR := hide hnr
  have HRG : Hid (0 < nr → ∃ b o, ra = some ⟨b, o, none⟩ ∧ ∀ j, j < nr → ∀ W, Below w.heap.size w W → W.rangeAt b (o + j * 34) (rfV (rs.getD j .nul).hash (rs.getD j .nul).fi (rs.getD j .nul).ln)) := fun h0 => by
    rw [hnr] at h0 ⊢
    obtain ⟨b, o, h1, h2⟩ := hrg h0
    exact ⟨b, o, h1, fun j hj W hW => range_kept (h2 j hj) hW⟩
  generalize l0.length = n at *
  clear h hT hR hx hy hnr hrg hcc hxy
  go_enter Tryd.func8, Tryd.ntmps8
  go_wp2_with fail
  refine (unhide HTL).mono ?_
  rintro e w1 ⟨rfl, hb1⟩
  have HCU := hide (cutEn_calls (HH.out.below hb1))
  have HT1 : Hid (∀ W, Below w1.heap.size w1 W → Tabs W) := fun W hW => HT.out.below (hb1.trans (hW.mono hb1.size))
  have HB1 := hide hb1
  clear hb1 HT
  go_wp2_with fail
  refine (unhide HCU).mono ?_
  rintro e w2 ⟨⟨m, rfl, hm, hc2⟩, hw2⟩
  obtain rfl := hw2.symm
  generalize l0.take 1100 = l at *
  have HI : Hid (∀ W, Below w1.heap.size w1 W → IsEn W (.slice a m c) l) := fun W hW => hc2.below hW
  have HOK := hide hc2.ok
  have HML : Hid (m = l.length) := hc2.lenEq.1
  have hmc := hc2.lenEq.2
  have HKE := hide (keyOf_calls hc2 (unhide HT1 w1 (Below.refl _ _)))
  obtain ⟨ck, hck⟩ : ∃ ck, chkL nbL l = ck := ⟨_, rfl⟩
  have hkl := keyR_len l
  have HIK := hide (infoKof hkl)
  have HZK : Hid (z32.length = ((keyR l).map (Value.int .u8)).length) := by show _ = _; rw [z32_len, List.length_map, hkl]
  rw [hck] at HKE
  have HCKE := hide hck
  clear hw2 hc2 HCU HTL HH hck hkl
  go_upto_region 5 with (first
    | (go_at_call 14; refine (unhide HKE).mono ?_; rintro e w3 ⟨rfl, hb3⟩)
    | (refine wpList_allocZ rfl 31 rfl infoK ?_)
    | (refine wpList_storeArr2 (cs' := (keyR l).map (Value.int .u8)) rfl (.tmp 11) (.tmp 26) 31 rfl rfl rfl (Arr.new w3 z32 31) HIK.out HZK.out (u8_one _) ?_; intro w4 hA4 hw4))
  have hb4 : Below w1.heap.size w1 w4 := hb3.trans ((hw4.below _ _ (lit_blw _ _) (Nat.le_refl _)).mono hb3.size)
  obtain ⟨gk, hgk⟩ : ∃ gk, w3.heap.size = gk := ⟨_, rfl⟩
  rw [hgk] at hA4
  rw [hgk]
  have HAK : Hid (∀ W, Below w4.heap.size w4 W → Arr W gk 31 ((keyR l).map (Value.int .u8))) := fun W hW => hA4.below hW
  have HB4 := hide hb4
  have HBW := hide (HB1.out.trans (hb4.mono HB1.out.size))
  clear HKE hw4 hb3 hA4 hgk hb4
  by_cases hck0 : ck = 0
  · subst hck0
    by_cases hm0 : m = 0
    · have hmI : ((m : Int) == 0) = true := by rw [hm0]; rfl
      clear hm0
      go_wp2
      go_ret
      exact ⟨rfl, HBW.out⟩
    · have hmI : ((m : Int) == 0) = false := by rw [beq_eq_false_iff_ne]; omega
      have hmz : ¬ (m : Int) = 0 := by omega
      have HIN := hide (unhide HI w4 HB4.out)
      have hm11 : m ≤ 1100 := hm
      go_upto_region 8 with (at_builtin; refine wpList_appEn rfl (.const (.slice none 0 0)) (.tmp 35) rfl (v := .slice none 0 0) rfl (OwnE.nil w4 w4.heap.size) rfl HIN.out (by rw [← HML.out]; simp; omega) (Nat.le_refl _) ?_; intro v5 w5 ho5 hg5 hv5)
      have hb5 := below_app (Below.refl w4.heap.size w4) hg5 (Nat.le_refl _) hv5
      rw [List.nil_append] at ho5
      obtain ⟨g5, c5, hu5, hc5a, hc5b, hg5a, _⟩ : ∃ g c, v5 = .slice (some ⟨g, 0, none⟩) m c ∧ m ≤ c ∧ c ≤ 9223372036854775807 ∧ w4.heap.size ≤ g ∧ g < w5.heap.size := by
        rcases ho5.2.2 with ⟨_, h0⟩ | ⟨g, cap, cur, rfl, hb, hgg, hle, hcm, _⟩
        · have := HML.out; omega
        · exact ⟨g, cap, by rw [HML.out], by rw [HML.out]; exact hle, by simpa [maxLen] using hcm, hb, (Array.getElem?_eq_some_iff.1 hgg).1⟩
      subst hu5
      have HO5 := hide ho5
      have HB5 := hide hb5
      clear ho5 hg5 hv5 hb5 HIN
      go_wp2_with fail
      go_loopw [14] (fun iv wr => ∃ k : Nat, k ≤ m ∧ k ≤ nr ∧ iv = .int .i64 (k : Int) ∧ Hid (OwnE wr w4.heap.size (.slice (some ⟨g5, 0, none⟩) m c5) (refsF l (rs.take k)) ∧ Below w4.heap.size w4 wr)) (fun iv _ => m - (intOf iv).toNat)
      case atStart => exact ⟨0, by omega, by omega, rfl, by rw [List.take_zero, refsF_nil]; exact HO5.out, HB5.out⟩
      case round =>
        obtain ⟨k, hkm, hkr, rfl, HK⟩ := hrel
        clear HO5 HB5
        by_cases h1 : k < m
        · have h1I : (k : Int) < (m : Int) := by omega
          by_cases h2 : k < nr
          · have h2I : (k : Int) < (nr : Int) := by omega
            obtain ⟨hO, hB⟩ := HK.out
            obtain ⟨rb, ro, rfl, hrg⟩ := unhide HRG (by omega)
            have hbwr := HBW.out.trans (hB.mono HBW.out.size)
            have hrk := hrg k h2
            have hrok : RfOk (rs.getD k .nul) := rf_get HRO.out (by rw [← HNR.out]; exact h2)
            have HSTEP := hide (refsF_step l rs k (by rw [← HML.out]; exact h1) (by rw [← HNR.out]; exact h2))
            obtain ⟨r, hr⟩ : ∃ r, rs.getD k .nul = r := ⟨_, rfl⟩
            rw [hr] at hrk hrok HSTEP
            have hfi := hrk wr hbwr 32 _ (rfV_fi hrok.hash.1).1
            have HLEN : Hid ((refsF l (rs.take k)).length = m) := by show _ = _; rw [refsF_len, HML.out]
            have hgetD : (refsF l (rs.take k)).getD k .nul = l.getD k .nul := refsF_at l rs k
            have henk : EnOk (l.getD k .nul) := en_get HOK.out (by rw [← HML.out]; exact h1)
            obtain ⟨hs1, hs2⟩ := hO.cellE HLEN.out h1 (j := 66) (by omega)
            rw [hgetD] at hs1
            obtain ⟨en, hen⟩ : ∃ en, l.getD k .nul = en := ⟨_, rfl⟩
            rw [hen] at hgetD hs1 henk HSTEP
            rw [(enV_fi henk.ok).1] at hs1
            have henk2 : EnOk { en with fi := r.fi } := ⟨⟨henk.ok.nm, henk.ok.key, henk.ok.hash⟩, henk.nl, hrok.fi, henk.ln⟩
            obtain ⟨hO6, hg6⟩ := hO.put HLEN.out h1 (k := k) (j := 66) (cs := [.int .i64 r.fi]) (e' := { en with fi := r.fi }) (by simp) (by rw [hgetD]; exact put_fi henk.ok r.fi) henk2
            have HO6 : Hid (OwnE (wr.setCell ⟨g5, k * 68 + 66, none⟩ (.int .i64 r.fi)) w4.heap.size (.slice (some ⟨g5, 0, none⟩) m c5) ((refsF l (rs.take k)).set k { en with fi := r.fi })) := hO6
            have HG6 : Hid (wr.grownBy (wr.setCell ⟨g5, k * 68 + 66, none⟩ (.int .i64 r.fi)) (some g5)) := hg6
            have HB0 := hide hB
            have HBR := hide hbwr
            have HRK := hide hrk
            have HENK := hide henk
            have HENK2 := hide henk2
            have HROK := hide hrok
            clear hO hB hrg hrk hbwr hr hgetD henk henk2 hrok hen hO6 hg6 HK
            generalize hrfi : r.fi = rfi at *
            have HRFI := hide hrfi
            clear hrfi
            go_upto_region 12 with fail
            generalize wr.setCell ⟨g5, k * 68 + 66, none⟩ (.int .i64 rfi) = w6 at *
            have HB6 := hide (below_grown HB0.out HG6.out HB0.out.size hg5a)
            have HL6 : Hid (((refsF l (rs.take k)).set k { en with fi := rfi }).length = m) := by show _ = _; rw [List.length_set, HLEN.out]
            have HGD : Hid (((refsF l (rs.take k)).set k { en with fi := rfi }).getD k .nul = { en with fi := rfi }) := by
              show _ = _
              rw [List.getD_eq_getElem?_getD, List.getElem?_set_self (by rw [HLEN.out]; exact h1)]
              rfl
            obtain ⟨hd1, _⟩ := HO6.out.cellE HL6.out h1 (j := 1) (by omega)
            rw [HGD.out] at hd1
            have hd2 : w6.cell? ⟨g5, k * 68 + 1, none⟩ = some (.bool en.dir) := hd1
            clear hd1 hs1 hs2 hfi
            obtain ⟨dd, hdd⟩ : ∃ dd, en.dir = dd := ⟨_, rfl⟩
            rw [hdd] at hd2
            have HDD := hide hdd
            clear hdd
            cases dd with
            | true =>
              have HRR := hide (unhide HRK w6 (HBW.out.trans (HB6.out.mono HBW.out.size)))
              have HIR := hide (infoRof (f := rfi) (n := r.ln) HROK.out.hash.1)
              have HRL := hide (rfV_len (f := rfi) (n := r.ln) HROK.out.hash.1)
              have HEQ : Hid (({ en with fi := rfi } : Ent) = { en with fi := rfi }) := rfl
              have HEO : Hid (EnOk { en with hash := r.hash, fi := rfi, ln := r.ln }) := ⟨⟨HENK.out.ok.nm, HENK.out.ok.key, HROK.out.hash⟩, HENK.out.nl, HENK2.out.fi, HROK.out.ln⟩
              have HPU : Hid (putsV (enV { en with fi := rfi }) 34 (rfV r.hash rfi r.ln) = enV { en with hash := r.hash, fi := rfi, ln := r.ln }) := put_rf HENK2.out.ok HROK.out.hash.1
              go_wp2_with (first
                | (refine wpList_load_on rfl 50 (.tmp 68) rfl rb (ro + k * 34) rfl (rfV r.hash rfi r.ln) _ HRR.out Tryd.underlying50 rfl HIR.out ?_)
                | (refine wpList_putE rfl (.tmp 71) (.tmp 69) 50 rfl (k := k) (j := 34) (ds := rfV r.hash rfi r.ln) (e' := { en with hash := r.hash, fi := rfi, ln := r.ln }) rfl rfl HO6.out HL6.out h1 HIR.out (by rw [HRL.out]; omega) (rfV_one _ _ _) (by rw [HGD.out]; exact HPU.out) HEO.out ?_; intro w7 ho7 hg7))
              have hche : chgE en r = { en with hash := r.hash, fi := rfi, ln := r.ln } := by
                unfold chgE
                rw [if_pos HDD.out, HRFI.out]
              rw [List.set_set, ← hche, ← HSTEP.out] at ho7
              refine ⟨⟨k + 1, by omega, by omega, by go_num, ho7, below_grown HB6.out hg7 HB6.out.size hg5a⟩, ?_⟩
              simp [intOf]; omega
            | false =>
              have hche : chgE en r = { en with fi := rfi } := by
                unfold chgE
                rw [if_neg (by rw [HDD.out]; decide), HRFI.out]
              have ho7 := HO6.out
              rw [← hche, ← HSTEP.out] at ho7
              have HO7 := hide ho7
              clear ho7 hche
              go_wp2_with fail
              refine ⟨⟨k + 1, by omega, by omega, by go_num, HO7.out, HB6.out⟩, ?_⟩
              simp [intOf]; omega
          · have h2I : ¬ (k : Int) < (nr : Int) := by omega
            have HEX : Hid (OwnE wr w4.heap.size (.slice (some ⟨g5, 0, none⟩) m c5) (refsF l rs) ∧ Below w4.heap.size w4 wr) := by
              have := HK.out
              rw [refsF_end l rs (k := k) (Or.inr (by rw [← HNR.out]; omega))] at this
              exact this
            clear HK
            obtain ⟨hO, hB⟩ := HEX.out
            have HKE2 := hide (keyOf_calls hO.isEn (unhide HT1 wr (HB4.out.trans (hB.mono HB4.out.size))))
            have hkl2 := keyR_len (refsF l rs)
            have HIK2 := hide (infoKof hkl2)
            have HZK2 : Hid (z32.length = ((keyR (refsF l rs)).map (Value.int .u8)).length) := by show _ = _; rw [z32_len, List.length_map, hkl2]
            have HC2 := hide (chkL_nm (refsF_nm l rs) HCKE.out)
            have HP2 : Hid (chkL nbL (refsF l rs) = 0 → keyR (refsF l rs) = keyR l) := fun h => keyR_prj HCKE.out h (refsF_prj l rs)
            have HB0 := hide hB
            obtain ⟨ck2, hck2⟩ : ∃ ck2, chkL nbL (refsF l rs) = ck2 := ⟨_, rfl⟩
            obtain ⟨K2, hK2⟩ : ∃ K2, keyR (refsF l rs) = K2 := ⟨_, rfl⟩
            rw [hck2, hK2] at HKE2
            rw [hck2, hK2] at HP2
            rw [hck2] at HC2
            rw [hK2] at HIK2 HZK2 hkl2
            clear hO hB HEX hck2 hK2
            go_upto_region 15 with (first
              | (go_at_call 14; refine (unhide HKE2).mono ?_; rintro e w7 ⟨rfl, hb7⟩)
              | (refine wpList_allocZ rfl 31 rfl infoK ?_)
              | (refine wpList_storeArr2 (cs' := K2.map (Value.int .u8)) rfl (.tmp 15) (.tmp 75) 31 rfl rfl rfl (Arr.new w7 z32 31) HIK2.out HZK2.out (u8_one _) ?_; intro w8 hA8 hw8))
            have hbr8 : Below wr.heap.size wr w8 := hb7.trans ((hw8.below _ _ (lit_blw _ _) (Nat.le_refl _)).mono hb7.size)
            have HB48 : Hid (Below w4.heap.size w4 w8) := HB0.out.trans (hbr8.mono HB0.out.size)
            obtain ⟨g15, hg15⟩ : ∃ g15, w7.heap.size = g15 := ⟨_, rfl⟩
            rw [hg15] at hA8
            rw [hg15]
            have HA15 : Hid (∀ W, Below w8.heap.size w8 W → Arr W g15 31 (K2.map (Value.int .u8))) := fun W hW => hA8.below hW
            have HAK8 : Hid (∀ W, Below w8.heap.size w8 W → Arr W gk 31 ((keyR l).map (Value.int .u8))) := fun W hW => unhide HAK W (HB48.out.trans (hW.mono HB48.out.size))
            have HGL : Hid (w4.heap.size ≤ g15) := by show _ ≤ _; rw [← hg15]; exact Nat.le_trans HB0.out.size hb7.size
            have HNG : Hid (gk ≠ g15) := fun e => by
              have h1 := (unhide HAK w4 (Below.refl _ _)).lt
              have h2 := HGL.out
              omega
            clear HKE2 hw8 hb7 hbr8 hg15 hA8 HB0
            go_cut [91] (fun v wc => v = .bool false ∧ w8 = wc)
            case first =>
              have HR15 := hide (unhide HA15 w8 (Below.refl _ _)).range
              have HRK := hide (unhide HAK8 w8 (Below.refl _ _)).range
              by_cases hz : ck2 = 0
              · subst hz
                have hkk := unhide HP2 rfl
                subst hkk
                have hke := key_neq (keyR l) (keyR l) hkl2 hkl2
                rw [decide_eq_true rfl] at hke
                have hkg := key_guard
                go_wp2_with (first
                  | (refine wpList_load_on rfl 31 (.tmp 15) rfl g15 0 rfl ((keyR l).map (Value.int .u8)) _ HR15.out Tryd.underlying31 rfl HIK.out ?_)
                  | (refine wpList_load_on rfl 31 (.tmp 11) rfl gk 0 rfl ((keyR l).map (Value.int .u8)) _ HRK.out Tryd.underlying31 rfl HIK.out ?_))
                go_meet
                exact ⟨rfl, rfl⟩
              · have h80 : ck2 = 80 := HC2.out.resolve_left hz
                subst h80
                clear hz
                go_wp2
                go_meet
                exact ⟨rfl, rfl⟩
            obtain ⟨rfl, rfl⟩ := hcut
            have HBW8 := hide (HBW.out.trans (HB48.out.mono HBW.out.size))
            have HIN8 := hide (unhide HI w8 (HB4.out.trans (HB48.out.mono HB4.out.size)))
            clear HC2 HP2
            go_upto_region 18 with (at_builtin; refine wpList_appEn rfl (.const (.slice none 0 0)) (.tmp 92) rfl (v := .slice none 0 0) rfl (OwnE.nil w8 w8.heap.size) rfl HIN8.out (by rw [← HML.out]; simp; omega) (Nat.le_refl _) ?_; intro v9 w9 ho9 hg9 hv9)
            have hb9 := below_app (Below.refl w8.heap.size w8) hg9 (Nat.le_refl _) hv9
            rw [List.nil_append] at ho9
            obtain ⟨g9, c9, hu9, hc9a, hc9b, hg9a, _⟩ : ∃ g c, v9 = .slice (some ⟨g, 0, none⟩) m c ∧ m ≤ c ∧ c ≤ 9223372036854775807 ∧ w8.heap.size ≤ g ∧ g < w9.heap.size := by
              rcases ho9.2.2 with ⟨_, h0⟩ | ⟨g, cap, cur, rfl, hb, hgg, hle, hcm, _⟩
              · have := HML.out; omega
              · exact ⟨g, cap, by rw [HML.out], by rw [HML.out]; exact hle, by simpa [maxLen] using hcm, hb, (Array.getElem?_eq_some_iff.1 hgg).1⟩
            subst hu9
            have HO9 := hide ho9
            have HB9 := hide hb9
            clear ho9 hg9 hv9 hb9 HIN8
            go_upto_if 95 with fail
            go_cut [2] (fun v wc => ∃ q : Nat, v = .int .i64 (q : Int) ∧ w9 = wc)
            case first =>
              obtain ⟨hx1, hx2⟩ := HX.out
              by_cases hxn : x < 0
              · obtain ⟨q, hq⟩ := Int.eq_ofNat_of_zero_le (show 0 ≤ -(x + 1) by omega)
                have hwa : IntKind.i64.wrap (x + 1) = x + 1 := IntWalk.i64_in _ (by omega)
                have hwb : IntKind.i64.wrap (-(x + 1)) = (q : Int) := by rw [← hq]; exact IntWalk.i64_in _ (by omega)
                clear hq
                go_wp2
                go_meet
                exact ⟨q, rfl, rfl⟩
              · obtain ⟨q, rfl⟩ := Int.eq_ofNat_of_zero_le (show 0 ≤ x by omega)
                go_wp2
                go_meet
                exact ⟨q, rfl, rfl⟩
            obtain ⟨q, rfl, rfl⟩ := hcut
            obtain ⟨k9, hk9⟩ : ∃ k9 : Nat, k9 = q % m := ⟨_, rfl⟩
            have hkm9 : k9 < m := by rw [hk9]; exact Nat.mod_lt _ (by omega)
            have hqm : (q : Int).tmod (m : Int) = (k9 : Int) := by rw [Int.tmod_eq_emod_of_nonneg (by omega), hk9]; omega
            have hkw : IntKind.i64.wrap (k9 : Int) = (k9 : Int) := IntWalk.i64_in _ (by omega)
            have hkI : (k9 : Int) < (m : Int) := by omega
            have hk0 : (0 : Int) ≤ (k9 : Int) := by omega
            clear hk9
            have henk : EnOk (l.getD k9 .nul) := en_get HOK.out (by rw [← HML.out]; exact hkm9)
            have hcl : ∀ j, j < 68 → w9.cell? ⟨g9, k9 * 68 + j, none⟩ = (enV (l.getD k9 .nul))[j]? ∧ w9.frozen? ⟨g9, k9 * 68 + j, none⟩ = false := fun j hj => HO9.out.cellE HML.out.symm hkm9 hj
            have HSET := hide (fun e he hm2 => key_set (l := l) (i := k9) (by rw [← HML.out]; exact hkm9) (e := e) HOK.out he HCKE.out hm2)
            obtain ⟨en, hen⟩ : ∃ en, l.getD k9 .nul = en := ⟨_, rfl⟩
            rw [hen] at henk hcl HSET
            have HEN := hide hen
            have HENK := hide henk
            have HCL := hide hcl
            have HPUT : Hid (∀ j cs e', j + cs.length ≤ 68 → putsV (enV en) j cs = enV e' → EnOk e' → OwnE (w9.setCells g9 (k9 * 68 + j) cs) w8.heap.size (.slice (some ⟨g9, 0, none⟩) m c9) (l.set k9 e') ∧ w9.grownBy (w9.setCells g9 (k9 * 68 + j) cs) (some g9)) := fun j cs e' hj he ho => HO9.out.put HML.out.symm hkm9 hj (by rw [hen]; exact he) ho
            clear hen henk hcl
            obtain ⟨R, hRe⟩ : ∃ R, y.tmod 4 = R := ⟨_, rfl⟩
            have hRb : -3 ≤ R ∧ R ≤ 3 := by
              obtain ⟨hy1, hy2⟩ := HY.out
              rw [← hRe]
              by_cases h : y < 0
              · have e1 : y.tmod 4 = -((-y).tmod 4) := by rw [Int.neg_tmod, Int.neg_neg]
                have e2 := Int.tmod_eq_emod_of_nonneg (a := -y) (b := 4) (by omega)
                omega
              · have e2 := Int.tmod_eq_emod_of_nonneg (a := y) (b := 4) (by omega)
                omega
            have hRw : IntKind.i64.wrap R = R := IntWalk.i64_in _ (by omega)
            have HBW9 := hide (HBW8.out.trans (HB9.out.mono HBW8.out.size))
            have HLW := hide hkl2
            have HRB := hide hRb
            clear hkl2 HX HY
            have hR0 : R = 0 := by rw [← hRe]; exact HCC.out
            subst hR0
            clear hRb
            obtain ⟨st, hst⟩ : ∃ st, mkS en.nm = st := ⟨_, rfl⟩
            obtain ⟨st2, hst2⟩ : ∃ st2, mkS (en.nm ++ [45]) = st2 := ⟨_, rfl⟩
            have hc1 := (HCL.out 0 (by omega)).1
            have hf1 := (HCL.out 0 (by omega)).2
            rw [Nat.add_zero] at hc1 hf1
            rw [show (enV en)[0]? = some (.string (mkS en.nm)) from rfl, hst] at hc1
            have hcat : st ++ ⟨#[45]⟩ = st2 := by rw [← hst, ← hst2]; exact mkS_snoc en.nm 45
            have hsz : ¬ 9223372036854775807 < st.size + 1 := by rw [← hst, mkS_size]; have := HENK.out.nl; omega
            obtain ⟨e2, he2⟩ : ∃ e2 : Ent, e2 = { en with nm := en.nm ++ [45] } := ⟨_, rfl⟩
            have he2k : EnOk e2 := by
              rw [he2]
              refine ⟨⟨fun c hc => ?_, HENK.out.ok.key, HENK.out.ok.hash⟩, ?_, HENK.out.fi, HENK.out.ln⟩
              · rcases List.mem_append.1 hc with hc | hc
                · exact HENK.out.ok.nm c hc
                · rw [List.mem_singleton.1 hc]; omega
              · show (en.nm ++ [45]).length ≤ _
                have := (entIn_of HOK.out HCKE.out en (by rw [← HEN.out, List.getD_eq_getElem?_getD, List.getElem?_eq_getElem (by rw [← HML.out]; exact hkm9)]; exact List.getElem_mem _)).nm
                simp
                omega
            have HPR : Hid (prj e2 ≠ prj en) := fun h => by
              rw [he2] at h
              have h1 : en.nm ++ [45] = en.nm := congrArg (fun x => x.1) h
              have h2 := congrArg List.length h1
              simp at h2
            obtain ⟨hO1, hg1⟩ := unhide HPUT 0 [.string st2] e2 (by simp) (by rw [← hst2, he2]; exact put_nm en _) he2k
            rw [Nat.add_zero] at hO1 hg1
            have HO1 : Hid (OwnE (w9.setCell ⟨g9, k9 * 68, none⟩ (.string st2)) w8.heap.size (.slice (some ⟨g9, 0, none⟩) m c9) (l.set k9 e2)) := hO1
            have HG1 : Hid (w9.grownBy (w9.setCell ⟨g9, k9 * 68, none⟩ (.string st2)) (some g9)) := hg1
            have HE2K := hide he2k
            clear hO1 hg1 he2k he2 hst2 hst HPUT HCL
            go_upto_region 30 with fail
            generalize w9.setCell ⟨g9, k9 * 68, none⟩ (.string st2) = w10 at *
            have HB10 := hide (below_grown HB9.out HG1.out HB9.out.size hg9a)
            have HB14 := hide (HB4.out.trans ((HB48.out.trans (HB10.out.mono HB48.out.size)).mono HB4.out.size))
            have HKE3 := hide (keyOf_calls HO1.out.isEn (unhide HT1 w10 HB14.out))
            have hsu := unhide HSET e2 HE2K.out
            have hgd2 : (l.set k9 e2).getD k9 .nul = e2 := by
              rw [List.getD_eq_getElem?_getD, List.getElem?_set_self (by rw [← HML.out]; exact hkm9)]
              rfl
            have hln2' : (l.set k9 e2).length = m := by rw [List.length_set, HML.out]
            obtain ⟨l2, hl2⟩ : ∃ l2, l.set k9 e2 = l2 := ⟨_, rfl⟩
            rw [hl2] at HKE3 hsu HO1 hgd2 hln2'
            have hkl3 := keyR_len l2
            have HKL1 := hide (keyR_len l)
            have HIK3 := hide (infoKof hkl3)
            have HZK3 : Hid ((K2.map (Value.int .u8)).length = ((keyR l2).map (Value.int .u8)).length) := by show _ = _; rw [List.length_map, List.length_map, hkl3, HLW.out]
            obtain ⟨ck3, hck3⟩ : ∃ ck3, chkL nbL l2 = ck3 := ⟨_, rfl⟩
            have HC3 := hide hck3
            rw [hck3] at HKE3
            have HSU := hide hsu
            have HGD2 := hide hgd2
            have HLN2 := hide hln2'
            have HKL3 := hide hkl3
            clear hck3 hl2 hsu hkl3 hc1 hf1 hgd2 hln2'
            go_upto_region 31 with (first
              | (go_at_call 14; refine (unhide HKE3).mono ?_; rintro e w11 ⟨rfl, hb11⟩; have HA11 := hide (unhide HA15 w11 (HB10.out.trans (hb11.mono HB10.out.size))))
              | (refine wpList_storeArr2 (cs' := (keyR l2).map (Value.int .u8)) rfl (.tmp 15) (.tmp 170) 31 rfl rfl rfl HA11.out HIK3.out HZK3.out (u8_one _) ?_; intro w12 hA12 hw12))
            have hb811 := HB10.out.trans (hb11.mono HB10.out.size)
            have hb111 := HB14.out.trans (hb11.mono HB14.out.size)
            have hb112 : Below w1.heap.size w1 w12 := hw12.below _ _ hb111 (Nat.le_trans HB4.out.size HGL.out)
            have HIL := hide (unhide HI w12 hb112)
            have HO12 : Hid (OwnE w12 w8.heap.size (.slice (some ⟨g9, 0, none⟩) m c9) l2) := (HO1.out.below hb11).kept (grown_wrote hw12) ((HO1.out.below hb11).block HA11.out (by decide))
            have HK12 := hide ((unhide HAK8 w11 hb811).wrote hw12 HNG.out).range
            have HR12 := hide hA12.range
            have HBE := hide (HB1.out.trans (hb112.mono HB1.out.size))
            clear HKE3 hb11 hA12 hw12 hb811 hb111 hb112 HA11
            have hkg := key_guard
            by_cases hc30 : ck3 = 0
            · subst hc30
              have HNE : Hid (keyL l ≠ keyL l2) := fun h => HPR.out ((HSU.out HC3.out).1 h)
              go_upto_region 34 with fail
              have hke := key_eql (keyR l2) (keyR l) HKL3.out HKL1.out
              have HCLA := hide (clash_calls HIL.out HO12.out.isEn HCKE.out HC3.out HNE.out)
              have HKR3 : Hid (keyR l2 = shaOf (keyL l2)) := by show _ = _; unfold keyR; rw [if_pos HC3.out]
              have HKR1 : Hid (keyR l = shaOf (keyL l)) := by show _ = _; unfold keyR; rw [if_pos HCKE.out]
              by_cases hqb : keyR l2 = keyR l
              · rw [decide_eq_true hqb] at hke
                have hse : shaOf (keyL l) = shaOf (keyL l2) := by rw [← HKR1.out, ← HKR3.out, hqb]
                rw [decide_eq_true hse] at HCLA
                clear hse hqb
                go_wp2_with (first
                  | (refine wpList_load_on rfl 31 (.tmp 15) rfl g15 0 rfl ((keyR l2).map (Value.int .u8)) _ HR12.out Tryd.underlying31 rfl HIK3.out ?_)
                  | (refine wpList_load_on rfl 31 (.tmp 11) rfl gk 0 rfl ((keyR l).map (Value.int .u8)) _ HK12.out Tryd.underlying31 rfl HIK.out ?_)
                  | (go_at_call 27; refine (unhide HCLA).mono ?_; rintro e w13 ⟨rfl, hb13⟩))
                go_ret
                exact ⟨rfl, HBE.out.trans (hb13.mono HBE.out.size)⟩
              · rw [decide_eq_false hqb] at hke
                clear hqb
                go_wp2_with (first
                  | (refine wpList_load_on rfl 31 (.tmp 15) rfl g15 0 rfl ((keyR l2).map (Value.int .u8)) _ HR12.out Tryd.underlying31 rfl HIK3.out ?_)
                  | (refine wpList_load_on rfl 31 (.tmp 11) rfl gk 0 rfl ((keyR l).map (Value.int .u8)) _ HK12.out Tryd.underlying31 rfl HIK.out ?_))
                go_ret
                exact ⟨rfl, HBE.out⟩
            · have HKZ : Hid (keyR l2 = zK) := by show _ = _; unfold keyR; rw [if_neg (by rw [HC3.out]; exact hc30)]; rfl
              have hke := key_eql (keyR l2) zK HKL3.out zK_len
              rw [decide_eq_true HKZ.out] at hke
              go_wp2_with (first
                | (refine wpList_load_on rfl 31 (.tmp 15) rfl g15 0 rfl ((keyR l2).map (Value.int .u8)) _ HR12.out Tryd.underlying31 rfl HIK3.out ?_)
                | (refine wpList_bld0 rfl 31 rfl bK0z ?_))
              go_ret
              exact ⟨rfl, HBE.out⟩
        · have h1I : ¬ (k : Int) < (m : Int) := by omega
          have HEX : Hid (OwnE wr w4.heap.size (.slice (some ⟨g5, 0, none⟩) m c5) (refsF l rs) ∧ Below w4.heap.size w4 wr) := by
            have := HK.out
            rw [refsF_end l rs (k := k) (Or.inl (by rw [← HML.out]; omega))] at this
            exact this
          clear HK
          exact absurd HXY.out (by have h1 := HML.out; have h2 := HNR.out; omega)
  · go_wp2
    go_ret
    exact ⟨rfl, HBW.out⟩
end Go.Proofs.YtpklbchbldipnaaDoor
