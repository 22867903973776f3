/- The document's Print. -/
import Derived.Test.YtcdilcjgmcamcabTkPn
namespace Go.Proofs.Ytcdilcjgmcamcab
open Go.RowKit Go.Maps

theorem writ_le {l : List Tok} {i : Nat} (hi : i < l.length) : (writL (l.getD i .nul).kind (l.getD i .nul).text).length ≤ (printL l false).length := by
  have h1 := pAcc_le l (i + 1)
  rw [pAcc_step hi, List.length_append] at h1
  omega
theorem writ_size (x : Tok) (h : x.kind = 1 ∨ x.kind = 2) : x.text.size ≤ (writL x.kind x.text).length := by
  unfold writL
  rcases h with h | h
  · rw [if_pos h, len_data]; omega
  · rw [if_neg (by omega), if_pos h]
    have := quote_len x.text.data.toList
    rw [len_data] at this
    omega
theorem ap_cl (k : Int) : ap k = (decide (k ≠ 7) && !clI k) := by
  unfold ap clI
  rw [Bool.eq_iff_iff]
  simp
  omega
set_option maxRecDepth 100000 in
set_option maxHeartbeats 8000000 in
theorem rprint_calls {w : World} {v : Value} {l : List Tok} (h : IsTk w v l) (hT : (printL l false).length ≤ 100000000000) : Calls Try.prog 16 #[v] w fun e w' => e = .returned (.tuple #[.string (printR l).1, .int .i64 (printR l).2]) ∧ Below w.heap.size w w' := by
  obtain ⟨a, c, rfl, hlc, hcm, _, _⟩ := id h
  obtain ⟨q, hq⟩ : ∃ q, q = printR l := ⟨_, rfl⟩
  rw [← hq]
  have HQ := hide hq
  have HT := hide h
  have HTT := hide hT
  clear h hq hT
  have HCL := hide (fun (y : Int) (W : World) => rclose_calls y W)
  generalize hn : l.length = n at *
  have HN := hide hn
  clear hn
  by_cases hl7 : 0 < n ∧ (l.getD (n - 1) .nul).kind ≠ 7
  · obtain ⟨h0, h7⟩ := hl7
    obtain ⟨b, o, rfl, x0, _, _, _⟩ := HT.out.at (Below.refl _ _) (i := n - 1) (by rw [HN.out]; omega)
    have HV : Hid (q = (noText, 1)) := by
      show _ = _
      rw [HQ.out]
      unfold printR
      rw [if_pos ?_]
      cases e : okL l with
      | false => rfl
      | true =>
        have hne : l ≠ [] := by rintro rfl; have := HN.out; simp at this; omega
        have := (okL_iff.1 e).2 hne
        rw [List.getLast_eq_getElem] at this
        rw [← HN.out, List.getD_eq_getElem?_getD, List.getElem?_eq_getElem (by rw [HN.out]; omega)] at h7
        exact absurd this h7
    generalize (l.getD (n - 1) .nul).kind = xk at *
    have hwr : IntKind.i64.wrap ((n : Int) - 1) = ((n - 1 : Nat) : Int) := by rw [IntKind.wrap_i64]; omega
    have j1 : ((n - 1 : Nat) : Int) < (n : Int) := by omega
    have j0 : (0 : Int) < (n : Int) := by omega
    have b7 : (xk != 7) = true := by simpa using h7
    generalize n - 1 = m at *
    clear h7
    go_enter Try.func16, Try.ntmps16
    go_wp2
    go_ret2
    exact ⟨by rw [HV.out]; rfl, Below.refl _ _⟩
  · have HL7 : Hid (0 < n → (l.getD (n - 1) .nul).kind = 7) := fun h => Classical.byContradiction fun e => hl7 ⟨h, e⟩
    clear hl7
    have HFIN : Hid ((∀ k, k < n → okT (l.getD k .nul) = true) → q = if 65536 < (printL l false).length then (noText, 2) else (bs (printL l false), 0)) := fun hall => by
      rw [HQ.out]
      unfold printR
      have hok : okL l = true := by
        by_cases h0 : 0 < n
        · rw [okL_all (fun k hk => hall k (by rw [HN.out] at hk; exact hk)) (by rw [HN.out]; exact h0), HN.out, decide_eq_true (HL7.out h0)]
        · have : l = [] := List.length_eq_zero_iff.1 (by rw [HN.out]; omega)
          rw [this]; rfl
      rw [if_neg (by rw [hok]; decide)]
    have HBAD : Hid (∀ k, k < n → okT (l.getD k .nul) = false → q = (noText, 1)) := fun k hk h => by
      rw [HQ.out]
      unfold printR
      rw [if_pos (okL_no (by rw [HN.out]; exact hk) h)]
    by_cases hn0 : n = 0
    · have hl0 : l = [] := List.length_eq_zero_iff.1 (by rw [HN.out]; exact hn0)
      have HV : Hid (q = (⟨#[]⟩, 0)) := by
        show _ = _
        rw [HFIN.out (fun k hk => by omega), hl0, if_neg (by decide)]
        rfl
      have j0 : ¬ (0 : Int) < (n : Int) := by omega
      have HN0 := hide hn0
      clear hn0 hl0
      have hcv := conv_isB (isB_nil w)
      rw [show mkS [] = ⟨#[]⟩ from rfl] at hcv
      go_enter Try.func16, Try.ntmps16
      go_wp2_with fail
      go_loop [4, 5] (fun ov iv => ov = .slice none 0 0 ∧ iv = .int .i64 0) (fun _ _ => 0)
      case atStart => exact ⟨rfl, rfl⟩
      case round =>
        obtain ⟨rfl, rfl⟩ := hrel
        go_wp2
        try rw [Exit.noGoto_ret]
        go_ret2
        exact ⟨by rw [HV.out]; rfl, Below.refl _ _⟩
    · have j0 : (0 : Int) < (n : Int) := by omega
      obtain ⟨b, o, rfl, y0, _, _, _⟩ := HT.out.at (Below.refl _ _) (i := n - 1) (by rw [HN.out]; omega)
      rw [HL7.out (by omega)] at y0
      have hwr : IntKind.i64.wrap ((n : Int) - 1) = ((n - 1 : Nat) : Int) := by rw [IntKind.wrap_i64]; omega
      have j1 : ((n - 1 : Nat) : Int) < (n : Int) := by omega
      generalize n - 1 = m at y0 hwr j1
      go_enter Try.func16, Try.ntmps16
      go_wp2_with fail
      clear y0 hwr j1
      go_loopw [4, 5] (fun ov iv wq => ∃ i : Nat, i ≤ n ∧ iv = .int .i64 (i : Int) ∧ Hid (Own8 wq w.heap.size ov (iL (pAcc l i)) ∧ ∀ k, k < i → okT (l.getD k .nul) = true) ∧ Below w.heap.size w wq) (fun _ iv _ => n - (intOf iv).toNat)
      case atStart => exact ⟨0, by omega, rfl, ⟨Own8.nil _ _, fun k hk => absurd hk (by omega)⟩, Below.refl _ _⟩
      case round =>
        rename World => w3
        obtain ⟨i, hin, rfl, HB, hbw⟩ := hrel
        obtain ⟨a8, n8, c8, hv8⟩ := HB.out.1.shape
        subst hv8
        have HPL := hide (Nat.le_trans (pAcc_le l i) HTT.out)
        by_cases hlt : i < n
        · have hI : (i : Int) < (n : Int) := by omega
          have hil : i < l.length := by rw [HN.out]; exact hlt
          obtain ⟨b', o', hba, x0, x1, x2, x3⟩ := HT.out.at hbw (i := i) hil
          injection hba with hba
          injection hba with e1 e2 _
          subst e1 e2
          have HSTP := hide (pAcc_step hil)
          have HWL := hide (Nat.le_trans (writ_le hil) HTT.out)
          have HSZ := hide (writ_size (l.getD i .nul))
          have HBD := hide (HBAD.out i hlt)
          have HGO : Hid (okT (l.getD i .nul) = true → ∀ k, k < i + 1 → okT (l.getD k .nul) = true) := fun h k hk => by
            by_cases e : k = i
            · subst e; exact h
            · exact HB.out.2 k (by omega)
          have HSEP : Hid (sepB l i = (decide (0 < i) && ap (l.getD (i - 1) .nul).kind && ap (l.getD i .nul).kind)) := rfl
          generalize hsp : sepB l i = sp at *
          generalize hxe : l.getD i .nul = x at *
          have HXX := hide hxe
          clear hxe
          clear hsp hil
          obtain ⟨xk, xt, xl, xp⟩ := x
          simp only at x0 x1 x2 x3
          have hsz : xk = 1 ∨ xk = 2 → xt.size ≤ 100000000000 := fun e => Nat.le_trans (HSZ.out e) HWL.out
          by_cases k1 : xk < 1
          · have HV : Hid (q = (noText, 1)) := HBD.out (decide_eq_false fun hh => by have h1 : 1 ≤ xk := hh.1; omega)
            clear hsz
            go_wp2
            try rw [Exit.noGoto_ret]
            go_ret2
            exact ⟨by rw [HV.out]; rfl, hbw⟩
          · by_cases k7 : 7 < xk
            · have HV : Hid (q = (noText, 1)) := HBD.out (decide_eq_false fun hh => by have h1 : xk ≤ 7 := hh.2.1; omega)
              clear hsz
              go_wp2
              try rw [Exit.noGoto_ret]
              go_ret2
              exact ⟨by rw [HV.out]; rfl, hbw⟩
            · by_cases hk1 : xk = 1
              · subst hk1
                have HWD := hide (rword_calls xt (by have := hsz (Or.inl rfl); omega) w3)
                cases hw : wordB xt with
                | false =>
                  have HV : Hid (q = (noText, 1)) := HBD.out (decide_eq_false fun hh => by have := hh.2.2 rfl; rw [hw] at this; cases this)
                  rw [hw] at HWD
                  clear hsz hw k1 k7
                  go_wp2_with fail
                  refine (unhide HWD).mono ?_
                  rintro e w4 ⟨rfl, hw4⟩
                  obtain rfl := hw4.symm
                  go_wp2
                  try rw [Exit.noGoto_ret]
                  go_ret2
                  exact ⟨by rw [HV.out]; rfl, hbw⟩
                | true =>
                  have HI2 := hide (HGO.out (decide_eq_true ⟨by show (1 : Int) ≤ 1; decide, by show (1 : Int) ≤ 7; decide, fun _ => hw⟩))
                  rw [hw] at HWD
                  have HAX : Hid (ap 1 = true) := rfl
                  have HS2 := hide hsz
                  clear hsz hw k1 k7
                  go_wp2_with fail
                  refine (unhide HWD).mono ?_
                  rintro e w4 ⟨rfl, hw4⟩
                  obtain rfl := hw4.symm
                  clear hw4
                  by_cases h0 : i = 0
                  · have hsp : sp = false := by rw [HSEP.out, h0]; rfl
                    have ji : ¬ (0 : Int) < (i : Int) := by omega
                    clear h0
                    have HWR := hide (rwritten_calls ⟨1, xt, xl, xp⟩ (fun e => HS2.out (Or.inr e)) w3)
                    unfold tkC at HWR
                    simp only at HWR
                    have HE : Hid (pAcc l (i + 1) = (pAcc l i) ++ writL 1 xt) := by
                      show _ = _
                      rw [HSTP.out, hsp]
                      simp
                    have hLL : (pAcc l i).length + (bs (writL 1 xt)).size ≤ 140737488355328 := by have h1 := HPL.out; have h2 : (writL 1 xt).length ≤ 100000000000 := HWL.out; rw [bs_size]; simp; omega
                    have HLL := hide hLL
                    have hwl : bs (writL 1 xt) = bs (writL 1 xt) := rfl
                    obtain ⟨wl, hwl⟩ : ∃ wl, wl = bs (writL 1 xt) := ⟨_, rfl⟩
                    rw [← hwl] at HWR HLL
                    have HWLD : Hid (wl.data.toList = writL 1 xt) := by show _ = _; rw [hwl, bs_L]
                    clear hLL hwl HSTP HSEP
                    obtain ⟨z0, z1, z2, z3⟩ := id (And.intro x0 (And.intro x1 (And.intro x2 x3)))
                    go_wp2_with (first | fail)
                    refine (unhide HWR).mono ?_
                    rintro e w6 ⟨rfl, hb6⟩
                    have HO6 := hide ((HB.out.1).below hb6)
                    have hb06 := (hbw).trans (hb6.mono (hbw).size)
                    have hsz6 := hb06.size
                    go_wp2_with (first | (at_builtin; refine wpList_appSt rfl (.tmp 83) (.tmp 88) rfl rfl HO6.out rfl HLL.out hsz6 ?_; intro v7 w7 hO7 hg7; (have hb7 := below8 hb06 HO6.out hg7); (have HO7 := hide hO7); (obtain ⟨a7, n7, c7, hv7⟩ := hO7.shape); subst hv7; clear hO7 hg7))
                    rw [HWLD.out, ← HE.out] at HO7
                    go_roundw
                    case rel => exact ⟨i + 1, by omega, by go_num, ⟨HO7.out, HI2.out⟩, hb7⟩
                    case measure => simp [intOf]; omega
                  · have ji : (0 : Int) < (i : Int) := by omega
                    obtain ⟨b', o', hba, y0, _, _, _⟩ := HT.out.at hbw (i := i - 1) (by rw [HN.out]; omega)
                    injection hba with hba
                    injection hba with e1 e2 _
                    subst e1 e2
                    have hwr : IntKind.i64.wrap ((i : Int) - 1) = ((i - 1 : Nat) : Int) := by rw [IntKind.wrap_i64]; omega
                    have jm : ((i - 1 : Nat) : Int) < (n : Int) := by omega
                    have HSP2 : Hid (sp = ((decide ((l.getD (i - 1) .nul).kind ≠ 7) && !clI (l.getD (i - 1) .nul).kind) && (decide ((1 : Int) ≠ 7) && !clI 1))) := by show _ = _; rw [HSEP.out, decide_eq_true (by omega), ← ap_cl, ← ap_cl]; rfl
                    generalize (l.getD (i - 1) .nul).kind = yk at *
                    generalize i - 1 = im at *
                    clear h0
                    have HD7 : Hid (decide ((1 : Int) ≠ 7) = true) := rfl
                    by_cases y7 : yk = 7
                    · have hsp : sp = false := by rw [HSP2.out, y7]; simp
                      have by7 : (yk != 7) = false := by rw [y7]; rfl
                      clear y7 HSP2
                      have HWR := hide (rwritten_calls ⟨1, xt, xl, xp⟩ (fun e => HS2.out (Or.inr e)) w3)
                      unfold tkC at HWR
                      simp only at HWR
                      have HE : Hid (pAcc l (i + 1) = (pAcc l i) ++ writL 1 xt) := by
                        show _ = _
                        rw [HSTP.out, hsp]
                        simp
                      have hLL : (pAcc l i).length + (bs (writL 1 xt)).size ≤ 140737488355328 := by have h1 := HPL.out; have h2 : (writL 1 xt).length ≤ 100000000000 := HWL.out; rw [bs_size]; simp; omega
                      have HLL := hide hLL
                      have hwl : bs (writL 1 xt) = bs (writL 1 xt) := rfl
                      obtain ⟨wl, hwl⟩ : ∃ wl, wl = bs (writL 1 xt) := ⟨_, rfl⟩
                      rw [← hwl] at HWR HLL
                      have HWLD : Hid (wl.data.toList = writL 1 xt) := by show _ = _; rw [hwl, bs_L]
                      clear hLL hwl HSTP HSEP
                      obtain ⟨z0, z1, z2, z3⟩ := id (And.intro x0 (And.intro x1 (And.intro x2 x3)))
                      go_wp2_with (first | fail)
                      refine (unhide HWR).mono ?_
                      rintro e w6 ⟨rfl, hb6⟩
                      have HO6 := hide ((HB.out.1).below hb6)
                      have hb06 := (hbw).trans (hb6.mono (hbw).size)
                      have hsz6 := hb06.size
                      go_wp2_with (first | (at_builtin; refine wpList_appSt rfl (.tmp 83) (.tmp 88) rfl rfl HO6.out rfl HLL.out hsz6 ?_; intro v7 w7 hO7 hg7; (have hb7 := below8 hb06 HO6.out hg7); (have HO7 := hide hO7); (obtain ⟨a7, n7, c7, hv7⟩ := hO7.shape); subst hv7; clear hO7 hg7))
                      rw [HWLD.out, ← HE.out] at HO7
                      go_roundw
                      case rel => exact ⟨i + 1, by omega, by go_num, ⟨HO7.out, HI2.out⟩, hb7⟩
                      case measure => simp [intOf]; omega
                    · have by7 : (yk != 7) = true := by simpa using y7
                      have HY7 : Hid (decide (yk ≠ 7) = true) := decide_eq_true y7
                      clear y7
                      have HCX := hide (fun W => unhide HCL 1 W)
                      have HCY := hide (fun W => unhide HCL yk W)
                      cases hcx : clI 1 with
                      | true =>
                        have hsp : sp = false := by rw [HSP2.out, hcx]; simp
                        rw [hcx] at HCX
                        clear hcx HSP2
                        go_wp2_with fail
                        refine (unhide HCX _).mono ?_
                        rintro e w4 ⟨rfl, hw4⟩
                        obtain rfl := hw4.symm
                        clear hw4
                        have HWR := hide (rwritten_calls ⟨1, xt, xl, xp⟩ (fun e => HS2.out (Or.inr e)) w3)
                        unfold tkC at HWR
                        simp only at HWR
                        have HE : Hid (pAcc l (i + 1) = (pAcc l i) ++ writL 1 xt) := by
                          show _ = _
                          rw [HSTP.out, hsp]
                          simp
                        have hLL : (pAcc l i).length + (bs (writL 1 xt)).size ≤ 140737488355328 := by have h1 := HPL.out; have h2 : (writL 1 xt).length ≤ 100000000000 := HWL.out; rw [bs_size]; simp; omega
                        have HLL := hide hLL
                        have hwl : bs (writL 1 xt) = bs (writL 1 xt) := rfl
                        obtain ⟨wl, hwl⟩ : ∃ wl, wl = bs (writL 1 xt) := ⟨_, rfl⟩
                        rw [← hwl] at HWR HLL
                        have HWLD : Hid (wl.data.toList = writL 1 xt) := by show _ = _; rw [hwl, bs_L]
                        clear hLL hwl HSTP HSEP
                        obtain ⟨z0, z1, z2, z3⟩ := id (And.intro x0 (And.intro x1 (And.intro x2 x3)))
                        go_wp2_with (first | fail)
                        refine (unhide HWR).mono ?_
                        rintro e w6 ⟨rfl, hb6⟩
                        have HO6 := hide ((HB.out.1).below hb6)
                        have hb06 := (hbw).trans (hb6.mono (hbw).size)
                        have hsz6 := hb06.size
                        go_wp2_with (first | (at_builtin; refine wpList_appSt rfl (.tmp 83) (.tmp 88) rfl rfl HO6.out rfl HLL.out hsz6 ?_; intro v7 w7 hO7 hg7; (have hb7 := below8 hb06 HO6.out hg7); (have HO7 := hide hO7); (obtain ⟨a7, n7, c7, hv7⟩ := hO7.shape); subst hv7; clear hO7 hg7))
                        rw [HWLD.out, ← HE.out] at HO7
                        go_roundw
                        case rel => exact ⟨i + 1, by omega, by go_num, ⟨HO7.out, HI2.out⟩, hb7⟩
                        case measure => simp [intOf]; omega
                      | false =>
                        rw [hcx] at HCX
                        cases hcy : clI yk with
                        | true =>
                          have hsp : sp = false := by rw [HSP2.out, hcy]; simp
                          rw [hcy] at HCY
                          clear hcx hcy HSP2
                          go_wp2_with fail
                          refine (unhide HCX _).mono ?_
                          rintro e w4 ⟨rfl, hw4⟩
                          obtain rfl := hw4.symm
                          clear hw4
                          go_wp2_with fail
                          refine (unhide HCY _).mono ?_
                          rintro e w4 ⟨rfl, hw4⟩
                          obtain rfl := hw4.symm
                          clear hw4
                          have HWR := hide (rwritten_calls ⟨1, xt, xl, xp⟩ (fun e => HS2.out (Or.inr e)) w3)
                          unfold tkC at HWR
                          simp only at HWR
                          have HE : Hid (pAcc l (i + 1) = (pAcc l i) ++ writL 1 xt) := by
                            show _ = _
                            rw [HSTP.out, hsp]
                            simp
                          have hLL : (pAcc l i).length + (bs (writL 1 xt)).size ≤ 140737488355328 := by have h1 := HPL.out; have h2 : (writL 1 xt).length ≤ 100000000000 := HWL.out; rw [bs_size]; simp; omega
                          have HLL := hide hLL
                          have hwl : bs (writL 1 xt) = bs (writL 1 xt) := rfl
                          obtain ⟨wl, hwl⟩ : ∃ wl, wl = bs (writL 1 xt) := ⟨_, rfl⟩
                          rw [← hwl] at HWR HLL
                          have HWLD : Hid (wl.data.toList = writL 1 xt) := by show _ = _; rw [hwl, bs_L]
                          clear hLL hwl HSTP HSEP
                          obtain ⟨z0, z1, z2, z3⟩ := id (And.intro x0 (And.intro x1 (And.intro x2 x3)))
                          go_wp2_with (first | fail)
                          refine (unhide HWR).mono ?_
                          rintro e w6 ⟨rfl, hb6⟩
                          have HO6 := hide ((HB.out.1).below hb6)
                          have hb06 := (hbw).trans (hb6.mono (hbw).size)
                          have hsz6 := hb06.size
                          go_wp2_with (first | (at_builtin; refine wpList_appSt rfl (.tmp 83) (.tmp 88) rfl rfl HO6.out rfl HLL.out hsz6 ?_; intro v7 w7 hO7 hg7; (have hb7 := below8 hb06 HO6.out hg7); (have HO7 := hide hO7); (obtain ⟨a7, n7, c7, hv7⟩ := hO7.shape); subst hv7; clear hO7 hg7))
                          rw [HWLD.out, ← HE.out] at HO7
                          go_roundw
                          case rel => exact ⟨i + 1, by omega, by go_num, ⟨HO7.out, HI2.out⟩, hb7⟩
                          case measure => simp [intOf]; omega
                        | false =>
                          have hsp : sp = true := by rw [HSP2.out, hcx, hcy, HD7.out, HY7.out]; rfl
                          rw [hcy] at HCY
                          clear hcx hcy HSP2
                          go_wp2_with fail
                          refine (unhide HCX _).mono ?_
                          rintro e w4 ⟨rfl, hw4⟩
                          obtain rfl := hw4.symm
                          clear hw4
                          go_wp2_with fail
                          refine (unhide HCY _).mono ?_
                          rintro e w4 ⟨rfl, hw4⟩
                          obtain rfl := hw4.symm
                          clear hw4
                          have HO3 := hide (HB.out.1.below ((Below.refl w3.heap.size w3).alloc (Nat.le_refl _) (.cells #[.int .u8 ((32 : UInt8).toNat : Int)] 5)))
                          have hb3 := hbw.trans (((Below.refl w3.heap.size w3).alloc (Nat.le_refl _) (.cells #[.int .u8 ((32 : UInt8).toNat : Int)] 5)).mono hbw.size)
                          have hI3 := isB_one w3 32
                          have hsz3 := hb3.size
                          have hln3 : (iL (pAcc l i)).length + (iL [32]).length ≤ 140737488355328 := by have := HPL.out; rw [iL_len, iL_len]; simp; omega
                          have HST1 : Hid (∀ W, Below w.heap.size w W → W.cell? ⟨b, o + i * 4, none⟩ = some (.int .i64 1) ∧ W.cell? ⟨b, o + i * 4 + 1, none⟩ = some (.string xt) ∧ W.cell? ⟨b, o + i * 4 + 2, none⟩ = some (.int .i64 xl) ∧ W.cell? ⟨b, o + i * 4 + 3, none⟩ = some (.int .i64 xp)) := fun W hW => by
                            obtain ⟨bz, oz, hbz, z0, z1, z2, z3⟩ := HT.out.at hW (i := i) (by rw [HN.out]; exact hlt)
                            injection hbz with hbz
                            injection hbz with e1 e2 _
                            subst e1 e2
                            rw [HXX.out] at z0 z1 z2 z3
                            exact ⟨z0, z1, z2, z3⟩
                          have HWR := hide (fun (W : World) => rwritten_calls ⟨1, xt, xl, xp⟩ (fun e => HS2.out (Or.inr e)) W)
                          unfold tkC at HWR
                          simp only at HWR
                          have HE : Hid (pAcc l (i + 1) = (pAcc l i ++ [32]) ++ writL 1 xt) := by
                            show _ = _
                            rw [HSTP.out, hsp]
                            rfl
                          have hLL : (pAcc l i ++ [32]).length + (bs (writL 1 xt)).size ≤ 140737488355328 := by have h1 := HPL.out; have h2 : (writL 1 xt).length ≤ 100000000000 := HWL.out; rw [bs_size]; simp; omega
                          have HLL := hide hLL
                          have hwl : bs (writL 1 xt) = bs (writL 1 xt) := rfl
                          obtain ⟨wl, hwl⟩ : ∃ wl, wl = bs (writL 1 xt) := ⟨_, rfl⟩
                          rw [← hwl] at HWR HLL
                          have HWLD : Hid (wl.data.toList = writL 1 xt) := by show _ = _; rw [hwl, bs_L]
                          clear hLL hwl HSTP HSEP
                          go_wp2_with (first | (at_builtin; refine wpList_appB rfl (.tmp 80) (.tmp 81) rfl rfl HO3.out rfl hI3 hln3 hsz3 ?_; intro v5 w5 hO5 hg5; (have hb5 := below8 hb3 HO3.out hg5); (have HO5 := hide hO5); (obtain ⟨a5, n5, c5, hv5⟩ := hO5.shape); subst hv5; (obtain ⟨z0, z1, z2, z3⟩ := unhide HST1 w5 hb5); clear hO5 hg5 hI3 hln3 hsz3 hb3))
                          refine (unhide HWR _).mono ?_
                          rintro e w6 ⟨rfl, hb6⟩
                          rw [← iL_app] at HO5
                          have HO6 := hide (HO5.out.below hb6)
                          have hb06 := hb5.trans (hb6.mono hb5.size)
                          have hsz6 := hb06.size
                          go_wp2_with (first | (at_builtin; refine wpList_appSt rfl (.tmp 83) (.tmp 88) rfl rfl HO6.out rfl HLL.out hsz6 ?_; intro v7 w7 hO7 hg7; (have hb7 := below8 hb06 HO6.out hg7); (have HO7 := hide hO7); (obtain ⟨a7, n7, c7, hv7⟩ := hO7.shape); subst hv7; clear hO7 hg7))
                          rw [HWLD.out, ← HE.out] at HO7
                          go_roundw
                          case rel => exact ⟨i + 1, by omega, by go_num, ⟨HO7.out, HI2.out⟩, hb7⟩
                          case measure => simp [intOf]; omega
              · have HI2 := hide (HGO.out (decide_eq_true ⟨by show 1 ≤ xk; omega, by show xk ≤ 7; omega, fun e => absurd e hk1⟩))
                have b1 : (xk == 1) = false := by simpa using hk1
                have HS2 := hide hsz
                clear hsz hk1
                by_cases h0 : i = 0
                · have hsp : sp = false := by rw [HSEP.out, h0]; rfl
                  have ji : ¬ (0 : Int) < (i : Int) := by omega
                  clear h0
                  have HWR := hide (rwritten_calls ⟨xk, xt, xl, xp⟩ (fun e => HS2.out (Or.inr e)) w3)
                  unfold tkC at HWR
                  simp only at HWR
                  have HE : Hid (pAcc l (i + 1) = (pAcc l i) ++ writL xk xt) := by
                    show _ = _
                    rw [HSTP.out, hsp]
                    simp
                  have hLL : (pAcc l i).length + (bs (writL xk xt)).size ≤ 140737488355328 := by have h1 := HPL.out; have h2 : (writL xk xt).length ≤ 100000000000 := HWL.out; rw [bs_size]; simp; omega
                  have HLL := hide hLL
                  have hwl : bs (writL xk xt) = bs (writL xk xt) := rfl
                  obtain ⟨wl, hwl⟩ : ∃ wl, wl = bs (writL xk xt) := ⟨_, rfl⟩
                  rw [← hwl] at HWR HLL
                  have HWLD : Hid (wl.data.toList = writL xk xt) := by show _ = _; rw [hwl, bs_L]
                  clear hLL hwl HSTP HSEP
                  obtain ⟨z0, z1, z2, z3⟩ := id (And.intro x0 (And.intro x1 (And.intro x2 x3)))
                  go_wp2_with (first | fail)
                  refine (unhide HWR).mono ?_
                  rintro e w6 ⟨rfl, hb6⟩
                  have HO6 := hide ((HB.out.1).below hb6)
                  have hb06 := (hbw).trans (hb6.mono (hbw).size)
                  have hsz6 := hb06.size
                  go_wp2_with (first | (at_builtin; refine wpList_appSt rfl (.tmp 83) (.tmp 88) rfl rfl HO6.out rfl HLL.out hsz6 ?_; intro v7 w7 hO7 hg7; (have hb7 := below8 hb06 HO6.out hg7); (have HO7 := hide hO7); (obtain ⟨a7, n7, c7, hv7⟩ := hO7.shape); subst hv7; clear hO7 hg7))
                  rw [HWLD.out, ← HE.out] at HO7
                  go_roundw
                  case rel => exact ⟨i + 1, by omega, by go_num, ⟨HO7.out, HI2.out⟩, hb7⟩
                  case measure => simp [intOf]; omega
                · have ji : (0 : Int) < (i : Int) := by omega
                  obtain ⟨b', o', hba, y0, _, _, _⟩ := HT.out.at hbw (i := i - 1) (by rw [HN.out]; omega)
                  injection hba with hba
                  injection hba with e1 e2 _
                  subst e1 e2
                  have hwr : IntKind.i64.wrap ((i : Int) - 1) = ((i - 1 : Nat) : Int) := by rw [IntKind.wrap_i64]; omega
                  have jm : ((i - 1 : Nat) : Int) < (n : Int) := by omega
                  have HSP2 : Hid (sp = ((decide ((l.getD (i - 1) .nul).kind ≠ 7) && !clI (l.getD (i - 1) .nul).kind) && (decide ((xk : Int) ≠ 7) && !clI xk))) := by show _ = _; rw [HSEP.out, decide_eq_true (by omega), ← ap_cl, ← ap_cl]; rfl
                  generalize (l.getD (i - 1) .nul).kind = yk at *
                  generalize i - 1 = im at *
                  clear h0
                  by_cases e7 : xk = 7
                  · have hsp : sp = false := by rw [HSP2.out, e7]; simp
                    have b7 : (xk != 7) = false := by rw [e7]; rfl
                    clear e7 HSP2
                    have HWR := hide (rwritten_calls ⟨xk, xt, xl, xp⟩ (fun e => HS2.out (Or.inr e)) w3)
                    unfold tkC at HWR
                    simp only at HWR
                    have HE : Hid (pAcc l (i + 1) = (pAcc l i) ++ writL xk xt) := by
                      show _ = _
                      rw [HSTP.out, hsp]
                      simp
                    have hLL : (pAcc l i).length + (bs (writL xk xt)).size ≤ 140737488355328 := by have h1 := HPL.out; have h2 : (writL xk xt).length ≤ 100000000000 := HWL.out; rw [bs_size]; simp; omega
                    have HLL := hide hLL
                    have hwl : bs (writL xk xt) = bs (writL xk xt) := rfl
                    obtain ⟨wl, hwl⟩ : ∃ wl, wl = bs (writL xk xt) := ⟨_, rfl⟩
                    rw [← hwl] at HWR HLL
                    have HWLD : Hid (wl.data.toList = writL xk xt) := by show _ = _; rw [hwl, bs_L]
                    clear hLL hwl HSTP HSEP
                    obtain ⟨z0, z1, z2, z3⟩ := id (And.intro x0 (And.intro x1 (And.intro x2 x3)))
                    go_wp2_with (first | fail)
                    refine (unhide HWR).mono ?_
                    rintro e w6 ⟨rfl, hb6⟩
                    have HO6 := hide ((HB.out.1).below hb6)
                    have hb06 := (hbw).trans (hb6.mono (hbw).size)
                    have hsz6 := hb06.size
                    go_wp2_with (first | (at_builtin; refine wpList_appSt rfl (.tmp 83) (.tmp 88) rfl rfl HO6.out rfl HLL.out hsz6 ?_; intro v7 w7 hO7 hg7; (have hb7 := below8 hb06 HO6.out hg7); (have HO7 := hide hO7); (obtain ⟨a7, n7, c7, hv7⟩ := hO7.shape); subst hv7; clear hO7 hg7))
                    rw [HWLD.out, ← HE.out] at HO7
                    go_roundw
                    case rel => exact ⟨i + 1, by omega, by go_num, ⟨HO7.out, HI2.out⟩, hb7⟩
                    case measure => simp [intOf]; omega
                  · have b7 : (xk != 7) = true := by simpa using e7
                    have HD7 : Hid (decide (xk ≠ 7) = true) := decide_eq_true e7
                    clear e7
                    by_cases y7 : yk = 7
                    · have hsp : sp = false := by rw [HSP2.out, y7]; simp
                      have by7 : (yk != 7) = false := by rw [y7]; rfl
                      clear y7 HSP2
                      have HWR := hide (rwritten_calls ⟨xk, xt, xl, xp⟩ (fun e => HS2.out (Or.inr e)) w3)
                      unfold tkC at HWR
                      simp only at HWR
                      have HE : Hid (pAcc l (i + 1) = (pAcc l i) ++ writL xk xt) := by
                        show _ = _
                        rw [HSTP.out, hsp]
                        simp
                      have hLL : (pAcc l i).length + (bs (writL xk xt)).size ≤ 140737488355328 := by have h1 := HPL.out; have h2 : (writL xk xt).length ≤ 100000000000 := HWL.out; rw [bs_size]; simp; omega
                      have HLL := hide hLL
                      have hwl : bs (writL xk xt) = bs (writL xk xt) := rfl
                      obtain ⟨wl, hwl⟩ : ∃ wl, wl = bs (writL xk xt) := ⟨_, rfl⟩
                      rw [← hwl] at HWR HLL
                      have HWLD : Hid (wl.data.toList = writL xk xt) := by show _ = _; rw [hwl, bs_L]
                      clear hLL hwl HSTP HSEP
                      obtain ⟨z0, z1, z2, z3⟩ := id (And.intro x0 (And.intro x1 (And.intro x2 x3)))
                      go_wp2_with (first | fail)
                      refine (unhide HWR).mono ?_
                      rintro e w6 ⟨rfl, hb6⟩
                      have HO6 := hide ((HB.out.1).below hb6)
                      have hb06 := (hbw).trans (hb6.mono (hbw).size)
                      have hsz6 := hb06.size
                      go_wp2_with (first | (at_builtin; refine wpList_appSt rfl (.tmp 83) (.tmp 88) rfl rfl HO6.out rfl HLL.out hsz6 ?_; intro v7 w7 hO7 hg7; (have hb7 := below8 hb06 HO6.out hg7); (have HO7 := hide hO7); (obtain ⟨a7, n7, c7, hv7⟩ := hO7.shape); subst hv7; clear hO7 hg7))
                      rw [HWLD.out, ← HE.out] at HO7
                      go_roundw
                      case rel => exact ⟨i + 1, by omega, by go_num, ⟨HO7.out, HI2.out⟩, hb7⟩
                      case measure => simp [intOf]; omega
                    · have by7 : (yk != 7) = true := by simpa using y7
                      have HY7 : Hid (decide (yk ≠ 7) = true) := decide_eq_true y7
                      clear y7
                      have HCX := hide (fun W => unhide HCL xk W)
                      have HCY := hide (fun W => unhide HCL yk W)
                      cases hcx : clI xk with
                      | true =>
                        have hsp : sp = false := by rw [HSP2.out, hcx]; simp
                        rw [hcx] at HCX
                        clear hcx HSP2
                        go_wp2_with fail
                        refine (unhide HCX _).mono ?_
                        rintro e w4 ⟨rfl, hw4⟩
                        obtain rfl := hw4.symm
                        clear hw4
                        have HWR := hide (rwritten_calls ⟨xk, xt, xl, xp⟩ (fun e => HS2.out (Or.inr e)) w3)
                        unfold tkC at HWR
                        simp only at HWR
                        have HE : Hid (pAcc l (i + 1) = (pAcc l i) ++ writL xk xt) := by
                          show _ = _
                          rw [HSTP.out, hsp]
                          simp
                        have hLL : (pAcc l i).length + (bs (writL xk xt)).size ≤ 140737488355328 := by have h1 := HPL.out; have h2 : (writL xk xt).length ≤ 100000000000 := HWL.out; rw [bs_size]; simp; omega
                        have HLL := hide hLL
                        have hwl : bs (writL xk xt) = bs (writL xk xt) := rfl
                        obtain ⟨wl, hwl⟩ : ∃ wl, wl = bs (writL xk xt) := ⟨_, rfl⟩
                        rw [← hwl] at HWR HLL
                        have HWLD : Hid (wl.data.toList = writL xk xt) := by show _ = _; rw [hwl, bs_L]
                        clear hLL hwl HSTP HSEP
                        obtain ⟨z0, z1, z2, z3⟩ := id (And.intro x0 (And.intro x1 (And.intro x2 x3)))
                        go_wp2_with (first | fail)
                        refine (unhide HWR).mono ?_
                        rintro e w6 ⟨rfl, hb6⟩
                        have HO6 := hide ((HB.out.1).below hb6)
                        have hb06 := (hbw).trans (hb6.mono (hbw).size)
                        have hsz6 := hb06.size
                        go_wp2_with (first | (at_builtin; refine wpList_appSt rfl (.tmp 83) (.tmp 88) rfl rfl HO6.out rfl HLL.out hsz6 ?_; intro v7 w7 hO7 hg7; (have hb7 := below8 hb06 HO6.out hg7); (have HO7 := hide hO7); (obtain ⟨a7, n7, c7, hv7⟩ := hO7.shape); subst hv7; clear hO7 hg7))
                        rw [HWLD.out, ← HE.out] at HO7
                        go_roundw
                        case rel => exact ⟨i + 1, by omega, by go_num, ⟨HO7.out, HI2.out⟩, hb7⟩
                        case measure => simp [intOf]; omega
                      | false =>
                        rw [hcx] at HCX
                        cases hcy : clI yk with
                        | true =>
                          have hsp : sp = false := by rw [HSP2.out, hcy]; simp
                          rw [hcy] at HCY
                          clear hcx hcy HSP2
                          go_wp2_with fail
                          refine (unhide HCX _).mono ?_
                          rintro e w4 ⟨rfl, hw4⟩
                          obtain rfl := hw4.symm
                          clear hw4
                          go_wp2_with fail
                          refine (unhide HCY _).mono ?_
                          rintro e w4 ⟨rfl, hw4⟩
                          obtain rfl := hw4.symm
                          clear hw4
                          have HWR := hide (rwritten_calls ⟨xk, xt, xl, xp⟩ (fun e => HS2.out (Or.inr e)) w3)
                          unfold tkC at HWR
                          simp only at HWR
                          have HE : Hid (pAcc l (i + 1) = (pAcc l i) ++ writL xk xt) := by
                            show _ = _
                            rw [HSTP.out, hsp]
                            simp
                          have hLL : (pAcc l i).length + (bs (writL xk xt)).size ≤ 140737488355328 := by have h1 := HPL.out; have h2 : (writL xk xt).length ≤ 100000000000 := HWL.out; rw [bs_size]; simp; omega
                          have HLL := hide hLL
                          have hwl : bs (writL xk xt) = bs (writL xk xt) := rfl
                          obtain ⟨wl, hwl⟩ : ∃ wl, wl = bs (writL xk xt) := ⟨_, rfl⟩
                          rw [← hwl] at HWR HLL
                          have HWLD : Hid (wl.data.toList = writL xk xt) := by show _ = _; rw [hwl, bs_L]
                          clear hLL hwl HSTP HSEP
                          obtain ⟨z0, z1, z2, z3⟩ := id (And.intro x0 (And.intro x1 (And.intro x2 x3)))
                          go_wp2_with (first | fail)
                          refine (unhide HWR).mono ?_
                          rintro e w6 ⟨rfl, hb6⟩
                          have HO6 := hide ((HB.out.1).below hb6)
                          have hb06 := (hbw).trans (hb6.mono (hbw).size)
                          have hsz6 := hb06.size
                          go_wp2_with (first | (at_builtin; refine wpList_appSt rfl (.tmp 83) (.tmp 88) rfl rfl HO6.out rfl HLL.out hsz6 ?_; intro v7 w7 hO7 hg7; (have hb7 := below8 hb06 HO6.out hg7); (have HO7 := hide hO7); (obtain ⟨a7, n7, c7, hv7⟩ := hO7.shape); subst hv7; clear hO7 hg7))
                          rw [HWLD.out, ← HE.out] at HO7
                          go_roundw
                          case rel => exact ⟨i + 1, by omega, by go_num, ⟨HO7.out, HI2.out⟩, hb7⟩
                          case measure => simp [intOf]; omega
                        | false =>
                          have hsp : sp = true := by rw [HSP2.out, hcx, hcy, HD7.out, HY7.out]; rfl
                          rw [hcy] at HCY
                          clear hcx hcy HSP2
                          go_wp2_with fail
                          refine (unhide HCX _).mono ?_
                          rintro e w4 ⟨rfl, hw4⟩
                          obtain rfl := hw4.symm
                          clear hw4
                          go_wp2_with fail
                          refine (unhide HCY _).mono ?_
                          rintro e w4 ⟨rfl, hw4⟩
                          obtain rfl := hw4.symm
                          clear hw4
                          have HO3 := hide (HB.out.1.below ((Below.refl w3.heap.size w3).alloc (Nat.le_refl _) (.cells #[.int .u8 ((32 : UInt8).toNat : Int)] 5)))
                          have hb3 := hbw.trans (((Below.refl w3.heap.size w3).alloc (Nat.le_refl _) (.cells #[.int .u8 ((32 : UInt8).toNat : Int)] 5)).mono hbw.size)
                          have hI3 := isB_one w3 32
                          have hsz3 := hb3.size
                          have hln3 : (iL (pAcc l i)).length + (iL [32]).length ≤ 140737488355328 := by have := HPL.out; rw [iL_len, iL_len]; simp; omega
                          have HST1 : Hid (∀ W, Below w.heap.size w W → W.cell? ⟨b, o + i * 4, none⟩ = some (.int .i64 xk) ∧ W.cell? ⟨b, o + i * 4 + 1, none⟩ = some (.string xt) ∧ W.cell? ⟨b, o + i * 4 + 2, none⟩ = some (.int .i64 xl) ∧ W.cell? ⟨b, o + i * 4 + 3, none⟩ = some (.int .i64 xp)) := fun W hW => by
                            obtain ⟨bz, oz, hbz, z0, z1, z2, z3⟩ := HT.out.at hW (i := i) (by rw [HN.out]; exact hlt)
                            injection hbz with hbz
                            injection hbz with e1 e2 _
                            subst e1 e2
                            rw [HXX.out] at z0 z1 z2 z3
                            exact ⟨z0, z1, z2, z3⟩
                          have HWR := hide (fun (W : World) => rwritten_calls ⟨xk, xt, xl, xp⟩ (fun e => HS2.out (Or.inr e)) W)
                          unfold tkC at HWR
                          simp only at HWR
                          have HE : Hid (pAcc l (i + 1) = (pAcc l i ++ [32]) ++ writL xk xt) := by
                            show _ = _
                            rw [HSTP.out, hsp]
                            rfl
                          have hLL : (pAcc l i ++ [32]).length + (bs (writL xk xt)).size ≤ 140737488355328 := by have h1 := HPL.out; have h2 : (writL xk xt).length ≤ 100000000000 := HWL.out; rw [bs_size]; simp; omega
                          have HLL := hide hLL
                          have hwl : bs (writL xk xt) = bs (writL xk xt) := rfl
                          obtain ⟨wl, hwl⟩ : ∃ wl, wl = bs (writL xk xt) := ⟨_, rfl⟩
                          rw [← hwl] at HWR HLL
                          have HWLD : Hid (wl.data.toList = writL xk xt) := by show _ = _; rw [hwl, bs_L]
                          clear hLL hwl HSTP HSEP
                          go_wp2_with (first | (at_builtin; refine wpList_appB rfl (.tmp 80) (.tmp 81) rfl rfl HO3.out rfl hI3 hln3 hsz3 ?_; intro v5 w5 hO5 hg5; (have hb5 := below8 hb3 HO3.out hg5); (have HO5 := hide hO5); (obtain ⟨a5, n5, c5, hv5⟩ := hO5.shape); subst hv5; (obtain ⟨z0, z1, z2, z3⟩ := unhide HST1 w5 hb5); clear hO5 hg5 hI3 hln3 hsz3 hb3))
                          refine (unhide HWR _).mono ?_
                          rintro e w6 ⟨rfl, hb6⟩
                          rw [← iL_app] at HO5
                          have HO6 := hide (HO5.out.below hb6)
                          have hb06 := hb5.trans (hb6.mono hb5.size)
                          have hsz6 := hb06.size
                          go_wp2_with (first | (at_builtin; refine wpList_appSt rfl (.tmp 83) (.tmp 88) rfl rfl HO6.out rfl HLL.out hsz6 ?_; intro v7 w7 hO7 hg7; (have hb7 := below8 hb06 HO6.out hg7); (have HO7 := hide hO7); (obtain ⟨a7, n7, c7, hv7⟩ := hO7.shape); subst hv7; clear hO7 hg7))
                          rw [HWLD.out, ← HE.out] at HO7
                          go_roundw
                          case rel => exact ⟨i + 1, by omega, by go_num, ⟨HO7.out, HI2.out⟩, hb7⟩
                          case measure => simp [intOf]; omega
        · have hI : ¬ (i : Int) < (n : Int) := by omega
          have hie : i = n := by omega
          have HE : Hid (pAcc l i = printL l false) := by show _ = _; rw [hie, ← HN.out, pAcc_all]
          have HV0 := hide (HFIN.out (fun k hk => HB.out.2 k (by omega)))
          have hlen : n8 = (pAcc l i).length := by have := HB.out.1.isB.lenEq; rw [iL_len] at this; exact this
          clear hie
          by_cases hbig : 65536 < (pAcc l i).length
          · have HV : Hid (q = (noText, 2)) := by show _ = _; rw [HV0.out, ← HE.out, if_pos hbig]
            have jb : (65536 : Int) < (n8 : Int) := by omega
            clear hbig hlen
            go_wp2
            try rw [Exit.noGoto_ret]
            go_ret2
            exact ⟨by rw [HV.out]; rfl, hbw⟩
          · have HV : Hid (q = (bs (pAcc l i), 0)) := by show _ = _; rw [HV0.out, ← HE.out, if_neg hbig]
            have jb : ¬ (65536 : Int) < (n8 : Int) := by omega
            have hcv := conv_isB HB.out.1.isB
            rw [mkS_iL] at hcv
            generalize bs (pAcc l i) = pb at *
            clear hbig hlen
            go_wp2
            try rw [Exit.noGoto_ret]
            go_ret2
            exact ⟨by rw [HV.out]; rfl, hbw⟩
end Go.Proofs.Ytcdilcjgmcamcab
