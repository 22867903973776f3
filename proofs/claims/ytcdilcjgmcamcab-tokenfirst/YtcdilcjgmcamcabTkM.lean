/- all. -/
import Derived.Test.YtcdilcjgmcamcabTkL
namespace Go.Proofs.Ytcdilcjgmcamcab
open Go.RowKit Go.Maps

section
variable {w0 w w' : World} {g : Nat} {s : ByteArray} {a st bh ln : Nat} {out : List Tok} {wr : Int} {v : Value}
theorem Rd.cellS (h : Rd w0 w g s a st bh ln out wr v) : Go.Proofs.Ytcdilcjgmcamcab.cellN w ⟨g, 2, none⟩ = st := by
  unfold Go.Proofs.Ytcdilcjgmcamcab.cellN; rw [h.cells.2.2.1]; simp [intOf]
/-- What all comes to. -/
def All1 (w0 w' : World) (g : Nat) (s : ByteArray) (R : St) (e : Ending) : Prop :=
  ∃ (b st bh ln : Nat) (out : List Tok) (er : Int) (v' : Value), e = .returned (.bool (er == 0)) ∧ Rd w0 w' g s b st bh ln out er v' ∧ st ≤ b ∧ b ≤ s.size ∧ ((er = 0 ∧ R.md = .gap ∧ R.out = out) ∨ (er ≠ 0 ∧ R.md = .bad er ∧ R.n = ln ∧ R.p = b - st))
theorem step_sign {s : ByteArray} {b : Nat} (o : List Tok) (n p q : Nat) (h32 : (lk s b).toNat ≠ 32) (h35 : (lk s b).toNat ≠ 35) (h1 : kd (lk s b) ≠ 1) (h2 : kd (lk s b) ≠ 2) (h7 : kd (lk s b) ≠ 7) (h0 : kd (lk s b) ≠ 0) : fin (run ⟨o, n, p, q, .gap⟩ (s.data.toList.drop b)) = fin (run ⟨o ++ [⟨(kd (lk s b) : Int), noText, n, p⟩], n, p + 1, p + 1, .gap⟩ (s.data.toList.drop (b + 1))) := by
  rw [nx_go (fun e => h7 (kd10 e))]
  congr 2
  show gapS _ _ = _
  unfold gapS
  rw [if_neg h32, if_neg h35, if_neg h1, if_neg h2, if_neg h7, if_neg h0]
  rfl
theorem step_none {s : ByteArray} {b : Nat} (o : List Tok) (n p q : Nat) (h32 : (lk s b).toNat ≠ 32) (h35 : (lk s b).toNat ≠ 35) (h0 : kd (lk s b) = 0) : fin (run ⟨o, n, p, q, .gap⟩ (s.data.toList.drop b)) = ⟨o, n, p, q, .bad 110⟩ := by
  rw [nx_go (fun e => by rw [kd10 e] at h0; cases h0)]
  have e : stp ⟨o, n, p, q, .gap⟩ (lk s b) = ⟨o, n, p, q, .bad 110⟩ := by
    show gapS _ _ = _
    unfold gapS
    rw [if_neg h32, if_neg h35, if_neg (by omega), if_neg (by omega), if_neg (by omega), if_pos h0]
  rw [e, bad_run (e := 110) rfl, bad_fin (e := 110) rfl]
theorem step_end {s : ByteArray} {b : Nat} (o : List Tok) (n p q : Nat) (hb : b ≤ s.size) (hp : b = s.size → p ≠ 0) (h7 : kd (lk s b) = 7) : fin (run ⟨o, n, p, q, .gap⟩ (s.data.toList.drop b)) = fin (run ⟨o ++ [⟨7, noText, n, q⟩], n + 1, 0, 0, .gap⟩ (s.data.toList.drop (min (b + 1) s.size))) := by
  by_cases hlt : b < s.size
  · rw [lk_drop hlt, run_cons, stp10_gap (s := ⟨o, n, p, q, .gap⟩) rfl (kd7 h7), show min (b + 1) s.size = b + 1 by omega]
    rfl
  · have e : b = s.size := by omega
    rw [drop_out (by omega), drop_out (by omega), run_nil, run_nil, fin_gap, if_neg (hp e), fin_gap, if_pos rfl]
    rfl
theorem kd2 {c : UInt8} (h : kd c = 2) : c.toNat = 34 := by
  unfold kd at h
  repeat' split at h
  all_goals first | assumption | (exfalso; omega)
set_option maxRecDepth 100000 in
set_option maxHeartbeats 8000000 in
theorem all_calls (h : Rd w0 w g s 0 0 0 1 [] 0 v) (hs : s.size ≤ 65536) : Calls Try.prog 29 #[.pointer (some ⟨g, 0, none⟩)] w fun e w' => All1 w0 w' g s (fin (run st0 s.data.toList)) e := by
  obtain ⟨R, hR⟩ : ∃ R, R = fin (run st0 s.data.toList) := ⟨_, rfl⟩
  rw [← hR]
  have HR := hide hR
  have H0 := hide h
  clear h hR
  have HK : Hid (∀ (W : World) (b : Nat), Calls Try.prog 41 #[.int .u8 ((lk s b).toNat : Int)] W fun e w' => e = .returned (.int .i64 ((kd (lk s b) : Nat) : Int)) ∧ w' = W) := fun W b => by
    have := kindOf_calls ((lk s b).toNat : Int) (by omega) (by have := u8_lt (lk s b); omega) W
    rw [kdI_eq] at this
    exact this
  go_enter Try.func29, Try.ntmps29
  go_wp2_with fail
  go_step3
  go_wp2_with fail
  go_step3
  go_wp2_with fail
  go_loopw [] (fun wq => ∃ (b st bh ln : Nat), st ≤ bh ∧ bh ≤ b ∧ b ≤ s.size ∧ ln ≤ 70000 ∧ Hid (∃ (out : List Tok) (v' : Value), Rd w0 wq g s b st bh ln out 0 v' ∧ (out.length ≤ b ∨ (st = s.size ∧ out.length ≤ b + 1)) ∧ ln ≤ out.length + 1 ∧ R = fin (run ⟨out, ln, b - st, bh - st, .gap⟩ (s.data.toList.drop b)))) (fun wq => 2 * s.size - (cellN wq ⟨g, 1, none⟩ + cellN wq ⟨g, 2, none⟩))
  case atStart => exact ⟨0, 0, 0, 1, by omega, by omega, by omega, by omega, ⟨[], v, H0.out, by simp, by simp, HR.out⟩⟩
  case round =>
    rename World => w1
    obtain ⟨b, st, bh, ln, hsb, hbb, hbs, hln, HB⟩ := hrel
    obtain ⟨out, v1, hR1, hol, hlo, hfin⟩ := HB.out
    have HN := hide (And.intro hR1.cellN hR1.cellS)
    have HMO := hide (more_calls hR1)
    have HR1 := hide hR1
    have HFI := hide hfin
    clear hR1 hfin HB HR H0
    by_cases hmo : st < s.size
    · have dmo : decide (st < s.size) = true := decide_eq_true hmo
      rw [dmo] at HMO
      have hol2 : out.length ≤ b := by rcases hol with h | h <;> omega
      have HOL := hide hol2
      have HLO := hide hlo
      clear hol hlo dmo hol2
      go_wp2_with fail
      refine (unhide HMO).mono ?_
      rintro e w2 ⟨rfl, hb2⟩
      have HR2 := hide (HR1.out.keep hb2)
      have HPA := hide (pass_calls HR2.out (by omega) hbs)
      go_wp2_with fail
      refine (unhide HPA).mono ?_
      rintro e w3 ⟨rfl, d, hbd, hds, hR3, hto, h32, h35⟩
      have HR3 := hide hR3
      have HF3 : Hid (R = fin (run ⟨out, ln, d - st, bh - st, .gap⟩ (s.data.toList.drop d))) := by
        show _ = _
        rw [HFI.out, hto, show b - st + (d - b) = d - st by omega]
      have HN2 := hide (And.intro h32 h35)
      have HLK := hide (look_calls hR3 0 (by omega) (by omega) (by omega))
      rw [Nat.add_zero] at HLK
      have HKK := hide (fun W => unhide HK W d)
      clear hR3 hto h32 h35 HFI HMO HPA HR2 HR1
      go_wp2_with fail
      refine (unhide HLK).mono ?_
      rintro e w4 ⟨rfl, hb4⟩
      have HR4 := hide (HR3.out.keep hb4)
      clear HR3 HLK hb4
      go_wp2_with fail
      refine (unhide HKK w4).mono ?_
      rintro e w5 ⟨rfl, hw5⟩
      obtain rfl := hw5.symm
      clear hw5 HKK
      by_cases k1 : kd (lk s d) = 1
      · have b1 : (((kd (lk s d) : Nat) : Int) == 1) = true := by rw [k1]; rfl
        have hds2 := lk_in (s := s) (i := d) (fun e => by rw [kd10 e] at k1; omega)
        have HWD := hide (word_calls HR4.out (by omega) hds2 k1 (by omega) (by have := HOL.out; omega))
        generalize kd (lk s d) = k at *
        clear k1
        go_wp2_with fail
        refine (unhide HWD).mono ?_
        rintro e w6 (⟨rfl, d2, t, v6, hd2, hd2s, hR6, hF6⟩ | ⟨rfl, d2, er, v6, hd2, hd2s, her, hR6, hF6⟩)
        · have HR6 := hide hR6
          have HF6 := hide hF6
          clear hR6 hF6 HWD
          go_wp2
          have ho1 := HOL.out
          have hl1 := HLO.out
          go_roundw
          case rel =>
            refine ⟨d2, st, d2, ln, by omega, by omega, hd2s, hln, ⟨_, v6, HR6.out, ?_, ?_, ?_⟩⟩
            · rw [List.length_append, List.length_singleton]; omega
            · rw [List.length_append, List.length_singleton]; omega
            · rw [HF3.out, HF6.out]
          case measure =>
            have e1 := HR6.out.cellN
            have e2 := HR6.out.cellS
            rw [HN.out.1, HN.out.2, e1, e2]
            omega
        · have HR6 := hide hR6
          have HF6 := hide hF6
          have c6 := hR6.cells.2.2.2.2.2.2
          clear hR6 hF6 HWD
          go_wp2
          try rw [Exit.noGoto_ret]
          go_ret
          refine ⟨d2, st, bh, ln, out, er, v6, rfl, HR6.out, hd2, hd2s, Or.inr ⟨her, ?_⟩⟩
          rw [HF3.out, HF6.out]
          exact ⟨rfl, rfl, rfl⟩
      · have b1 : (((kd (lk s d) : Nat) : Int) == 1) = false := by simp; omega
        by_cases k2 : kd (lk s d) = 2
        · have b2 : (((kd (lk s d) : Nat) : Int) == 2) = true := by rw [k2]; rfl
          have hds2 := lk_in (s := s) (i := d) (fun e => by rw [kd10 e] at k2; omega)
          have HWD := hide (literal_calls HR4.out (by omega) hds2 (kd2 k2) (by omega) (by have := HOL.out; omega))
          generalize kd (lk s d) = k at *
          clear k1 k2
          go_wp2_with fail
          refine (unhide HWD).mono ?_
          rintro e w6 (⟨rfl, d2, t, v6, hd2, hd2s, hR6, hF6⟩ | ⟨rfl, d2, er, v6, hd2, hd2s, her, hR6, hF6⟩)
          · have HR6 := hide hR6
            have HF6 := hide hF6
            clear hR6 hF6 HWD
            go_wp2
            have ho1 := HOL.out
            have hl1 := HLO.out
            go_roundw
            case rel =>
              refine ⟨d2, st, d2, ln, by omega, by omega, hd2s, hln, ⟨_, v6, HR6.out, ?_, ?_, ?_⟩⟩
              · rw [List.length_append, List.length_singleton]; omega
              · rw [List.length_append, List.length_singleton]; omega
              · rw [HF3.out, HF6.out]
            case measure =>
              have e1 := HR6.out.cellN
              have e2 := HR6.out.cellS
              rw [HN.out.1, HN.out.2, e1, e2]
              omega
          · have HR6 := hide hR6
            have HF6 := hide hF6
            have c6 := hR6.cells.2.2.2.2.2.2
            clear hR6 hF6 HWD
            go_wp2
            try rw [Exit.noGoto_ret]
            go_ret
            refine ⟨d2, st, bh, ln, out, er, v6, rfl, HR6.out, hd2, hd2s, Or.inr ⟨her, ?_⟩⟩
            rw [HF3.out, HF6.out]
            exact ⟨rfl, rfl, rfl⟩
        · have b2 : (((kd (lk s d) : Nat) : Int) == 2) = false := by simp; omega
          by_cases k7 : kd (lk s d) = 7
          · have b7 : (((kd (lk s d) : Nat) : Int) == 7) = true := by rw [k7]; rfl
            have HEN := hide (end_calls HR4.out hsb (by omega) (by omega) (by omega) (by have := HOL.out; omega))
            have HF4 := hide (step_end out ln (d - st) (bh - st) hds (by omega) k7)
            have HM : Hid (d ≤ min (d + 1) s.size ∧ min (d + 1) s.size ≤ s.size ∧ (min (d + 1) s.size = d + 1 ∨ (d = s.size ∧ min (d + 1) s.size = s.size))) := ⟨by omega, by omega, by omega⟩
            generalize min (d + 1) s.size = m at *
            generalize kd (lk s d) = k at *
            clear k1 k2 k7
            go_wp2_with fail
            refine (unhide HEN).mono ?_
            rintro e w6 ⟨rfl, v6, hR6⟩
            have HR6 := hide hR6
            clear hR6 HEN
            go_wp2
            obtain ⟨m1, m2, m3⟩ := HM.out
            have ho1 := HOL.out
            have hl1 := HLO.out
            go_roundw
            case rel =>
              refine ⟨m, m, m, ln + 1, by omega, by omega, m2, by omega, ⟨_, v6, HR6.out, ?_, ?_, ?_⟩⟩
              · rw [List.length_append, List.length_singleton]; omega
              · rw [List.length_append, List.length_singleton]; omega
              · rw [HF3.out, HF4.out, Nat.sub_self]
            case measure =>
              have e1 := HR6.out.cellN
              have e2 := HR6.out.cellS
              rw [HN.out.1, HN.out.2, e1, e2]
              omega
          · have b7 : (((kd (lk s d) : Nat) : Int) == 7) = false := by simp; omega
            by_cases k0 : kd (lk s d) = 0
            · have b0 : (((kd (lk s d) : Nat) : Int) == 0) = true := by rw [k0]; rfl
              have HF4 := hide (step_none out ln (d - st) (bh - st) HN2.out.1 HN2.out.2 k0)
              generalize kd (lk s d) = k at *
              clear k1 k2 k7 k0
              have c6 := HR4.out.cells.2.2.2.2.2.2
              have f6 := HR4.out.frozen 6
              have HR5 := hide (HR4.out.setWrong 110)
              have d6 := HR5.out.cells.2.2.2.2.2.2
              go_wp2
              try rw [Exit.noGoto_ret]
              go_ret
              refine ⟨d, st, bh, ln, out, 110, v1, rfl, HR5.out, by omega, hds, Or.inr ⟨by decide, ?_⟩⟩
              rw [HF3.out, HF4.out]
              exact ⟨rfl, rfl, rfl⟩
            · have b0 : (((kd (lk s d) : Nat) : Int) == 0) = false := by simp; omega
              have hds2 := lk_in (s := s) (i := d) (fun e => by rw [kd10 e] at k7; omega)
              have HSG := hide (sign_calls HR4.out ((kd (lk s d) : Nat) : Int) (by omega) (by omega) (by have := HOL.out; omega))
              have HF4 := hide (step_sign out ln (d - st) (bh - st) HN2.out.1 HN2.out.2 k1 k2 k7 k0)
              generalize kd (lk s d) = k at *
              clear k1 k2 k7 k0
              go_wp2_with fail
              refine (unhide HSG).mono ?_
              rintro e w6 ⟨rfl, v6, hR6⟩
              have HR6 := hide hR6
              clear hR6 HSG
              go_wp2
              have ho1 := HOL.out
              have hl1 := HLO.out
              go_roundw
              case rel =>
                refine ⟨d + 1, st, d + 1, ln, by omega, by omega, hds2, hln, ⟨_, v6, HR6.out, ?_, ?_, ?_⟩⟩
                · rw [List.length_append, List.length_singleton]; omega
                · rw [List.length_append, List.length_singleton]; omega
                · rw [HF3.out, HF4.out, show d - st + 1 = d + 1 - st by omega]
              case measure =>
                have e1 := HR6.out.cellN
                have e2 := HR6.out.cellS
                rw [HN.out.1, HN.out.2, e1, e2]
                omega
    · have dmo : decide (st < s.size) = false := decide_eq_false hmo
      rw [dmo] at HMO
      have c6 := HR1.out.cells.2.2.2.2.2.2
      have HE : Hid (R = ⟨out, ln, 0, 0, .gap⟩) := by
        show _ = _
        rw [HFI.out, drop_out (by omega), run_nil, fin_gap, if_pos (by omega), show b - st = 0 by omega, show bh - st = 0 by omega]
      clear dmo
      go_wp2_with fail
      refine (unhide HMO).mono ?_
      rintro e w2 ⟨rfl, hb2⟩
      have HR2 := hide (HR1.out.keep hb2)
      have c6 := HR2.out.cells.2.2.2.2.2.2
      go_wp2
      try rw [Exit.noGoto_ret]
      go_ret
      exact ⟨b, st, bh, ln, out, 0, v1, rfl, HR2.out, by omega, hbs, Or.inl ⟨rfl, by rw [HE.out], by rw [HE.out]⟩⟩
end
end Go.Proofs.Ytcdilcjgmcamcab
