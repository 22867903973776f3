/- The document's Alike; TokenSame: the walk. -/
import Derived.Test.YtcdilcjgmcamcaaTkHb
import Derived.Test.YtcdilcjgmcamcaaTkV3
namespace Go.Proofs.Ytcdilcjgmcamcaa
open Go.RowKit Go.Maps Classical

/-- The same but for their places. -/
def Alk (a b : List Tok) : Prop := a.length = b.length ∧ ∀ i, i < a.length → (a.getD i .nul).kind = (b.getD i .nul).kind ∧ (a.getD i .nul).text = (b.getD i .nul).text ∧ (a.getD i .nul).line = (b.getD i .nul).line
theorem fit_alk : ∀ (a b l : List Tok) (n : Nat), Fit a l n → Fit b l n → Alk a b
  | [], [], [], _, _, _ => ⟨rfl, fun i h => absurd h (by simp)⟩
  | x :: a, y :: b, t :: l, n, ⟨h1, h2, h3, h4⟩, ⟨g1, g2, g3, g4⟩ => by
    obtain ⟨e1, e2⟩ := fit_alk a b l _ h4 g4
    refine ⟨by simp [e1], fun i hi => ?_⟩
    cases i with
    | zero => exact ⟨h1.trans g1.symm, h2.trans g2.symm, h3.trans g3.symm⟩
    | succ i => exact e2 i (by simpa using hi)
  | [], _, _ :: _, _, h, _ => h.elim
  | _ :: _, _, [], _, h, _ => h.elim
  | [], _ :: _, [], _, _, h => h.elim
  | _ :: _, [], _ :: _, _, _, h => h.elim
set_option maxRecDepth 100000 in
set_option maxHeartbeats 4000000 in
theorem alike_calls {va vb : Value} {la lb : List Tok} {w : World} (ha : IsTk w va la) (hb : IsTk w vb lb) (h : Alk la lb) : Calls Try.prog 18 #[va, vb] w fun e w' => e = .returned (.bool true) ∧ Below w.heap.size w w' := by
  obtain ⟨aa, ca, rfl, hla, hma, _, _⟩ := id ha
  obtain ⟨ab, cb, rfl, hlb, hmb, _, _⟩ := id hb
  have HA := hide ha
  have HB := hide hb
  have HK := hide h.2
  have hll := h.1
  generalize hn : la.length = n at *
  rw [← hll] at hlb ⊢
  have HN := hide hn
  have HL := hide hll
  clear ha hb h hn hll
  go_enter Try.func18, Try.ntmps18
  go_wp2_with fail
  go_loopw [5] (fun iv W => ∃ (j : Nat), j ≤ n ∧ iv = .int .i64 (j : Int) ∧ Below w.heap.size w W) (fun i _ => n - (intOf i).toNat)
  case atStart => exact ⟨0, by omega, rfl, Below.refl _ _⟩
  case round =>
    obtain ⟨j, hjn, rfl, hbw⟩ := hrel
    by_cases hlt : j < n
    · obtain ⟨b1, o1, rfl, x0, x1, x2, x3⟩ := HA.out.at hbw (i := j) (by rw [HN.out]; exact hlt)
      obtain ⟨b2, o2, rfl, y0, y1, y2, y3⟩ := HB.out.at hbw (i := j) (by rw [← HL.out]; exact hlt)
      obtain ⟨e1, e2, e3⟩ := HK.out j hlt
      rw [← e1] at y0
      rw [← e2] at y1
      rw [← e3] at y2
      have hlti : (j : Int) < (n : Int) := by omega
      generalize (la.getD j .nul).kind = k at *
      generalize (la.getD j .nul).text = t at *
      generalize (la.getD j .nul).line = ll at *
      have q1 : (k != k) = false := by simp
      have q2 : (t.toList != t.toList) = false := by simp
      have q3 : (ll != ll) = false := by simp
      clear e1 e2 e3
      go_wp2_with fail
      go_quiet (fail)
      go_wp2
      exact ⟨⟨j + 1, by omega, by go_num, hbw.trans ((drewn_below wr nq).mono hbw.size)⟩, by simp [intOf]; omega⟩
    · have hlti : ¬ (j : Int) < (n : Int) := by omega
      go_wp2
      go_ret
      exact ⟨rfl, hbw⟩
theorem tokL_err {t : List UInt8} (h : (tokL t).2.1 ≠ 0) : (tokL t).1 = [] := by
  unfold tokL at h ⊢
  split
  · rfl
  · rename_i hl
    rw [if_neg hl] at h
    generalize fin (run st0 t) = s at *
    obtain ⟨o, n, p, b, md⟩ := s
    cases md using Md.split with
    | bad e => rfl
    | _ => exact absurd rfl h
theorem printR_ok {l : List Tok} (h : okL l = true) : (printR l = (noText, 2)) ∨ (printR l = (bs (printL l false), 0) ∧ (printL l false).length ≤ 65536) := by
  unfold printR
  rw [if_neg (by rw [h]; decide)]
  by_cases hl : 65536 < (printL l false).length
  · rw [if_pos hl]; exact Or.inl rfl
  · rw [if_neg hl]; exact Or.inr ⟨rfl, by omega⟩
set_option maxRecDepth 100000 in
set_option maxHeartbeats 4000000 in
theorem tokenSame_walk (s : ByteArray) (w : World) : Calls Try.prog 7 #[.string s] w fun e w' => e = .returned (.bool true) ∧ Below w.heap.size w w' := by
  have H1 := hide (told_calls w)
  have H2 := hide (fun W => cut_calls s 70000 W)
  have H3 := hide (fun W => tokens_calls (cutB s 70000) W)
  have HER := hide (tokL_err (t := (cutB s 70000).data.toList))
  have HGO := hide (tokL_good (t := (cutB s 70000).data.toList))
  generalize tokL (cutB s 70000).data.toList = T at *
  generalize cutB s 70000 = c at *
  obtain ⟨ts, er, ln, pl⟩ := T
  simp only at H3 HER HGO
  go_enter Try.func7, Try.ntmps7
  go_wp2_with fail
  refine (unhide H1).mono ?_
  rintro e w1 ⟨rfl, hb1⟩
  go_wp2_with fail
  refine (unhide H2 w1).mono ?_
  rintro e w2 ⟨rfl, hw2⟩
  obtain rfl := hw2.symm
  clear hw2
  go_wp2_with fail
  refine (unhide H3 w1).mono ?_
  rintro e w3 ⟨v3, rfl, hO3, hb3⟩
  have hb13 := hb1.trans (hb3.mono hb1.size)
  obtain ⟨a3, c3, hv3⟩ := hO3.shape
  subst hv3
  have HO3 := hide hO3
  clear hO3 hb3
  by_cases he : er = 0
  · obtain ⟨hok, hfit⟩ := HGO.out he
    subst he
    have HP := hide (print_calls HO3.out.isTk)
    have HFIT := hide hfit
    have HBK := hide (fun h => back_L hok h)
    rcases printR_ok hok with hp | ⟨hp, hpl⟩
    · rw [hp] at HP
      generalize ts.length = n at *
      clear hok hfit hp HER HGO
      have q2 : (noText.toList == []) = true := by rw [ByteArray.toList_eq]; rfl
      go_wp2_with fail
      refine (unhide HP).mono ?_
      rintro e w4 ⟨rfl, hb4⟩
      go_wp2
      go_ret
      exact ⟨rfl, hb13.trans (hb4.mono hb13.size)⟩
    · obtain ⟨out, ho1, ho2⟩ := HBK.out hpl
      rw [hp] at HP
      have HT4 := hide (fun W => tokens_calls (bs (printL ts false)) W)
      rw [bs_L, ho1] at HT4
      simp only at HT4 HP
      have HALK := hide (fit_alk _ _ _ _ HFIT.out ho2)
      generalize bs (printL ts false) = pb at *
      generalize ts.length = n at *
      clear hok hfit hp HER HGO ho1 ho2 hpl HBK
      go_wp2_with fail
      refine (unhide HP).mono ?_
      rintro e w4 ⟨rfl, hb4⟩
      have hb14 := hb13.trans (hb4.mono hb13.size)
      go_wp2_with fail
      refine (unhide HT4 w4).mono ?_
      rintro e w5 ⟨v5, rfl, hO5, hb5⟩
      have hb15 := hb14.trans (hb5.mono hb14.size)
      obtain ⟨a5, c5, hv5⟩ := hO5.shape
      subst hv5
      have HAL := hide (alike_calls ((HO3.out.below hb4).below hb5).isTk hO5.isTk HALK.out)
      generalize out.length = m at *
      clear hO5 hb4 hb5
      go_wp2_with fail
      refine (unhide HAL).mono ?_
      rintro e w6 ⟨rfl, hb6⟩
      go_wp2
      go_ret
      exact ⟨rfl, hb15.trans (hb6.mono hb15.size)⟩
  · have hts : ts = [] := HER.out he
    have hl0 : ts.length = 0 := by rw [hts]; rfl
    have be : (er != 0) = true := by simpa using he
    rw [hl0]
    clear hts hl0 he HER HGO
    go_wp2
    go_ret
    exact ⟨rfl, hb13⟩
end Go.Proofs.Ytcdilcjgmcamcaa
