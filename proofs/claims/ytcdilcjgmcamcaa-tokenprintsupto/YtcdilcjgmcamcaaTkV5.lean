/- TokenBack: the walk. -/
import Derived.Test.YtcdilcjgmcamcaaTkV4
import Derived.Deep.DeepCutAuto
namespace Go.Proofs.Ytcdilcjgmcamcaa
open Go.RowKit Go.Maps Classical

theorem printR_bad {l : List Tok} (h : okL l = false) : printR l = (noText, 1) := by unfold printR; rw [if_pos h]
theorem IsTk.pre {w : World} {a : Option Addr} {n c k : Nat} {l : List Tok} (h : IsTk w (.slice a n c) l) (hk : k ≤ n) : IsTk w (.slice a k c) (l.take k) := by
  obtain ⟨a', c', hv, h1, h2, h3, h4⟩ := h
  injection hv with e1 e2 e3
  subst e1 e2 e3
  refine ⟨a, c, by rw [List.length_take, Nat.min_eq_left hk], by rw [List.length_take]; omega, h2, h3, fun hp => ?_⟩
  rw [List.length_take] at hp
  obtain ⟨b, o, ha, hc⟩ := h4 (by omega)
  refine ⟨b, o, ha, fun j q hj hq => ?_⟩
  rw [List.length_take] at hj
  rw [hc j q (by omega) hq, List.getD_eq_getElem?_getD, List.getD_eq_getElem?_getD, List.getElem?_take_of_lt (by omega)]
theorem fit_len : ∀ (a l : List Tok) (n : Nat), Fit a l n → a.length = l.length
  | [], [], _, _ => rfl
  | _ :: a, _ :: l, _, ⟨_, _, _, h⟩ => by rw [List.length_cons, List.length_cons, fit_len a l _ h]
  | [], _ :: _, _, h => h.elim
  | _ :: _, [], _, h => h.elim
/-- The i-th of the tokens that were read: the line is that of what stands ahead. -/
theorem fit_at : ∀ (a l : List Tok) (n i : Nat), Fit a l n → i < l.length → (a.getD i .nul).kind = (l.getD i .nul).kind ∧ (a.getD i .nul).text = tx (l.getD i .nul) ∧ (a.getD i .nul).line = (lnN (l.take i) n : Int)
  | _ :: a, _ :: l, n, 0, ⟨h1, h2, h3, _⟩, _ => ⟨h1, h2, h3⟩
  | _ :: a, t :: l, n, i + 1, ⟨_, _, _, h4⟩, hi => fit_at a l _ i h4 (by simpa using hi)
  | [], [], _, _, _, hi => absurd hi (by simp)
  | [], _ :: _, _, _, h, _ => h.elim
  | _ :: _, [], _, _, h, _ => h.elim
theorem ln_take {l : List Tok} {i : Nat} (hi : i < l.length) (n : Nat) : lnN (l.take (i + 1)) n = lnN (l.take i) n + (if (l.getD i .nul).kind = 7 then 1 else 0) := by
  rw [take_getD hi, ln_app]
  show (if (l.getD i .nul).kind = 7 then lnN (l.take i) n + 1 else lnN (l.take i) n) = _
  split <;> rfl
theorem ln_le : ∀ (l : List Tok) (n : Nat), lnN l n ≤ n + l.length
  | [], n => by simp [lnN]
  | t :: l, n => by
    have := ln_le l (if t.kind = 7 then n + 1 else n)
    rw [lnN, List.length_cons]
    split at this <;> split <;> omega
/-- What was read is printed as that text again. -/
theorem printL_fit : ∀ (m l : List Tok) (n : Nat) (a : Bool), Fit m l n → printL m a = printL l a
  | [], [], _, _, _ => rfl
  | x :: m, t :: l, n, a, ⟨h1, h2, _, h4⟩ => by
    rw [printL, printL, h1, printL_fit m l _ _ h4]
    congr 2
    rw [h2]
    unfold writL tx
    by_cases k1 : t.kind = 1
    · rw [if_pos k1, if_pos k1, if_pos (Or.inl k1)]
    · rw [if_neg k1, if_neg k1]
      by_cases k2 : t.kind = 2
      · rw [if_pos k2, if_pos k2, if_pos (Or.inr k2)]
      · rw [if_neg k2, if_neg k2]
  | [], _ :: _, _, _, h => h.elim
  | _ :: _, [], _, _, h => h.elim
theorem fit_ok : ∀ (m l : List Tok) (n : Nat), Fit m l n → (∀ t ∈ l, okT t = true) → ∀ t ∈ m, okT t = true
  | [], [], _, _, _ => by simp
  | x :: m, t :: l, n, ⟨h1, h2, _, h4⟩, h => by
    intro y hy
    rcases List.mem_cons.1 hy with rfl | hy
    · have ht := of_decide_eq_true (h t (by simp))
      refine decide_eq_true ⟨by rw [h1]; exact ht.1, by rw [h1]; exact ht.2.1, fun e => ?_⟩
      rw [h1] at e
      have := ht.2.2 e
      rw [h2]
      unfold tx
      rw [if_pos (Or.inl e)]
      exact this
    · exact fit_ok m l _ h4 (fun t ht => h t (by simp [ht])) y hy
  | [], _ :: _, _, h, _ => h.elim
  | _ :: _, [], _, h, _ => h.elim
theorem fit_last : ∀ (m l : List Tok) (n : Nat), Fit m l n → (∀ h : l ≠ [], (l.getLast h).kind = 7) → ∀ h : m ≠ [], (m.getLast h).kind = 7
  | [], _, _, _, _ => fun h => absurd rfl h
  | [x], [t], n, ⟨h1, _, _, _⟩, h => fun _ => by have := h (by simp); simp at this; simp; rw [h1]; exact this
  | x :: y :: m, t :: u :: l, n, ⟨_, _, _, h4⟩, h => fun _ => by
    have := fit_last (y :: m) (u :: l) _ h4 (fun _ => by have := h (by simp); rwa [List.getLast_cons (by simp)] at this) (by simp)
    rw [List.getLast_cons (by simp)]
    exact this
  | [_], _ :: _ :: _, _, ⟨_, _, _, h4⟩, _ => h4.elim
  | _ :: _ :: _, [_], _, ⟨_, _, _, h4⟩, _ => h4.elim
  | _ :: _, [], _, h, _ => h.elim
theorem fit_okL {m l : List Tok} {n : Nat} (h : Fit m l n) (hok : okL l = true) : okL m = true := by
  obtain ⟨h1, h2⟩ := okL_iff.1 hok
  exact okL_iff.2 ⟨fit_ok m l n h h1, fit_last m l n h h2⟩
theorem fit_print {m l : List Tok} {n : Nat} (h : Fit m l n) (hok : okL l = true) : printR m = printR l := by
  unfold printR
  rw [fit_okL h hok, hok, printL_fit m l n false h]
set_option maxRecDepth 100000 in
set_option maxHeartbeats 8000000 in
theorem tokenBack_walk {v : Value} {l0 : List Tok} (w : World) (h0 : IsTk w v l0) : Calls Try.prog 6 #[v] w fun e w' => e = .returned (.bool true) ∧ Below w.heap.size w w' := by
  obtain ⟨a, c, rfl, hlc, hcm, _, _⟩ := id h0
  have H1 := hide (told_calls w)
  have HT0 := hide h0
  generalize hn0 : l0.length = n0 at *
  have HN0 := hide hn0
  clear h0 hn0
  go_enter Try.func6, Try.ntmps6
  go_wp2_with fail
  refine (unhide H1).mono ?_
  rintro e w1 ⟨rfl, hb1⟩
  have HT1 := hide (HT0.out.below hb1)
  clear HT0 H1
  go_upto_if 18 with fail
  go_cut [0] (fun x wc => ∃ (n : Nat) (l : List Tok), x = .slice a n c ∧ IsTk w1 (.slice a n c) l ∧ l.length = n ∧ n ≤ c ∧ n ≤ 3000 ∧ w1 = wc)
  case first =>
    by_cases h3 : 3000 < n0
    · have j3 : (3000 : Int) < (n0 : Int) := by omega
      have j4 : (3000 : Int) ≤ (c : Int) := by omega
      go_wp2
      go_meet
      exact ⟨3000, l0.take 3000, rfl, HT1.out.pre (by omega), by rw [List.length_take, HN0.out]; omega, by omega, by omega, rfl⟩
    · have j3 : ¬ (3000 : Int) < (n0 : Int) := by omega
      go_wp2
      go_meet
      exact ⟨n0, l0, rfl, HT1.out, HN0.out, by omega, by omega, rfl⟩
  case rest =>
  obtain ⟨n, l, rfl, hI, hln, hnc, hn3, rfl⟩ := hcut
  clear HT1 HN0 hlc
  have HT := hide hI
  have HN := hide hln
  have HP := hide (print_calls hI)
  clear hI hln
  cases hok : okL l with
  | false =>
    rw [printR_bad hok] at HP
    clear hok
    have q2 : (noText.toList == []) = true := by rw [ByteArray.toList_eq]; rfl
    go_wp2_with fail
    refine (unhide HP).mono ?_
    rintro e w2 ⟨rfl, hb2⟩
    go_wp2
    go_ret
    exact ⟨rfl, hb1.trans (hb2.mono hb1.size)⟩
  | true =>
    rcases printR_ok hok with hp | ⟨hp, hpl⟩
    · rw [hp] at HP
      clear hok hp
      have q2 : (noText.toList == []) = true := by rw [ByteArray.toList_eq]; rfl
      go_wp2_with fail
      refine (unhide HP).mono ?_
      rintro e w2 ⟨rfl, hb2⟩
      go_wp2
      go_ret
      exact ⟨rfl, hb1.trans (hb2.mono hb1.size)⟩
    · obtain ⟨out, ho1, ho2⟩ := back_L hok hpl
      have HFR := hide (fit_print ho2 hok)
      rw [hp] at HP HFR
      have HT4 := hide (fun W => tokens_calls (bs (printL l false)) W)
      rw [bs_L, ho1] at HT4
      have HFIT := hide ho2
      have hom : out.length = n := by rw [fit_len out l 1 ho2, HN.out]
      have HOM := hide hom
      simp only at HT4 HP
      generalize bs (printL l false) = pb at *
      clear hok hp ho1 ho2 hpl hom
      go_wp2_with fail
      refine (unhide HP).mono ?_
      rintro e w2 ⟨rfl, hb2⟩
      have hb12 := hb1.trans (hb2.mono hb1.size)
      go_wp2_with fail
      refine (unhide HT4 w2).mono ?_
      rintro e w3 ⟨v3, rfl, hO3, hb3⟩
      obtain ⟨a3, c3, hv3⟩ := hO3.shape
      subst hv3
      rw [HOM.out] at hO3 ⊢
      have HO3 := hide hO3.isTk
      have hc3 : n ≤ c3 := by
        obtain ⟨_, _, hv, h1, _⟩ := hO3.isTk
        injection hv with _ _ e3
        subst e3
        rw [HOM.out] at h1
        exact h1
      have hb13 := hb12.trans (hb3.mono hb12.size)
      have HTl := hide ((HT.out.below hb2).below hb3)
      clear hO3 hb2 hb3 HT HP HT4 hb12
      have HLN0 : Hid (lnN (l.take 0) 1 = 1) := rfl
      go_wp2_with fail
      go_loopw [9, 10] (fun lv iv wq => ∃ i : Nat, i ≤ n ∧ iv = .int .i64 (i : Int) ∧ lv = .int .i64 ((lnN (l.take i) 1 : Nat) : Int) ∧ Below w3.heap.size w3 wq) (fun _ iv _ => n - (intOf iv).toNat)
      case atStart => exact ⟨0, by omega, rfl, rfl, Below.refl _ _⟩
      case round =>
        rename World => w4
        obtain ⟨i, hin, rfl, rfl, hbw⟩ := hrel
        have hlle := ln_le (l.take i) 1
        have htl : (l.take i).length ≤ n := by rw [List.length_take, HN.out]; omega
        by_cases hlt : i < n
        · have hI : (i : Int) < (n : Int) := by omega
          obtain ⟨b, o, rfl, x0, x1, x2, x3⟩ := HTl.out.at hbw (i := i) (by rw [HN.out]; exact hlt)
          obtain ⟨b', o', rfl, y0, y1, y2, y3⟩ := HO3.out.at hbw (i := i) (by rw [HOM.out]; exact hlt)
          obtain ⟨f1, f2, f3⟩ := fit_at out l 1 i HFIT.out (by rw [HN.out]; exact hlt)
          rw [f1] at y0
          rw [f2] at y1
          rw [f3] at y2
          have HLT := hide (ln_take (l := l) (i := i) (by rw [HN.out]; exact hlt) 1)
          have HTX : Hid (tx (l.getD i .nul) = if (l.getD i .nul).kind = 1 ∨ (l.getD i .nul).kind = 2 then (l.getD i .nul).text else noText) := rfl
          generalize tx (l.getD i .nul) = txx at *
          generalize (l.getD i .nul).kind = k at *
          generalize (l.getD i .nul).text = t at *
          generalize lnN (l.take i) 1 = lnn at *
          have q1 : (k != k) = false := by simp
          have q3 : ((lnn : Int) != (lnn : Int)) = false := by simp
          clear f1 f2 f3
          by_cases k1 : k = 1
          · subst k1
            have HE : Hid (txx = t) := by show _ = _; rw [HTX.out, if_pos (Or.inl rfl)]
            rw [HE.out] at y1
            have q2 : (t.toList != t.toList) = false := by simp
            rw [if_neg (by omega)] at HLT
            go_wp2_with fail
            go_quiet (fail)
            go_wp2
            go_roundw
            case rel => exact ⟨i + 1, by omega, by go_num, by rw [HLT.out]; rfl, hbw.trans (drewn_b _ _ _)⟩
            case measure => simp [intOf]; omega
          · have b1 : (k != 1) = true := by simpa using k1
            by_cases k2 : k = 2
            · subst k2
              have HE : Hid (txx = t) := by show _ = _; rw [HTX.out, if_pos (Or.inr rfl)]
              rw [HE.out] at y1
              have q2 : (t.toList != t.toList) = false := by simp
              rw [if_neg (by omega)] at HLT
              clear k1
              go_wp2_with fail
              go_quiet (fail)
              go_wp2
              go_roundw
              case rel => exact ⟨i + 1, by omega, by go_num, by rw [HLT.out]; rfl, hbw.trans (drewn_b _ _ _)⟩
              case measure => simp [intOf]; omega
            · have b2 : (k != 2) = true := by simpa using k2
              have HE : Hid (txx = ⟨#[]⟩) := by show _ = _; rw [HTX.out, if_neg (by omega)]; rfl
              rw [HE.out] at y1
              by_cases k7 : k = 7
              · subst k7
                rw [if_pos rfl] at HLT
                clear k1 k2
                go_wp2_with fail
                go_quiet (fail)
                go_wp2
                go_roundw
                case rel => exact ⟨i + 1, by omega, by go_num, by rw [HLT.out]; rfl, hbw.trans (drewn_b _ _ _)⟩
                case measure => simp [intOf]; omega
              · have b7 : (k == 7) = false := by simpa using k7
                rw [if_neg k7] at HLT
                clear k1 k2 k7
                go_wp2_with fail
                go_quiet (fail)
                go_wp2
                go_roundw
                case rel => exact ⟨i + 1, by omega, by go_num, by rw [HLT.out]; rfl, hbw.trans (drewn_b _ _ _)⟩
                case measure => simp [intOf]; omega
        · have hI : ¬ (i : Int) < (n : Int) := by omega
          have HP5 := hide (print_calls (HO3.out.below hbw))
          rw [HFR.out] at HP5
          simp only at HP5
          have q2 : (pb.toList == pb.toList) = true := by simp
          go_wp2_with fail
          refine (unhide HP5).mono ?_
          rintro e w5 ⟨rfl, hb5⟩
          go_wp2
          try rw [Exit.noGoto_ret]
          go_ret
          exact ⟨rfl, (hb13.trans (hbw.mono hb13.size)).trans (hb5.mono (Nat.le_trans hb13.size hbw.size))⟩
end Go.Proofs.Ytcdilcjgmcamcaa
