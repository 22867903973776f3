/- written, isWord, and the document's written, Word. -/
import Derived.Test.YtcdilcjgmcamcaaTkQr
namespace Go.Proofs.Ytcdilcjgmcamcaa
open Go.RowKit Go.Maps

set_option maxRecDepth 100000 in
set_option maxHeartbeats 4000000 in
theorem written_calls (x : Tok) (hx : x.kind = 2 → x.text.size ≤ 100000000) (w : World) : Calls Try.prog 32 #[.agg (tkC x).toArray] w fun e w' => e = .returned (.string (bs (writL x.kind x.text))) ∧ Below w.heap.size w w' := by
  obtain ⟨k, t, n, p⟩ := x
  unfold tkC
  simp only at hx ⊢
  have hbn := (Below.refl w.heap.size w).alloc (Nat.le_refl _) (.cells #[.int .i64 k, .string t, .int .i64 n, .int .i64 p] 27)
  have hA := Arr.new w [.int .i64 k, .string t, .int .i64 n, .int .i64 p] 27
  have c0 := hA.cell 0
  have c1 := hA.cell 1
  simp only [List.getElem?_cons_zero, List.getElem?_cons_succ] at c0 c1
  clear hA
  obtain ⟨q, hq⟩ : ∃ q, q = bs (writL k t) := ⟨_, rfl⟩
  rw [← hq]
  have HQ := hide hq
  clear hq
  by_cases k1 : k = 1
  · subst k1
    have HV : Hid (q = t) := by show _ = _; rw [HQ.out]; unfold writL; rw [if_pos rfl, bs_toList]
    clear HQ hx
    go_enter Try.func32, Try.ntmps32
    go_wp2
    go_ret
    exact ⟨by rw [HV.out]; rfl, hbn⟩
  · have b1 : (k == 1) = false := by simpa using k1
    by_cases k2 : k = 2
    · subst k2
      have HV : Hid (q = bs (quoteL t.data.toList)) := by show _ = _; rw [HQ.out]; rfl
      have HQU := hide (quote_calls t (hx rfl) (w.alloc (.cells #[.int .i64 2, .string t, .int .i64 n, .int .i64 p] 27)))
      clear HQ hx k1
      generalize bs (quoteL t.data.toList) = qt at *
      go_enter Try.func32, Try.ntmps32
      go_wp2_with fail
      refine (unhide HQU).mono ?_
      rintro e w1 ⟨rfl, hb1⟩
      go_wp2
      go_ret
      exact ⟨by rw [HV.out]; rfl, hbn.trans (hb1.mono (by simp))⟩
    · have b2 : (k == 2) = false := by simpa using k2
      by_cases k3 : k = 3
      · subst k3
        have HV : Hid (q = ⟨#[61]⟩) := by show _ = _; rw [HQ.out]; rfl
        clear HQ hx k1 k2
        go_enter Try.func32, Try.ntmps32
        go_wp2
        go_ret
        exact ⟨by rw [HV.out]; rfl, hbn⟩
      · have b3 : (k == 3) = false := by simpa using k3
        by_cases k4 : k = 4
        · subst k4
          have HV : Hid (q = ⟨#[40]⟩) := by show _ = _; rw [HQ.out]; rfl
          clear HQ hx k1 k2 k3
          go_enter Try.func32, Try.ntmps32
          go_wp2
          go_ret
          exact ⟨by rw [HV.out]; rfl, hbn⟩
        · have b4 : (k == 4) = false := by simpa using k4
          by_cases k5 : k = 5
          · subst k5
            have HV : Hid (q = ⟨#[41]⟩) := by show _ = _; rw [HQ.out]; rfl
            clear HQ hx k1 k2 k3 k4
            go_enter Try.func32, Try.ntmps32
            go_wp2
            go_ret
            exact ⟨by rw [HV.out]; rfl, hbn⟩
          · have b5 : (k == 5) = false := by simpa using k5
            by_cases k6 : k = 6
            · subst k6
              have HV : Hid (q = ⟨#[44]⟩) := by show _ = _; rw [HQ.out]; rfl
              clear HQ hx k1 k2 k3 k4 k5
              go_enter Try.func32, Try.ntmps32
              go_wp2
              go_ret
              exact ⟨by rw [HV.out]; rfl, hbn⟩
            · have b6 : (k == 6) = false := by simpa using k6
              have HV : Hid (q = ⟨#[10]⟩) := by show _ = _; rw [HQ.out]; unfold writL signB; rw [if_neg k1, if_neg k2, if_neg k3, if_neg k4, if_neg k5, if_neg k6]; rfl
              clear HQ hx k1 k2 k3 k4 k5 k6
              go_enter Try.func32, Try.ntmps32
              go_wp2
              go_ret
              exact ⟨by rw [HV.out]; rfl, hbn⟩
set_option maxRecDepth 100000 in
set_option maxHeartbeats 4000000 in
theorem rwritten_calls (x : Tok) (hx : x.kind = 2 → x.text.size ≤ 100000000000) (w : World) : Calls Try.prog 40 #[.agg (tkC x).toArray] w fun e w' => e = .returned (.string (bs (writL x.kind x.text))) ∧ Below w.heap.size w w' := by
  obtain ⟨k, t, n, p⟩ := x
  unfold tkC
  simp only at hx ⊢
  have hbn := (Below.refl w.heap.size w).alloc (Nat.le_refl _) (.cells #[.int .i64 k, .string t, .int .i64 n, .int .i64 p] 27)
  have hA := Arr.new w [.int .i64 k, .string t, .int .i64 n, .int .i64 p] 27
  have c0 := hA.cell 0
  have c1 := hA.cell 1
  simp only [List.getElem?_cons_zero, List.getElem?_cons_succ] at c0 c1
  clear hA
  obtain ⟨q, hq⟩ : ∃ q, q = bs (writL k t) := ⟨_, rfl⟩
  rw [← hq]
  have HQ := hide hq
  clear hq
  by_cases k1 : k = 1
  · subst k1
    have HV : Hid (q = t) := by show _ = _; rw [HQ.out]; unfold writL; rw [if_pos rfl, bs_toList]
    clear HQ hx
    go_enter Try.func40, Try.ntmps40
    go_wp2
    go_ret
    exact ⟨by rw [HV.out]; rfl, hbn⟩
  · have b1 : (k == 1) = false := by simpa using k1
    by_cases k2 : k = 2
    · subst k2
      have HV : Hid (q = bs (quoteL t.data.toList)) := by show _ = _; rw [HQ.out]; rfl
      have HQU := hide (rquote_calls t (hx rfl) (w.alloc (.cells #[.int .i64 2, .string t, .int .i64 n, .int .i64 p] 27)))
      clear HQ hx k1
      generalize bs (quoteL t.data.toList) = qt at *
      go_enter Try.func40, Try.ntmps40
      go_wp2_with fail
      refine (unhide HQU).mono ?_
      rintro e w1 ⟨rfl, hb1⟩
      go_wp2
      go_ret
      exact ⟨by rw [HV.out]; rfl, hbn.trans (hb1.mono (by simp))⟩
    · have b2 : (k == 2) = false := by simpa using k2
      by_cases k3 : k = 3
      · subst k3
        have HV : Hid (q = ⟨#[61]⟩) := by show _ = _; rw [HQ.out]; rfl
        clear HQ hx k1 k2
        go_enter Try.func40, Try.ntmps40
        go_wp2
        go_ret
        exact ⟨by rw [HV.out]; rfl, hbn⟩
      · have b3 : (k == 3) = false := by simpa using k3
        by_cases k4 : k = 4
        · subst k4
          have HV : Hid (q = ⟨#[40]⟩) := by show _ = _; rw [HQ.out]; rfl
          clear HQ hx k1 k2 k3
          go_enter Try.func40, Try.ntmps40
          go_wp2
          go_ret
          exact ⟨by rw [HV.out]; rfl, hbn⟩
        · have b4 : (k == 4) = false := by simpa using k4
          by_cases k5 : k = 5
          · subst k5
            have HV : Hid (q = ⟨#[41]⟩) := by show _ = _; rw [HQ.out]; rfl
            clear HQ hx k1 k2 k3 k4
            go_enter Try.func40, Try.ntmps40
            go_wp2
            go_ret
            exact ⟨by rw [HV.out]; rfl, hbn⟩
          · have b5 : (k == 5) = false := by simpa using k5
            by_cases k6 : k = 6
            · subst k6
              have HV : Hid (q = ⟨#[44]⟩) := by show _ = _; rw [HQ.out]; rfl
              clear HQ hx k1 k2 k3 k4 k5
              go_enter Try.func40, Try.ntmps40
              go_wp2
              go_ret
              exact ⟨by rw [HV.out]; rfl, hbn⟩
            · have b6 : (k == 6) = false := by simpa using k6
              have HV : Hid (q = ⟨#[10]⟩) := by show _ = _; rw [HQ.out]; unfold writL signB; rw [if_neg k1, if_neg k2, if_neg k3, if_neg k4, if_neg k5, if_neg k6]; rfl
              clear HQ hx k1 k2 k3 k4 k5 k6
              go_enter Try.func40, Try.ntmps40
              go_wp2
              go_ret
              exact ⟨by rw [HV.out]; rfl, hbn⟩
theorem wordB_no {s : ByteArray} {i : Nat} (hi : i < s.size) (h : inW (lk s i) = false) : wordB s = false := by
  unfold wordB
  refine decide_eq_false fun hh => ?_
  have hl : i < s.data.toList.length := by rw [len_data]; exact hi
  have := hh.2.2 (s.data.toList[i]) (List.getElem_mem hl)
  unfold lk at h
  rw [List.getD_eq_getElem?_getD, List.getElem?_eq_getElem hl] at h
  simp only [Option.getD_some] at h
  rw [h] at this
  cases this
theorem wordB_all {s : ByteArray} (h1 : 1 ≤ s.size) (h2 : s.size ≤ 255) (h : ∀ i, i < s.size → inW (lk s i) = true) : wordB s = true := by
  unfold wordB
  refine decide_eq_true ⟨h1, h2, fun c hc => ?_⟩
  obtain ⟨i, hi, rfl⟩ := List.getElem_of_mem hc
  have := h i (by rw [len_data] at hi; exact hi)
  unfold lk at this
  rw [List.getD_eq_getElem?_getD, List.getElem?_eq_getElem hi] at this
  exact this
theorem wordB_len {s : ByteArray} (h : ¬ (1 ≤ s.size ∧ s.size ≤ 255)) : wordB s = false := by
  unfold wordB
  exact decide_eq_false fun hh => h ⟨hh.1, hh.2.1⟩
set_option maxRecDepth 100000 in
set_option maxHeartbeats 4000000 in
theorem isWord_calls (s : ByteArray) (w : World) : Calls Try.prog 41 #[.string s] w fun e w' => e = .returned (.bool (wordB s)) ∧ w' = w := by
  obtain ⟨q, hq⟩ : ∃ q, q = wordB s := ⟨_, rfl⟩
  rw [← hq]
  have HQ := hide hq
  clear hq
  by_cases h1 : s.size < 1
  · have i1 : (s.size : Int) < 1 := by omega
    have HV : Hid (q = false) := by show _ = _; rw [HQ.out, wordB_len (by omega)]
    clear h1 HQ
    go_enter Try.func41, Try.ntmps41
    go_wp2
    go_ret
    exact ⟨by rw [HV.out]; rfl, rfl⟩
  · have i1 : ¬ (s.size : Int) < 1 := by omega
    by_cases h2 : 255 < s.size
    · have i2 : (255 : Int) < (s.size : Int) := by omega
      have HV : Hid (q = false) := by show _ = _; rw [HQ.out, wordB_len (by omega)]
      clear h1 h2 HQ
      go_enter Try.func41, Try.ntmps41
      go_wp2
      go_ret
      exact ⟨by rw [HV.out]; rfl, rfl⟩
    · have i2 : ¬ (255 : Int) < (s.size : Int) := by omega
      have HK : Hid (∀ (i : Nat), Calls Try.prog 44 #[.int .u8 ((lk s i).toNat : Int)] w fun e w' => e = .returned (.int .i64 ((kd (lk s i) : Nat) : Int)) ∧ w' = w) := fun b => by
        have := kindOf_calls ((lk s b).toNat : Int) (by omega) (by have := u8_lt (lk s b); omega) w
        rw [kdI_eq] at this
        exact this
      go_enter Try.func41, Try.ntmps41
      go_wp2_with fail
      go_loop [14] (fun iv => ∃ i : Nat, i ≤ s.size ∧ iv = .int .i64 (i : Int) ∧ Hid (∀ k, k < i → inW (lk s k) = true)) (fun i => s.size - (intOf i).toNat)
      case atStart => exact ⟨0, by omega, rfl, fun k hk => absurd hk (by omega)⟩
      case round =>
        obtain ⟨i, hi, rfl, HI⟩ := hrel
        by_cases hlt : i < s.size
        · have hidx := index_str s i hlt
          have hiI : (i : Int) < (s.size : Int) := by omega
          have HKI := hide (unhide HK i)
          cases hw : inW (lk s i) with
          | true =>
            have hk1 := kd_word.2 hw
            have bk : (((kd (lk s i) : Nat) : Int) != 1) = false := by rw [hk1]; rfl
            have HI2 : Hid (∀ k, k < i + 1 → inW (lk s k) = true) := fun k hk => by
              by_cases e : k = i
              · subst e; exact hw
              · exact unhide HI k (by omega)
            generalize kd (lk s i) = kk at *
            generalize lk s i = c at *
            clear hw hk1
            go_wp2_with fail
            refine (unhide HKI).mono ?_
            rintro e w3 ⟨rfl, hw3⟩
            obtain rfl := hw3.symm
            go_wp2
            go_round
            case rel => exact ⟨i + 1, by omega, by go_num, HI2⟩
            case measure => simp [intOf]; omega
          | false =>
            have hk1 : kd (lk s i) ≠ 1 := fun e => by have := kd_word.1 e; rw [hw] at this; cases this
            have bk : (((kd (lk s i) : Nat) : Int) != 1) = true := by simp; omega
            have HV : Hid (q = false) := by show _ = _; rw [HQ.out, wordB_no hlt hw]
            generalize kd (lk s i) = kk at *
            generalize lk s i = c at *
            clear hw hk1
            go_wp2_with fail
            refine (unhide HKI).mono ?_
            rintro e w3 ⟨rfl, hw3⟩
            obtain rfl := hw3.symm
            go_wp2
            try rw [Exit.noGoto_ret]
            go_ret
            exact ⟨by rw [HV.out]; rfl, rfl⟩
        · have hiI : ¬ (i : Int) < (s.size : Int) := by omega
          have HV : Hid (q = true) := by show _ = _; rw [HQ.out, wordB_all (by omega) (by omega) fun k hk => unhide HI k (by omega)]
          go_wp2
          try rw [Exit.noGoto_ret]
          go_ret
          exact ⟨by rw [HV.out]; rfl, rfl⟩
set_option maxRecDepth 100000 in
set_option maxHeartbeats 4000000 in
theorem rword_calls (s : ByteArray) (hs : s.size ≤ 9000000000000000000) (w : World) : Calls Try.prog 38 #[.string s] w fun e w' => e = .returned (.bool (wordB s)) ∧ w' = w := by
  obtain ⟨q, hq⟩ : ∃ q, q = wordB s := ⟨_, rfl⟩
  rw [← hq]
  have HQ := hide hq
  clear hq
  have HK : Hid (∀ (i : Nat), Calls Try.prog 50 #[.int .u8 ((lk s i).toNat : Int)] w fun e w' => e = .returned (.bool (inW (lk s i))) ∧ w' = w) := fun b => by
    have := rinWord_calls ((lk s b).toNat : Int) (by omega) (by have := u8_lt (lk s b); omega) w
    rw [inWI_eq] at this
    exact this
  go_enter Try.func38, Try.ntmps38
  go_wp2_with fail
  go_loop [3] (fun iv => ∃ i : Nat, i ≤ s.size ∧ iv = .int .i64 (i : Int) ∧ Hid (∀ k, k < i → inW (lk s k) = true)) (fun i => s.size - (intOf i).toNat)
  case atStart => exact ⟨0, by omega, rfl, fun k hk => absurd hk (by omega)⟩
  case round =>
    obtain ⟨i, hi, rfl, HI⟩ := hrel
    by_cases hlt : i < s.size
    · have hidx := index_str s i hlt
      have hiI : (i : Int) < (s.size : Int) := by omega
      have HKI := hide (unhide HK i)
      cases hw : inW (lk s i) with
      | true =>
        rw [hw] at HKI
        have HI2 : Hid (∀ k, k < i + 1 → inW (lk s k) = true) := fun k hk => by
          by_cases e : k = i
          · subst e; exact hw
          · exact unhide HI k (by omega)
        generalize lk s i = c at *
        clear hw
        go_wp2_with fail
        refine (unhide HKI).mono ?_
        rintro e w3 ⟨rfl, hw3⟩
        obtain rfl := hw3.symm
        go_wp2
        go_round
        case rel => exact ⟨i + 1, by omega, by go_num, HI2⟩
        case measure => simp [intOf]; omega
      | false =>
        rw [hw] at HKI
        have HV : Hid (q = false) := by show _ = _; rw [HQ.out, wordB_no hlt hw]
        generalize lk s i = c at *
        clear hw
        go_wp2_with fail
        refine (unhide HKI).mono ?_
        rintro e w3 ⟨rfl, hw3⟩
        obtain rfl := hw3.symm
        go_wp2
        try rw [Exit.noGoto_ret]
        go_ret
        exact ⟨by rw [HV.out]; rfl, rfl⟩
    · have hiI : ¬ (i : Int) < (s.size : Int) := by omega
      by_cases h1 : 1 ≤ s.size
      · have i1 : (1 : Int) ≤ (s.size : Int) := by omega
        by_cases h2 : s.size ≤ 255
        · have i2 : (s.size : Int) ≤ 255 := by omega
          have HV : Hid (q = true) := by show _ = _; rw [HQ.out, wordB_all h1 h2 fun k hk => unhide HI k (by omega)]
          go_wp2
          try rw [Exit.noGoto_ret]
          go_ret
          exact ⟨by rw [HV.out]; rfl, rfl⟩
        · have i2 : ¬ (s.size : Int) ≤ 255 := by omega
          have HV : Hid (q = false) := by show _ = _; rw [HQ.out, wordB_len (by omega)]
          go_wp2
          try rw [Exit.noGoto_ret]
          go_ret
          exact ⟨by rw [HV.out]; rfl, rfl⟩
      · have i1 : ¬ (1 : Int) ≤ (s.size : Int) := by omega
        have HV : Hid (q = false) := by show _ = _; rw [HQ.out, wordB_len (by omega)]
        go_wp2
        try rw [Exit.noGoto_ret]
        go_ret
        exact ⟨by rw [HV.out]; rfl, rfl⟩
end Go.Proofs.Ytcdilcjgmcamcaa
