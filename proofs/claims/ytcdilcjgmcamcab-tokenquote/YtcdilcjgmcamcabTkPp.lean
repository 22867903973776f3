/- printable. -/
import Derived.Test.YtcdilcjgmcamcabTkWr
import Derived.Test.YtcdilcjgmcamcabTkSm
namespace Go.Proofs.Ytcdilcjgmcamcab
open Go.RowKit Go.Maps

theorem okL_no {l : List Tok} {i : Nat} (hi : i < l.length) (h : okT (l.getD i .nul) = false) : okL l = false := by
  cases e : okL l with
  | false => rfl
  | true =>
    have := (okL_iff.1 e).1 (l.getD i .nul) (by rw [List.getD_eq_getElem?_getD, List.getElem?_eq_getElem hi]; exact List.getElem_mem hi)
    rw [h] at this; cases this
theorem okL_all {l : List Tok} (h : ∀ i, i < l.length → okT (l.getD i .nul) = true) (hp : 0 < l.length) : okL l = decide ((l.getD (l.length - 1) .nul).kind = 7) := by
  have hne : l ≠ [] := by rintro rfl; simp at hp
  have hall : ∀ t ∈ l, okT t = true := fun t ht => by
    obtain ⟨i, hi, rfl⟩ := List.getElem_of_mem ht
    have := h i hi
    rw [List.getD_eq_getElem?_getD, List.getElem?_eq_getElem hi] at this
    exact this
  have hl : l.getD (l.length - 1) .nul = l.getLast hne := by
    rw [List.getD_eq_getElem?_getD, List.getElem?_eq_getElem (by omega), List.getLast_eq_getElem]; rfl
  rw [hl]
  by_cases h7 : (l.getLast hne).kind = 7
  · rw [decide_eq_true h7]; exact okL_iff.2 ⟨hall, fun _ => h7⟩
  · rw [decide_eq_false h7]
    cases e : okL l with
    | false => rfl
    | true => exact absurd ((okL_iff.1 e).2 hne) h7
/-- The cells of the i-th token. -/
theorem IsTk.at {w W : World} {a : Option Addr} {n c : Nat} {l : List Tok} (h : IsTk w (.slice a n c) l) (hb : Below w.heap.size w W) {i : Nat} (hi : i < l.length) : ∃ b o, a = some ⟨b, o, none⟩ ∧ W.cell? ⟨b, o + i * 4, none⟩ = some (.int .i64 (l.getD i .nul).kind) ∧ W.cell? ⟨b, o + i * 4 + 1, none⟩ = some (.string (l.getD i .nul).text) ∧ W.cell? ⟨b, o + i * 4 + 2, none⟩ = some (.int .i64 (l.getD i .nul).line) ∧ W.cell? ⟨b, o + i * 4 + 3, none⟩ = some (.int .i64 (l.getD i .nul).place) := by
  obtain ⟨a', c', hv, _, _, _, hc⟩ := h
  injection hv with e1 e2 e3
  subst e1
  obtain ⟨b, o, ha, hcell⟩ := hc (by omega)
  exact ⟨b, o, ha, tk_cells fun k hk => (hb.cell (p := ⟨b, o + (4 * i + k), none⟩) (tk_lt hcell (by omega))).trans (hcell i k hi hk)⟩
set_option maxRecDepth 100000 in
set_option maxHeartbeats 8000000 in
theorem printable_calls {w : World} {v : Value} {l : List Tok} (h : IsTk w v l) : Calls Try.prog 22 #[v] w fun e w' => e = .returned (.bool (okL l)) ∧ Below w.heap.size w w' := by
  have hv := h
  obtain ⟨a, c, rfl, hlc, hcm, _, _⟩ := hv
  obtain ⟨q, hq⟩ : ∃ q, q = okL l := ⟨_, rfl⟩
  rw [← hq]
  have HQ := hide hq
  clear hq
  have HW := hide (fun (t : ByteArray) (W : World) => isWord_calls t W)
  have HT := hide h
  clear h
  generalize hn : l.length = n at *
  have HN := hide hn
  clear hn
  go_enter Try.func22, Try.ntmps22
  go_wp2_with fail
  go_loopw [7] (fun iv wq => ∃ i : Nat, i ≤ n ∧ iv = .int .i64 (i : Int) ∧ Below w.heap.size w wq ∧ Hid (∀ k, k < i → okT (l.getD k .nul) = true)) (fun iv _ => n - (intOf iv).toNat)
  case atStart => exact ⟨0, by omega, rfl, Below.refl _ _, fun k hk => absurd hk (by omega)⟩
  case round =>
    rename World => w1
    obtain ⟨i, hin, rfl, hbw, HI⟩ := hrel
    by_cases hlt : i < n
    · have hI : (i : Int) < (n : Int) := by omega
      obtain ⟨b, o, rfl, x0, x1, x2, x3⟩ := HT.out.at hbw (i := i) (by rw [HN.out]; exact hlt)
      have HOK : Hid (∀ x, l.getD i .nul = x → (okT x = false → q = false) ∧ (okT x = true → ∀ k, k < i + 1 → okT (l.getD k .nul) = true)) := fun x hx => ⟨fun h => by rw [HQ.out, okL_no (i := i) (by rw [HN.out]; exact hlt) (by rw [hx]; exact h)], fun h k hk => by
        by_cases e : k = i
        · subst e; rw [hx]; exact h
        · exact unhide HI k (by omega)⟩
      generalize hx : l.getD i .nul = x at *
      have HX := hide (unhide HOK x rfl)
      clear hx HOK
      obtain ⟨xk, xt, xl, xp⟩ := x
      simp only at x0 x1 x2 x3
      have hbn := hbw.alloc hbw.size (.cells #[.int .i64 xk, .string xt, .int .i64 xl, .int .i64 xp] 26)
      have hA := Arr.new w1 [.int .i64 xk, .string xt, .int .i64 xl, .int .i64 xp] 26
      have c0 := hA.cell 0
      have c1 := hA.cell 1
      simp only [List.getElem?_cons_zero, List.getElem?_cons_succ] at c0 c1
      clear hA
      by_cases k1 : xk < 1
      · have HE : Hid (q = false) := HX.out.1 (decide_eq_false fun hh => by have h1 : 1 ≤ xk := hh.1; omega)
        go_wp2
        try rw [Exit.noGoto_ret]
        go_ret
        exact ⟨by rw [HE.out]; rfl, hbn⟩
      · by_cases k7 : 7 < xk
        · have HE : Hid (q = false) := HX.out.1 (decide_eq_false fun hh => by have h1 : xk ≤ 7 := hh.2.1; omega)
          go_wp2
          try rw [Exit.noGoto_ret]
          go_ret
          exact ⟨by rw [HE.out]; rfl, hbn⟩
        · by_cases e1 : xk = 1
          · subst e1
            have HWI := hide (unhide HW xt (w1.alloc (.cells #[.int .i64 1, .string xt, .int .i64 xl, .int .i64 xp] 26)))
            cases hw : wordB xt with
            | true =>
              have HI2 := hide (HX.out.2 (decide_eq_true ⟨by show (1 : Int) ≤ 1; decide, by show (1 : Int) ≤ 7; decide, fun _ => hw⟩))
              rw [hw] at HWI
              clear hw k1 k7
              go_wp2_with fail
              refine (unhide HWI).mono ?_
              rintro e w2 ⟨rfl, hw2⟩
              obtain rfl := hw2.symm
              go_wp2
              go_roundw
              case rel => exact ⟨i + 1, by omega, by go_num, hbn, HI2⟩
              case measure => simp [intOf]; omega
            | false =>
              have HE : Hid (q = false) := HX.out.1 (decide_eq_false fun hh => by have := hh.2.2 rfl; rw [hw] at this; cases this)
              rw [hw] at HWI
              clear hw k1 k7
              go_wp2_with fail
              refine (unhide HWI).mono ?_
              rintro e w2 ⟨rfl, hw2⟩
              obtain rfl := hw2.symm
              go_wp2
              try rw [Exit.noGoto_ret]
              go_ret
              exact ⟨by rw [HE.out]; rfl, hbn⟩
          · have HI2 := hide (HX.out.2 (decide_eq_true ⟨by show 1 ≤ xk; omega, by show xk ≤ 7; omega, fun e => absurd e e1⟩))
            have b1 : (xk == 1) = false := by simpa using e1
            clear e1
            go_wp2
            go_roundw
            case rel => exact ⟨i + 1, by omega, by go_num, hbn, HI2⟩
            case measure => simp [intOf]; omega
    · have hI : ¬ (i : Int) < (n : Int) := by omega
      by_cases h0 : n = 0
      · have HE : Hid (q = true) := by
          show _ = _
          have : l = [] := List.length_eq_zero_iff.1 (by rw [HN.out]; exact h0)
          rw [HQ.out, this]; rfl
        have b0 : ((n : Int) == 0) = true := by rw [h0]; rfl
        clear h0
        go_wp2
        try rw [Exit.noGoto_ret]
        go_ret
        exact ⟨by rw [HE.out]; rfl, hbw⟩
      · have b0 : ((n : Int) == 0) = false := by simp; omega
        obtain ⟨b, o, rfl, x0, _, _, _⟩ := HT.out.at hbw (i := n - 1) (by rw [HN.out]; omega)
        have HE : Hid (q = decide ((l.getD (n - 1) .nul).kind = 7)) := by
          show _ = _
          rw [HQ.out, okL_all (fun k hk => unhide HI k (by rw [HN.out] at hk; omega)) (by rw [HN.out]; omega), HN.out]
        generalize (l.getD (n - 1) .nul).kind = xk at *
        have hwr : IntKind.i64.wrap ((n : Int) - 1) = ((n - 1 : Nat) : Int) := by rw [IntKind.wrap_i64]; omega
        have j1 : ((n - 1 : Nat) : Int) < (n : Int) := by omega
        have bk : (xk == 7) = decide (xk = 7) := rfl
        generalize n - 1 = m at *
        clear h0
        go_wp2
        try rw [Exit.noGoto_ret]
        go_ret
        exact ⟨by rw [HE.out]; rfl, hbw⟩
end Go.Proofs.Ytcdilcjgmcamcab
