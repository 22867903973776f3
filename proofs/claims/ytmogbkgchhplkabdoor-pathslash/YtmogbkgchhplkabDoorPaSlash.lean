/- PathSlash: the walk. -/
import Derived.Test.YtmogbkgchhplkabDoorPaTold
namespace Go.Proofs.YtmogbkgchhplkabDoor
open Go.RowKit

set_option maxHeartbeats 1000000 in
theorem below_calls (c : Int) (h0 : 0 ≤ c) (h1 : c ≤ 255) (w : World) : Calls Tryd.prog 11 #[.int .u8 c] w fun e w' => e = .returned (.int .i64 (rk c)) ∧ w' = w := by
  by_cases h : c = 47
  · subst h
    go_enter Tryd.func11, Tryd.ntmps11
    go_wp2
    go_ret
    exact ⟨rfl, rfl⟩
  · have HS : Hid (rk c = c) := by show _ = _; unfold rk; rw [if_neg h]
    have hb : (c == 47) = false := by simpa using h
    go_enter Tryd.func11, Tryd.ntmps11
    go_wp2
    go_ret
    exact ⟨by rw [HS.out]; rfl, rfl⟩
theorem ordF_zero (a b : ByteArray) : ordF a b 0 (min a.size b.size) = sgn (a.size : Int) (b.size : Int) := rfl
theorem rk_inj {x y : Int} (hx : 0 ≤ x) (hy : 0 ≤ y) (h : rk x = rk y) : x = y := by
  unfold rk at h
  split at h <;> split at h <;> omega
set_option maxRecDepth 100000 in
set_option maxHeartbeats 16000000 in
theorem slash_walk (a0 b0 : ByteArray) (w : World) (hM : Mx w) : Calls Tryd.prog 4 #[.string a0, .string b0] w fun e w' => e = .returned (.bool true) ∧ Below w.heap.size w w' := by
  have HCa := hide (cut_calls a0 w)
  have HCb := hide (cut_calls b0 w)
  have ha := cutS_le a0
  have hb := cutS_le b0
  generalize cutS a0 = a at *
  generalize cutS b0 = b at *
  have HT : Hid (∀ W, Mx W → Calls Tryd.prog 8 #[] W fun e w' => e = .returned (.bool true) ∧ Below W.heap.size W w') := told_calls
  have HU : Hid (∀ W, Calls Tryd.prog 9 #[.string a, .string b] W fun e w' => e = .returned (.bool (undB a b)) ∧ w' = W) := under_calls a b
  have HO : Hid (∀ W, Calls Tryd.prog 10 #[.string a, .string b] W fun e w' => e = .returned (.int .i64 (ordS a b)) ∧ Below W.heap.size W w') := fun W => order_calls a b (by omega) (by omega) W
  have HBL : Hid (∀ (c : Int), 0 ≤ c ∧ c ≤ 255 → ∀ W, Calls Tryd.prog 11 #[.int .u8 c] W fun e w' => e = .returned (.int .i64 (rk c)) ∧ w' = W) := fun c h W => below_calls c h.1 h.2 W
  have HM := hide hM
  clear hM
  have HX : Hid (ordS a b = ordF a b (min a.size b.size) 0) := rfl
  have HUN : Hid (undB a b = (decide (a.size = 0 ∨ a = b) || (preB b a && decide (byt b a.size = 47)))) := rfl
  obtain ⟨x, hx⟩ : ∃ x, x = ordS a b := ⟨_, rfl⟩
  rw [← hx] at HO HX
  clear hx
  obtain ⟨u, hu⟩ : ∃ u, u = undB a b := ⟨_, rfl⟩
  rw [← hu] at HU HUN
  clear hu
  obtain ⟨m, hm⟩ : ∃ m, m = min a.size b.size := ⟨_, rfl⟩
  rw [← hm] at HX
  have HMM := hide hm
  clear hm
  go_enter Tryd.func4, Tryd.ntmps4
  go_wp2_with fail
  refine (unhide HCa).mono ?_
  rintro e wq ⟨rfl, hwq⟩
  obtain rfl := hwq.symm
  clear hwq
  go_wp2_with fail
  refine (unhide HCb).mono ?_
  rintro e wq ⟨rfl, hwq⟩
  obtain rfl := hwq.symm
  clear hwq
  go_wp2_with fail
  go_loopw [5, 6] (fun qv jv W => ∃ (j : Nat) (q : Int), j ≤ m ∧ qv = .int .i64 q ∧ jv = .int .i64 (j : Int) ∧ Hid ((q = 0 ∧ x = ordF a b (m - j) j) ∨ (q ≠ 0 ∧ q = x)) ∧ Hid (Below w.heap.size w W)) (fun _ j _ => m - (intOf j).toNat)
  case atStart => exact ⟨0, 0, by omega, rfl, rfl, Or.inl ⟨rfl, by rw [Nat.sub_zero]; exact HX.out⟩, Below.refl _ _⟩
  case round =>
    obtain ⟨j, q, hj, rfl, rfl, HQ, HB⟩ := hrel
    have hmm := HMM.out
    by_cases hlt : j < m ∧ q = 0
    · obtain ⟨hlt, rfl⟩ := hlt
      have HQ1 : Hid (x = ordF a b (m - j) j) := by
        rcases HQ.out with h | h
        · exact h.2
        · exact absurd rfl h.1
      have hja : j < a.size := by omega
      have hjb : j < b.size := by omega
      have hia := index_str a j hja
      have hib := index_str b j hjb
      have hstep : ordF a b (m - j) j = if byt a j = byt b j then ordF a b (m - (j + 1)) (j + 1) else sgn (rk (byt a j)) (rk (byt b j)) := by
        rw [show m - j = (m - (j + 1)) + 1 by omega]; rfl
      have bx := byt_bd a j
      have bb := byt_bd b j
      have hjA : (j : Int) < (a.size : Int) := by omega
      have hjB : (j : Int) < (b.size : Int) := by omega
      have hri : rk (byt a j) = rk (byt b j) → byt a j = byt b j := rk_inj bx.1 bb.1
      have HBX := hide (unhide HBL (byt a j) bx)
      have HBY := hide (unhide HBL (byt b j) bb)
      generalize byt a j = y at *
      generalize byt b j = z at *
      have HST := hide hstep
      have HRI := hide hri
      clear hstep hri hmm HQ
      have h3 : rk y < rk z ∨ rk z < rk y ∨ rk y = rk z := by omega
      have HRC : Hid (y = z → rk y = rk z) := fun h => by rw [h]
      generalize rk y = ry at *
      generalize rk z = rz at *
      rcases h3 with h3 | h3 | h3
      · have HN : Hid (-1 = x) := by
          show _ = _
          rw [HQ1.out, HST.out, if_neg (fun e => by have := unhide HRC e; omega)]
          unfold sgn; rw [if_pos h3]
        have h4 : ¬ rz < ry := by omega
        clear HST HRI HRC HQ1
        go_wp2_with fail
        go_quiet ((first | (go_at_call 11; with_reducible exact Calls.quiet_of_same (unhide HBX _)) | (go_at_call 11; with_reducible exact Calls.quiet_of_same (unhide HBY _))))
        have HB2 : Hid (Below w.heap.size w (wr.drewN nq)) := (HB.out).trans ((drewn_below wr nq).mono (HB.out).size)
        generalize wr.drewN nq = w2 at *
        go_wp2_with fail
        go_quiet ((first | (go_at_call 11; with_reducible exact Calls.quiet_of_same (unhide HBX _)) | (go_at_call 11; with_reducible exact Calls.quiet_of_same (unhide HBY _))))
        have HB3 : Hid (Below w.heap.size w (w2.drewN nq)) := (HB2.out).trans ((drewn_below w2 nq).mono (HB2.out).size)
        go_wp2
        go_roundw
        case rel => exact ⟨j + 1, -1, by omega, rfl, by go_num, Or.inr ⟨by omega, HN.out⟩, HB3⟩
        case measure => simp [intOf]; omega
      · have HN : Hid (1 = x) := by
          show _ = _
          rw [HQ1.out, HST.out, if_neg (fun e => by have := unhide HRC e; omega)]
          unfold sgn; rw [if_neg (by omega), if_pos h3]
        have h4 : ¬ ry < rz := by omega
        clear HST HRI HRC HQ1
        go_wp2_with fail
        go_quiet ((first | (go_at_call 11; with_reducible exact Calls.quiet_of_same (unhide HBX _)) | (go_at_call 11; with_reducible exact Calls.quiet_of_same (unhide HBY _))))
        have HB2 : Hid (Below w.heap.size w (wr.drewN nq)) := (HB.out).trans ((drewn_below wr nq).mono (HB.out).size)
        generalize wr.drewN nq = w2 at *
        go_wp2_with fail
        go_quiet ((first | (go_at_call 11; with_reducible exact Calls.quiet_of_same (unhide HBX _)) | (go_at_call 11; with_reducible exact Calls.quiet_of_same (unhide HBY _))))
        have HB3 : Hid (Below w.heap.size w (w2.drewN nq)) := (HB2.out).trans ((drewn_below w2 nq).mono (HB2.out).size)
        go_wp2
        go_roundw
        case rel => exact ⟨j + 1, 1, by omega, rfl, by go_num, Or.inr ⟨by omega, HN.out⟩, HB3⟩
        case measure => simp [intOf]; omega
      · have HN : Hid (x = ordF a b (m - (j + 1)) (j + 1)) := by
          show _ = _
          rw [HQ1.out, HST.out, if_pos (unhide HRI h3)]
        have h4 : ¬ ry < rz := by omega
        have h5 : ¬ rz < ry := by omega
        clear HST HRI HRC HQ1 h3
        go_wp2_with fail
        go_quiet ((first | (go_at_call 11; with_reducible exact Calls.quiet_of_same (unhide HBX _)) | (go_at_call 11; with_reducible exact Calls.quiet_of_same (unhide HBY _))))
        have HB2 : Hid (Below w.heap.size w (wr.drewN nq)) := (HB.out).trans ((drewn_below wr nq).mono (HB.out).size)
        generalize wr.drewN nq = w2 at *
        go_wp2_with fail
        go_quiet ((first | (go_at_call 11; with_reducible exact Calls.quiet_of_same (unhide HBX _)) | (go_at_call 11; with_reducible exact Calls.quiet_of_same (unhide HBY _))))
        have HB3 : Hid (Below w.heap.size w (w2.drewN nq)) := (HB2.out).trans ((drewn_below w2 nq).mono (HB2.out).size)
        go_wp2
        go_roundw
        case rel => exact ⟨j + 1, 0, by omega, rfl, by go_num, Or.inl ⟨rfl, HN.out⟩, HB3⟩
        case measure => simp [intOf]; omega
    · have HT2 := hide (unhide HT wr ((HM.out).below HB.out))
      have hA := HB.out
      have hcase : (¬ (j : Int) < (a.size : Int) ∧ q = 0 ∧ a.size < b.size ∧ x = -1) ∨ (¬ (j : Int) < (a.size : Int) ∧ q = 0 ∧ a.size = b.size ∧ x = 0) ∨ ((j : Int) < (a.size : Int) ∧ ¬ (j : Int) < (b.size : Int) ∧ q = 0 ∧ b.size < a.size ∧ x = 1) ∨ (¬ (j : Int) < (a.size : Int) ∧ q ≠ 0 ∧ q = x) ∨ ((j : Int) < (a.size : Int) ∧ ¬ (j : Int) < (b.size : Int) ∧ q ≠ 0 ∧ q = x) ∨ ((j : Int) < (a.size : Int) ∧ (j : Int) < (b.size : Int) ∧ q ≠ 0 ∧ q = x) := by
        rcases HQ.out with ⟨h1, h2⟩ | ⟨h1, h2⟩
        · have hjm : j = m := by
            by_cases h : j < m
            · exact absurd ⟨h, h1⟩ hlt
            · omega
          rw [hjm, Nat.sub_self] at h2
          have h3 : x = sgn (a.size : Int) (b.size : Int) := h2
          unfold sgn at h3
          by_cases c1 : a.size < b.size
          · rw [if_pos (by omega)] at h3
            exact Or.inl ⟨by omega, h1, c1, h3⟩
          · by_cases c2 : b.size < a.size
            · rw [if_neg (by omega), if_pos (by omega)] at h3
              exact Or.inr (Or.inr (Or.inl ⟨by omega, by omega, h1, c2, h3⟩))
            · rw [if_neg (by omega), if_neg (by omega)] at h3
              exact Or.inr (Or.inl ⟨by omega, h1, by omega, h3⟩)
        · by_cases c1 : (j : Int) < (a.size : Int)
          · by_cases c2 : (j : Int) < (b.size : Int)
            · exact Or.inr (Or.inr (Or.inr (Or.inr (Or.inr ⟨c1, c2, h1, h2⟩))))
            · exact Or.inr (Or.inr (Or.inr (Or.inr (Or.inl ⟨c1, c2, h1, h2⟩))))
          · exact Or.inr (Or.inr (Or.inr (Or.inl ⟨c1, h1, h2⟩)))
      have e0 : a.toList.isEmpty = decide (a.size = 0) := by
        rw [ByteArray.toList_eq]
        have hl : a.data.toList.length = a.size := toL_len a
        cases hd : a.data.toList with
        | nil => rw [hd] at hl; rw [decide_eq_true (by simpa using hl.symm)]; rfl
        | cons _ _ => rw [hd] at hl; rw [decide_eq_false (by simp at hl; omega)]; rfl
      have e1 : (a.toList == b.toList) = decide (a = b) := str_eq a b
      have e2 : ((b.extract 0 a.size).toList == a.toList) = decide (fst b a.size = a) := str_eq _ _
      have HPR : Hid (preB b a = decide (a.size ≤ b.size ∧ fst b a.size = a)) := rfl
      have hucase : (a.size = 0 ∧ u = true) ∨ (a.size ≠ 0 ∧ a = b ∧ u = true) ∨ (a.size ≠ 0 ∧ a ≠ b ∧ ¬ (a.size : Int) < (b.size : Int) ∧ u = false) ∨ (a.size ≠ 0 ∧ a ≠ b ∧ (a.size : Int) < (b.size : Int) ∧ fst b a.size ≠ a ∧ u = false) ∨ (a.size ≠ 0 ∧ a ≠ b ∧ (a.size : Int) < (b.size : Int) ∧ fst b a.size = a ∧ u = decide (byt b a.size = 47)) := by
        have hun := HUN.out
        by_cases c0 : a.size = 0
        · exact Or.inl ⟨c0, by rw [hun, decide_eq_true (Or.inl c0)]; rfl⟩
        · by_cases c1 : a = b
          · exact Or.inr (Or.inl ⟨c0, c1, by rw [hun, decide_eq_true (Or.inr c1)]; rfl⟩)
          · rw [decide_eq_false (fun e => e.elim c0 c1), Bool.false_or, HPR.out] at hun
            by_cases c2 : a.size < b.size
            · by_cases c3 : fst b a.size = a
              · rw [decide_eq_true ⟨by omega, c3⟩, Bool.true_and] at hun
                exact Or.inr (Or.inr (Or.inr (Or.inr ⟨c0, c1, by omega, c3, hun⟩)))
              · rw [decide_eq_false (fun e => c3 e.2), Bool.false_and] at hun
                exact Or.inr (Or.inr (Or.inr (Or.inl ⟨c0, c1, by omega, c3, hun⟩)))
            · have : ¬ (a.size ≤ b.size ∧ fst b a.size = a) := fun ⟨g1, g2⟩ => c1 (by
                have hs : a.size = b.size := by omega
                rw [← g2, hs]
                unfold fst
                exact Go.WideShapes.bytes_inj (by simp))
              rw [decide_eq_false this, Bool.false_and] at hun
              exact Or.inr (Or.inr (Or.inl ⟨c0, c1, by omega, hun⟩))
      clear hlt HQ HUN HPR hmm
      rcases hucase with ⟨c0, c9⟩ | ⟨c0, c1, c9⟩ | ⟨c0, c1, c2, c9⟩ | ⟨c0, c1, c2, c3, c9⟩ | ⟨c0, c1, c2, c3, c9⟩
      · rw [decide_eq_true c0] at e0
        have HC0 := hide c0
        clear c0 e1 e2
        subst c9
        rcases hcase with ⟨h1, h2, h3, h4⟩ | ⟨h1, h2, h3, h4⟩ | ⟨h1, h2, h3, h4, h5⟩ | ⟨h1, h2, h3⟩ | ⟨h1, h2, h3, h4⟩ | ⟨h1, h2, h3, h4⟩
        · subst h2 h4
          have g1 : (a.size : Int) < (b.size : Int) := by omega
          first
          | (exfalso; omega)
          | (go_wp2_with fail
             refine (unhide HT2).mono ?_
             rintro e w2 ⟨rfl, hB2⟩
             have hA2 := hA.trans (hB2.mono hA.size)
             have HO2 := hide (unhide HO w2)
             go_wp2_with fail
             refine (unhide HO2).mono ?_
             rintro e w3 ⟨rfl, hB3⟩
             have hA3 := hA2.trans (hB3.mono hA2.size)
             have HU2 := hide (unhide HU w3)
             go_wp2_with fail
             refine (unhide HU2).mono ?_
             rintro e wq ⟨rfl, hwq⟩
             obtain rfl := hwq.symm
             clear hwq
             go_wp2
             go_ret
             exact ⟨rfl, hA3⟩)
        · subst h2 h4
          have g1 : ¬ (a.size : Int) < (b.size : Int) := by omega
          have g2 : ¬ (b.size : Int) < (a.size : Int) := by omega
          clear h3
          first
          | (exfalso; omega)
          | (go_wp2_with fail
             refine (unhide HT2).mono ?_
             rintro e w2 ⟨rfl, hB2⟩
             have hA2 := hA.trans (hB2.mono hA.size)
             have HO2 := hide (unhide HO w2)
             go_wp2_with fail
             refine (unhide HO2).mono ?_
             rintro e w3 ⟨rfl, hB3⟩
             have hA3 := hA2.trans (hB3.mono hA2.size)
             have HU2 := hide (unhide HU w3)
             go_wp2_with fail
             refine (unhide HU2).mono ?_
             rintro e wq ⟨rfl, hwq⟩
             obtain rfl := hwq.symm
             clear hwq
             go_wp2
             go_ret
             exact ⟨rfl, hA3⟩)
        · subst h3 h5
          have g1 : ¬ (a.size : Int) < (b.size : Int) := by omega
          have g2 : (b.size : Int) < (a.size : Int) := by omega
          first
          | (exfalso; omega)
          | (go_wp2_with fail
             refine (unhide HT2).mono ?_
             rintro e w2 ⟨rfl, hB2⟩
             have hA2 := hA.trans (hB2.mono hA.size)
             have HO2 := hide (unhide HO w2)
             go_wp2_with fail
             refine (unhide HO2).mono ?_
             rintro e w3 ⟨rfl, hB3⟩
             have hA3 := hA2.trans (hB3.mono hA2.size)
             have HU2 := hide (unhide HU w3)
             go_wp2_with fail
             refine (unhide HU2).mono ?_
             rintro e wq ⟨rfl, hwq⟩
             obtain rfl := hwq.symm
             clear hwq
             go_wp2
             go_ret
             exact ⟨rfl, hA3⟩)
        · have qq : (q == 0) = false := by rw [beq_eq_false_iff_ne]; exact h2
          subst h3
          have qx : (q == q) = true := by simp
          first
          | (exfalso; omega)
          | (go_wp2_with fail
             refine (unhide HT2).mono ?_
             rintro e w2 ⟨rfl, hB2⟩
             have hA2 := hA.trans (hB2.mono hA.size)
             have HO2 := hide (unhide HO w2)
             go_wp2_with fail
             refine (unhide HO2).mono ?_
             rintro e w3 ⟨rfl, hB3⟩
             have hA3 := hA2.trans (hB3.mono hA2.size)
             have HU2 := hide (unhide HU w3)
             go_wp2_with fail
             refine (unhide HU2).mono ?_
             rintro e wq ⟨rfl, hwq⟩
             obtain rfl := hwq.symm
             clear hwq
             go_wp2
             go_ret
             exact ⟨rfl, hA3⟩)
        · have qq : (q == 0) = false := by rw [beq_eq_false_iff_ne]; exact h3
          subst h4
          have qx : (q == q) = true := by simp
          first
          | (exfalso; omega)
          | (go_wp2_with fail
             refine (unhide HT2).mono ?_
             rintro e w2 ⟨rfl, hB2⟩
             have hA2 := hA.trans (hB2.mono hA.size)
             have HO2 := hide (unhide HO w2)
             go_wp2_with fail
             refine (unhide HO2).mono ?_
             rintro e w3 ⟨rfl, hB3⟩
             have hA3 := hA2.trans (hB3.mono hA2.size)
             have HU2 := hide (unhide HU w3)
             go_wp2_with fail
             refine (unhide HU2).mono ?_
             rintro e wq ⟨rfl, hwq⟩
             obtain rfl := hwq.symm
             clear hwq
             go_wp2
             go_ret
             exact ⟨rfl, hA3⟩)
        · have qq : (q == 0) = false := by rw [beq_eq_false_iff_ne]; exact h3
          subst h4
          have qx : (q == q) = true := by simp
          first
          | (exfalso; omega)
          | (go_wp2_with fail
             refine (unhide HT2).mono ?_
             rintro e w2 ⟨rfl, hB2⟩
             have hA2 := hA.trans (hB2.mono hA.size)
             have HO2 := hide (unhide HO w2)
             go_wp2_with fail
             refine (unhide HO2).mono ?_
             rintro e w3 ⟨rfl, hB3⟩
             have hA3 := hA2.trans (hB3.mono hA2.size)
             have HU2 := hide (unhide HU w3)
             go_wp2_with fail
             refine (unhide HU2).mono ?_
             rintro e wq ⟨rfl, hwq⟩
             obtain rfl := hwq.symm
             clear hwq
             go_wp2
             go_ret
             exact ⟨rfl, hA3⟩)
      · rw [decide_eq_false c0] at e0
        rw [decide_eq_true c1] at e1
        clear c1 e2
        subst c9
        rcases hcase with ⟨h1, h2, h3, h4⟩ | ⟨h1, h2, h3, h4⟩ | ⟨h1, h2, h3, h4, h5⟩ | ⟨h1, h2, h3⟩ | ⟨h1, h2, h3, h4⟩ | ⟨h1, h2, h3, h4⟩
        · subst h2 h4
          have g1 : (a.size : Int) < (b.size : Int) := by omega
          first
          | (exfalso; omega)
          | (go_wp2_with fail
             refine (unhide HT2).mono ?_
             rintro e w2 ⟨rfl, hB2⟩
             have hA2 := hA.trans (hB2.mono hA.size)
             have HO2 := hide (unhide HO w2)
             go_wp2_with fail
             refine (unhide HO2).mono ?_
             rintro e w3 ⟨rfl, hB3⟩
             have hA3 := hA2.trans (hB3.mono hA2.size)
             have HU2 := hide (unhide HU w3)
             go_wp2_with fail
             refine (unhide HU2).mono ?_
             rintro e wq ⟨rfl, hwq⟩
             obtain rfl := hwq.symm
             clear hwq
             go_wp2
             go_ret
             exact ⟨rfl, hA3⟩)
        · subst h2 h4
          have g1 : ¬ (a.size : Int) < (b.size : Int) := by omega
          have g2 : ¬ (b.size : Int) < (a.size : Int) := by omega
          clear h3
          first
          | (exfalso; omega)
          | (go_wp2_with fail
             refine (unhide HT2).mono ?_
             rintro e w2 ⟨rfl, hB2⟩
             have hA2 := hA.trans (hB2.mono hA.size)
             have HO2 := hide (unhide HO w2)
             go_wp2_with fail
             refine (unhide HO2).mono ?_
             rintro e w3 ⟨rfl, hB3⟩
             have hA3 := hA2.trans (hB3.mono hA2.size)
             have HU2 := hide (unhide HU w3)
             go_wp2_with fail
             refine (unhide HU2).mono ?_
             rintro e wq ⟨rfl, hwq⟩
             obtain rfl := hwq.symm
             clear hwq
             go_wp2
             go_ret
             exact ⟨rfl, hA3⟩)
        · subst h3 h5
          have g1 : ¬ (a.size : Int) < (b.size : Int) := by omega
          have g2 : (b.size : Int) < (a.size : Int) := by omega
          first
          | (exfalso; omega)
          | (go_wp2_with fail
             refine (unhide HT2).mono ?_
             rintro e w2 ⟨rfl, hB2⟩
             have hA2 := hA.trans (hB2.mono hA.size)
             have HO2 := hide (unhide HO w2)
             go_wp2_with fail
             refine (unhide HO2).mono ?_
             rintro e w3 ⟨rfl, hB3⟩
             have hA3 := hA2.trans (hB3.mono hA2.size)
             have HU2 := hide (unhide HU w3)
             go_wp2_with fail
             refine (unhide HU2).mono ?_
             rintro e wq ⟨rfl, hwq⟩
             obtain rfl := hwq.symm
             clear hwq
             go_wp2
             go_ret
             exact ⟨rfl, hA3⟩)
        · have qq : (q == 0) = false := by rw [beq_eq_false_iff_ne]; exact h2
          subst h3
          have qx : (q == q) = true := by simp
          first
          | (exfalso; omega)
          | (go_wp2_with fail
             refine (unhide HT2).mono ?_
             rintro e w2 ⟨rfl, hB2⟩
             have hA2 := hA.trans (hB2.mono hA.size)
             have HO2 := hide (unhide HO w2)
             go_wp2_with fail
             refine (unhide HO2).mono ?_
             rintro e w3 ⟨rfl, hB3⟩
             have hA3 := hA2.trans (hB3.mono hA2.size)
             have HU2 := hide (unhide HU w3)
             go_wp2_with fail
             refine (unhide HU2).mono ?_
             rintro e wq ⟨rfl, hwq⟩
             obtain rfl := hwq.symm
             clear hwq
             go_wp2
             go_ret
             exact ⟨rfl, hA3⟩)
        · have qq : (q == 0) = false := by rw [beq_eq_false_iff_ne]; exact h3
          subst h4
          have qx : (q == q) = true := by simp
          first
          | (exfalso; omega)
          | (go_wp2_with fail
             refine (unhide HT2).mono ?_
             rintro e w2 ⟨rfl, hB2⟩
             have hA2 := hA.trans (hB2.mono hA.size)
             have HO2 := hide (unhide HO w2)
             go_wp2_with fail
             refine (unhide HO2).mono ?_
             rintro e w3 ⟨rfl, hB3⟩
             have hA3 := hA2.trans (hB3.mono hA2.size)
             have HU2 := hide (unhide HU w3)
             go_wp2_with fail
             refine (unhide HU2).mono ?_
             rintro e wq ⟨rfl, hwq⟩
             obtain rfl := hwq.symm
             clear hwq
             go_wp2
             go_ret
             exact ⟨rfl, hA3⟩)
        · have qq : (q == 0) = false := by rw [beq_eq_false_iff_ne]; exact h3
          subst h4
          have qx : (q == q) = true := by simp
          first
          | (exfalso; omega)
          | (go_wp2_with fail
             refine (unhide HT2).mono ?_
             rintro e w2 ⟨rfl, hB2⟩
             have hA2 := hA.trans (hB2.mono hA.size)
             have HO2 := hide (unhide HO w2)
             go_wp2_with fail
             refine (unhide HO2).mono ?_
             rintro e w3 ⟨rfl, hB3⟩
             have hA3 := hA2.trans (hB3.mono hA2.size)
             have HU2 := hide (unhide HU w3)
             go_wp2_with fail
             refine (unhide HU2).mono ?_
             rintro e wq ⟨rfl, hwq⟩
             obtain rfl := hwq.symm
             clear hwq
             go_wp2
             go_ret
             exact ⟨rfl, hA3⟩)
      · rw [decide_eq_false c0] at e0
        rw [decide_eq_false c1] at e1
        clear c1 e2
        subst c9
        rcases hcase with ⟨h1, h2, h3, h4⟩ | ⟨h1, h2, h3, h4⟩ | ⟨h1, h2, h3, h4, h5⟩ | ⟨h1, h2, h3⟩ | ⟨h1, h2, h3, h4⟩ | ⟨h1, h2, h3, h4⟩
        · subst h2 h4
          have g1 : (a.size : Int) < (b.size : Int) := by omega
          first
          | (exfalso; omega)
          | (go_wp2_with fail
             refine (unhide HT2).mono ?_
             rintro e w2 ⟨rfl, hB2⟩
             have hA2 := hA.trans (hB2.mono hA.size)
             have HO2 := hide (unhide HO w2)
             go_wp2_with fail
             refine (unhide HO2).mono ?_
             rintro e w3 ⟨rfl, hB3⟩
             have hA3 := hA2.trans (hB3.mono hA2.size)
             have HU2 := hide (unhide HU w3)
             go_wp2_with fail
             refine (unhide HU2).mono ?_
             rintro e wq ⟨rfl, hwq⟩
             obtain rfl := hwq.symm
             clear hwq
             go_wp2
             go_ret
             exact ⟨rfl, hA3⟩)
        · subst h2 h4
          have g1 : ¬ (a.size : Int) < (b.size : Int) := by omega
          have g2 : ¬ (b.size : Int) < (a.size : Int) := by omega
          clear h3
          first
          | (exfalso; omega)
          | (go_wp2_with fail
             refine (unhide HT2).mono ?_
             rintro e w2 ⟨rfl, hB2⟩
             have hA2 := hA.trans (hB2.mono hA.size)
             have HO2 := hide (unhide HO w2)
             go_wp2_with fail
             refine (unhide HO2).mono ?_
             rintro e w3 ⟨rfl, hB3⟩
             have hA3 := hA2.trans (hB3.mono hA2.size)
             have HU2 := hide (unhide HU w3)
             go_wp2_with fail
             refine (unhide HU2).mono ?_
             rintro e wq ⟨rfl, hwq⟩
             obtain rfl := hwq.symm
             clear hwq
             go_wp2
             go_ret
             exact ⟨rfl, hA3⟩)
        · subst h3 h5
          have g1 : ¬ (a.size : Int) < (b.size : Int) := by omega
          have g2 : (b.size : Int) < (a.size : Int) := by omega
          first
          | (exfalso; omega)
          | (go_wp2_with fail
             refine (unhide HT2).mono ?_
             rintro e w2 ⟨rfl, hB2⟩
             have hA2 := hA.trans (hB2.mono hA.size)
             have HO2 := hide (unhide HO w2)
             go_wp2_with fail
             refine (unhide HO2).mono ?_
             rintro e w3 ⟨rfl, hB3⟩
             have hA3 := hA2.trans (hB3.mono hA2.size)
             have HU2 := hide (unhide HU w3)
             go_wp2_with fail
             refine (unhide HU2).mono ?_
             rintro e wq ⟨rfl, hwq⟩
             obtain rfl := hwq.symm
             clear hwq
             go_wp2
             go_ret
             exact ⟨rfl, hA3⟩)
        · have qq : (q == 0) = false := by rw [beq_eq_false_iff_ne]; exact h2
          subst h3
          have qx : (q == q) = true := by simp
          first
          | (exfalso; omega)
          | (go_wp2_with fail
             refine (unhide HT2).mono ?_
             rintro e w2 ⟨rfl, hB2⟩
             have hA2 := hA.trans (hB2.mono hA.size)
             have HO2 := hide (unhide HO w2)
             go_wp2_with fail
             refine (unhide HO2).mono ?_
             rintro e w3 ⟨rfl, hB3⟩
             have hA3 := hA2.trans (hB3.mono hA2.size)
             have HU2 := hide (unhide HU w3)
             go_wp2_with fail
             refine (unhide HU2).mono ?_
             rintro e wq ⟨rfl, hwq⟩
             obtain rfl := hwq.symm
             clear hwq
             go_wp2
             go_ret
             exact ⟨rfl, hA3⟩)
        · have qq : (q == 0) = false := by rw [beq_eq_false_iff_ne]; exact h3
          subst h4
          have qx : (q == q) = true := by simp
          first
          | (exfalso; omega)
          | (go_wp2_with fail
             refine (unhide HT2).mono ?_
             rintro e w2 ⟨rfl, hB2⟩
             have hA2 := hA.trans (hB2.mono hA.size)
             have HO2 := hide (unhide HO w2)
             go_wp2_with fail
             refine (unhide HO2).mono ?_
             rintro e w3 ⟨rfl, hB3⟩
             have hA3 := hA2.trans (hB3.mono hA2.size)
             have HU2 := hide (unhide HU w3)
             go_wp2_with fail
             refine (unhide HU2).mono ?_
             rintro e wq ⟨rfl, hwq⟩
             obtain rfl := hwq.symm
             clear hwq
             go_wp2
             go_ret
             exact ⟨rfl, hA3⟩)
        · have qq : (q == 0) = false := by rw [beq_eq_false_iff_ne]; exact h3
          subst h4
          have qx : (q == q) = true := by simp
          first
          | (exfalso; omega)
          | (go_wp2_with fail
             refine (unhide HT2).mono ?_
             rintro e w2 ⟨rfl, hB2⟩
             have hA2 := hA.trans (hB2.mono hA.size)
             have HO2 := hide (unhide HO w2)
             go_wp2_with fail
             refine (unhide HO2).mono ?_
             rintro e w3 ⟨rfl, hB3⟩
             have hA3 := hA2.trans (hB3.mono hA2.size)
             have HU2 := hide (unhide HU w3)
             go_wp2_with fail
             refine (unhide HU2).mono ?_
             rintro e wq ⟨rfl, hwq⟩
             obtain rfl := hwq.symm
             clear hwq
             go_wp2
             go_ret
             exact ⟨rfl, hA3⟩)
      · rw [decide_eq_false c0] at e0
        rw [decide_eq_false c1] at e1
        rw [decide_eq_false c3] at e2
        clear c1 c3
        subst c9
        rcases hcase with ⟨h1, h2, h3, h4⟩ | ⟨h1, h2, h3, h4⟩ | ⟨h1, h2, h3, h4, h5⟩ | ⟨h1, h2, h3⟩ | ⟨h1, h2, h3, h4⟩ | ⟨h1, h2, h3, h4⟩
        · subst h2 h4
          have g1 : (a.size : Int) < (b.size : Int) := by omega
          first
          | (exfalso; omega)
          | (go_wp2_with fail
             refine (unhide HT2).mono ?_
             rintro e w2 ⟨rfl, hB2⟩
             have hA2 := hA.trans (hB2.mono hA.size)
             have HO2 := hide (unhide HO w2)
             go_wp2_with fail
             refine (unhide HO2).mono ?_
             rintro e w3 ⟨rfl, hB3⟩
             have hA3 := hA2.trans (hB3.mono hA2.size)
             have HU2 := hide (unhide HU w3)
             go_wp2_with fail
             refine (unhide HU2).mono ?_
             rintro e wq ⟨rfl, hwq⟩
             obtain rfl := hwq.symm
             clear hwq
             go_wp2
             go_ret
             exact ⟨rfl, hA3⟩)
        · subst h2 h4
          have g1 : ¬ (a.size : Int) < (b.size : Int) := by omega
          have g2 : ¬ (b.size : Int) < (a.size : Int) := by omega
          clear h3
          first
          | (exfalso; omega)
          | (go_wp2_with fail
             refine (unhide HT2).mono ?_
             rintro e w2 ⟨rfl, hB2⟩
             have hA2 := hA.trans (hB2.mono hA.size)
             have HO2 := hide (unhide HO w2)
             go_wp2_with fail
             refine (unhide HO2).mono ?_
             rintro e w3 ⟨rfl, hB3⟩
             have hA3 := hA2.trans (hB3.mono hA2.size)
             have HU2 := hide (unhide HU w3)
             go_wp2_with fail
             refine (unhide HU2).mono ?_
             rintro e wq ⟨rfl, hwq⟩
             obtain rfl := hwq.symm
             clear hwq
             go_wp2
             go_ret
             exact ⟨rfl, hA3⟩)
        · subst h3 h5
          have g1 : ¬ (a.size : Int) < (b.size : Int) := by omega
          have g2 : (b.size : Int) < (a.size : Int) := by omega
          first
          | (exfalso; omega)
          | (go_wp2_with fail
             refine (unhide HT2).mono ?_
             rintro e w2 ⟨rfl, hB2⟩
             have hA2 := hA.trans (hB2.mono hA.size)
             have HO2 := hide (unhide HO w2)
             go_wp2_with fail
             refine (unhide HO2).mono ?_
             rintro e w3 ⟨rfl, hB3⟩
             have hA3 := hA2.trans (hB3.mono hA2.size)
             have HU2 := hide (unhide HU w3)
             go_wp2_with fail
             refine (unhide HU2).mono ?_
             rintro e wq ⟨rfl, hwq⟩
             obtain rfl := hwq.symm
             clear hwq
             go_wp2
             go_ret
             exact ⟨rfl, hA3⟩)
        · have qq : (q == 0) = false := by rw [beq_eq_false_iff_ne]; exact h2
          subst h3
          have qx : (q == q) = true := by simp
          first
          | (exfalso; omega)
          | (go_wp2_with fail
             refine (unhide HT2).mono ?_
             rintro e w2 ⟨rfl, hB2⟩
             have hA2 := hA.trans (hB2.mono hA.size)
             have HO2 := hide (unhide HO w2)
             go_wp2_with fail
             refine (unhide HO2).mono ?_
             rintro e w3 ⟨rfl, hB3⟩
             have hA3 := hA2.trans (hB3.mono hA2.size)
             have HU2 := hide (unhide HU w3)
             go_wp2_with fail
             refine (unhide HU2).mono ?_
             rintro e wq ⟨rfl, hwq⟩
             obtain rfl := hwq.symm
             clear hwq
             go_wp2
             go_ret
             exact ⟨rfl, hA3⟩)
        · have qq : (q == 0) = false := by rw [beq_eq_false_iff_ne]; exact h3
          subst h4
          have qx : (q == q) = true := by simp
          first
          | (exfalso; omega)
          | (go_wp2_with fail
             refine (unhide HT2).mono ?_
             rintro e w2 ⟨rfl, hB2⟩
             have hA2 := hA.trans (hB2.mono hA.size)
             have HO2 := hide (unhide HO w2)
             go_wp2_with fail
             refine (unhide HO2).mono ?_
             rintro e w3 ⟨rfl, hB3⟩
             have hA3 := hA2.trans (hB3.mono hA2.size)
             have HU2 := hide (unhide HU w3)
             go_wp2_with fail
             refine (unhide HU2).mono ?_
             rintro e wq ⟨rfl, hwq⟩
             obtain rfl := hwq.symm
             clear hwq
             go_wp2
             go_ret
             exact ⟨rfl, hA3⟩)
        · have qq : (q == 0) = false := by rw [beq_eq_false_iff_ne]; exact h3
          subst h4
          have qx : (q == q) = true := by simp
          first
          | (exfalso; omega)
          | (go_wp2_with fail
             refine (unhide HT2).mono ?_
             rintro e w2 ⟨rfl, hB2⟩
             have hA2 := hA.trans (hB2.mono hA.size)
             have HO2 := hide (unhide HO w2)
             go_wp2_with fail
             refine (unhide HO2).mono ?_
             rintro e w3 ⟨rfl, hB3⟩
             have hA3 := hA2.trans (hB3.mono hA2.size)
             have HU2 := hide (unhide HU w3)
             go_wp2_with fail
             refine (unhide HU2).mono ?_
             rintro e wq ⟨rfl, hwq⟩
             obtain rfl := hwq.symm
             clear hwq
             go_wp2
             go_ret
             exact ⟨rfl, hA3⟩)
      · rw [decide_eq_false c0] at e0
        rw [decide_eq_false c1] at e1
        rw [decide_eq_true c3] at e2
        have hidx := index_str b a.size (by omega)
        by_cases c4 : byt b a.size = 47
        · rw [decide_eq_true c4] at c9
          rw [c4] at hidx
          clear c1 c3 c4
          subst c9
          rcases hcase with ⟨h1, h2, h3, h4⟩ | ⟨h1, h2, h3, h4⟩ | ⟨h1, h2, h3, h4, h5⟩ | ⟨h1, h2, h3⟩ | ⟨h1, h2, h3, h4⟩ | ⟨h1, h2, h3, h4⟩
          · subst h2 h4
            have g1 : (a.size : Int) < (b.size : Int) := by omega
            first
            | (exfalso; omega)
            | (go_wp2_with fail
               refine (unhide HT2).mono ?_
               rintro e w2 ⟨rfl, hB2⟩
               have hA2 := hA.trans (hB2.mono hA.size)
               have HO2 := hide (unhide HO w2)
               go_wp2_with fail
               refine (unhide HO2).mono ?_
               rintro e w3 ⟨rfl, hB3⟩
               have hA3 := hA2.trans (hB3.mono hA2.size)
               have HU2 := hide (unhide HU w3)
               go_wp2_with fail
               refine (unhide HU2).mono ?_
               rintro e wq ⟨rfl, hwq⟩
               obtain rfl := hwq.symm
               clear hwq
               go_wp2
               go_ret
               exact ⟨rfl, hA3⟩)
          · subst h2 h4
            have g1 : ¬ (a.size : Int) < (b.size : Int) := by omega
            have g2 : ¬ (b.size : Int) < (a.size : Int) := by omega
            clear h3
            first
            | (exfalso; omega)
            | (go_wp2_with fail
               refine (unhide HT2).mono ?_
               rintro e w2 ⟨rfl, hB2⟩
               have hA2 := hA.trans (hB2.mono hA.size)
               have HO2 := hide (unhide HO w2)
               go_wp2_with fail
               refine (unhide HO2).mono ?_
               rintro e w3 ⟨rfl, hB3⟩
               have hA3 := hA2.trans (hB3.mono hA2.size)
               have HU2 := hide (unhide HU w3)
               go_wp2_with fail
               refine (unhide HU2).mono ?_
               rintro e wq ⟨rfl, hwq⟩
               obtain rfl := hwq.symm
               clear hwq
               go_wp2
               go_ret
               exact ⟨rfl, hA3⟩)
          · subst h3 h5
            have g1 : ¬ (a.size : Int) < (b.size : Int) := by omega
            have g2 : (b.size : Int) < (a.size : Int) := by omega
            first
            | (exfalso; omega)
            | (go_wp2_with fail
               refine (unhide HT2).mono ?_
               rintro e w2 ⟨rfl, hB2⟩
               have hA2 := hA.trans (hB2.mono hA.size)
               have HO2 := hide (unhide HO w2)
               go_wp2_with fail
               refine (unhide HO2).mono ?_
               rintro e w3 ⟨rfl, hB3⟩
               have hA3 := hA2.trans (hB3.mono hA2.size)
               have HU2 := hide (unhide HU w3)
               go_wp2_with fail
               refine (unhide HU2).mono ?_
               rintro e wq ⟨rfl, hwq⟩
               obtain rfl := hwq.symm
               clear hwq
               go_wp2
               go_ret
               exact ⟨rfl, hA3⟩)
          · have qq : (q == 0) = false := by rw [beq_eq_false_iff_ne]; exact h2
            subst h3
            have qx : (q == q) = true := by simp
            first
            | (exfalso; omega)
            | (go_wp2_with fail
               refine (unhide HT2).mono ?_
               rintro e w2 ⟨rfl, hB2⟩
               have hA2 := hA.trans (hB2.mono hA.size)
               have HO2 := hide (unhide HO w2)
               go_wp2_with fail
               refine (unhide HO2).mono ?_
               rintro e w3 ⟨rfl, hB3⟩
               have hA3 := hA2.trans (hB3.mono hA2.size)
               have HU2 := hide (unhide HU w3)
               go_wp2_with fail
               refine (unhide HU2).mono ?_
               rintro e wq ⟨rfl, hwq⟩
               obtain rfl := hwq.symm
               clear hwq
               go_wp2
               go_ret
               exact ⟨rfl, hA3⟩)
          · have qq : (q == 0) = false := by rw [beq_eq_false_iff_ne]; exact h3
            subst h4
            have qx : (q == q) = true := by simp
            first
            | (exfalso; omega)
            | (go_wp2_with fail
               refine (unhide HT2).mono ?_
               rintro e w2 ⟨rfl, hB2⟩
               have hA2 := hA.trans (hB2.mono hA.size)
               have HO2 := hide (unhide HO w2)
               go_wp2_with fail
               refine (unhide HO2).mono ?_
               rintro e w3 ⟨rfl, hB3⟩
               have hA3 := hA2.trans (hB3.mono hA2.size)
               have HU2 := hide (unhide HU w3)
               go_wp2_with fail
               refine (unhide HU2).mono ?_
               rintro e wq ⟨rfl, hwq⟩
               obtain rfl := hwq.symm
               clear hwq
               go_wp2
               go_ret
               exact ⟨rfl, hA3⟩)
          · have qq : (q == 0) = false := by rw [beq_eq_false_iff_ne]; exact h3
            subst h4
            have qx : (q == q) = true := by simp
            first
            | (exfalso; omega)
            | (go_wp2_with fail
               refine (unhide HT2).mono ?_
               rintro e w2 ⟨rfl, hB2⟩
               have hA2 := hA.trans (hB2.mono hA.size)
               have HO2 := hide (unhide HO w2)
               go_wp2_with fail
               refine (unhide HO2).mono ?_
               rintro e w3 ⟨rfl, hB3⟩
               have hA3 := hA2.trans (hB3.mono hA2.size)
               have HU2 := hide (unhide HU w3)
               go_wp2_with fail
               refine (unhide HU2).mono ?_
               rintro e wq ⟨rfl, hwq⟩
               obtain rfl := hwq.symm
               clear hwq
               go_wp2
               go_ret
               exact ⟨rfl, hA3⟩)
        · rw [decide_eq_false c4] at c9
          have q47 : (byt b a.size == 47) = false := by rw [beq_eq_false_iff_ne]; exact c4
          generalize byt b a.size = y at *
          clear c1 c3 c4
          subst c9
          rcases hcase with ⟨h1, h2, h3, h4⟩ | ⟨h1, h2, h3, h4⟩ | ⟨h1, h2, h3, h4, h5⟩ | ⟨h1, h2, h3⟩ | ⟨h1, h2, h3, h4⟩ | ⟨h1, h2, h3, h4⟩
          · subst h2 h4
            have g1 : (a.size : Int) < (b.size : Int) := by omega
            first
            | (exfalso; omega)
            | (go_wp2_with fail
               refine (unhide HT2).mono ?_
               rintro e w2 ⟨rfl, hB2⟩
               have hA2 := hA.trans (hB2.mono hA.size)
               have HO2 := hide (unhide HO w2)
               go_wp2_with fail
               refine (unhide HO2).mono ?_
               rintro e w3 ⟨rfl, hB3⟩
               have hA3 := hA2.trans (hB3.mono hA2.size)
               have HU2 := hide (unhide HU w3)
               go_wp2_with fail
               refine (unhide HU2).mono ?_
               rintro e wq ⟨rfl, hwq⟩
               obtain rfl := hwq.symm
               clear hwq
               go_wp2
               go_ret
               exact ⟨rfl, hA3⟩)
          · subst h2 h4
            have g1 : ¬ (a.size : Int) < (b.size : Int) := by omega
            have g2 : ¬ (b.size : Int) < (a.size : Int) := by omega
            clear h3
            first
            | (exfalso; omega)
            | (go_wp2_with fail
               refine (unhide HT2).mono ?_
               rintro e w2 ⟨rfl, hB2⟩
               have hA2 := hA.trans (hB2.mono hA.size)
               have HO2 := hide (unhide HO w2)
               go_wp2_with fail
               refine (unhide HO2).mono ?_
               rintro e w3 ⟨rfl, hB3⟩
               have hA3 := hA2.trans (hB3.mono hA2.size)
               have HU2 := hide (unhide HU w3)
               go_wp2_with fail
               refine (unhide HU2).mono ?_
               rintro e wq ⟨rfl, hwq⟩
               obtain rfl := hwq.symm
               clear hwq
               go_wp2
               go_ret
               exact ⟨rfl, hA3⟩)
          · subst h3 h5
            have g1 : ¬ (a.size : Int) < (b.size : Int) := by omega
            have g2 : (b.size : Int) < (a.size : Int) := by omega
            first
            | (exfalso; omega)
            | (go_wp2_with fail
               refine (unhide HT2).mono ?_
               rintro e w2 ⟨rfl, hB2⟩
               have hA2 := hA.trans (hB2.mono hA.size)
               have HO2 := hide (unhide HO w2)
               go_wp2_with fail
               refine (unhide HO2).mono ?_
               rintro e w3 ⟨rfl, hB3⟩
               have hA3 := hA2.trans (hB3.mono hA2.size)
               have HU2 := hide (unhide HU w3)
               go_wp2_with fail
               refine (unhide HU2).mono ?_
               rintro e wq ⟨rfl, hwq⟩
               obtain rfl := hwq.symm
               clear hwq
               go_wp2
               go_ret
               exact ⟨rfl, hA3⟩)
          · have qq : (q == 0) = false := by rw [beq_eq_false_iff_ne]; exact h2
            subst h3
            have qx : (q == q) = true := by simp
            first
            | (exfalso; omega)
            | (go_wp2_with fail
               refine (unhide HT2).mono ?_
               rintro e w2 ⟨rfl, hB2⟩
               have hA2 := hA.trans (hB2.mono hA.size)
               have HO2 := hide (unhide HO w2)
               go_wp2_with fail
               refine (unhide HO2).mono ?_
               rintro e w3 ⟨rfl, hB3⟩
               have hA3 := hA2.trans (hB3.mono hA2.size)
               have HU2 := hide (unhide HU w3)
               go_wp2_with fail
               refine (unhide HU2).mono ?_
               rintro e wq ⟨rfl, hwq⟩
               obtain rfl := hwq.symm
               clear hwq
               go_wp2
               go_ret
               exact ⟨rfl, hA3⟩)
          · have qq : (q == 0) = false := by rw [beq_eq_false_iff_ne]; exact h3
            subst h4
            have qx : (q == q) = true := by simp
            first
            | (exfalso; omega)
            | (go_wp2_with fail
               refine (unhide HT2).mono ?_
               rintro e w2 ⟨rfl, hB2⟩
               have hA2 := hA.trans (hB2.mono hA.size)
               have HO2 := hide (unhide HO w2)
               go_wp2_with fail
               refine (unhide HO2).mono ?_
               rintro e w3 ⟨rfl, hB3⟩
               have hA3 := hA2.trans (hB3.mono hA2.size)
               have HU2 := hide (unhide HU w3)
               go_wp2_with fail
               refine (unhide HU2).mono ?_
               rintro e wq ⟨rfl, hwq⟩
               obtain rfl := hwq.symm
               clear hwq
               go_wp2
               go_ret
               exact ⟨rfl, hA3⟩)
          · have qq : (q == 0) = false := by rw [beq_eq_false_iff_ne]; exact h3
            subst h4
            have qx : (q == q) = true := by simp
            first
            | (exfalso; omega)
            | (go_wp2_with fail
               refine (unhide HT2).mono ?_
               rintro e w2 ⟨rfl, hB2⟩
               have hA2 := hA.trans (hB2.mono hA.size)
               have HO2 := hide (unhide HO w2)
               go_wp2_with fail
               refine (unhide HO2).mono ?_
               rintro e w3 ⟨rfl, hB3⟩
               have hA3 := hA2.trans (hB3.mono hA2.size)
               have HU2 := hide (unhide HU w3)
               go_wp2_with fail
               refine (unhide HU2).mono ?_
               rintro e wq ⟨rfl, hwq⟩
               obtain rfl := hwq.symm
               clear hwq
               go_wp2
               go_ret
               exact ⟨rfl, hA3⟩)
end Go.Proofs.YtmogbkgchhplkabDoor
