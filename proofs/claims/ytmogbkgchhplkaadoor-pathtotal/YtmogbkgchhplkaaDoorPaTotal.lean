/- PathTotal: the walk. -/
import Derived.Test.YtmogbkgchhplkaaDoorPaTold
namespace Go.Proofs.YtmogbkgchhplkaaDoor
open Go.RowKit

theorem ord_neg (a b : ByteArray) : ordS b a = - ordS a b := by rw [ordS_L, ordS_L, ordL_neg]
theorem ord_self (a : ByteArray) : ordS a a = 0 := by rw [ordS_L, ordL_self]
theorem ord_zero (a b : ByteArray) : ordS a b = 0 ↔ a = b := ⟨fun h => toL_inj (ordL_zero _ _ (by rw [← ordS_L]; exact h)), fun h => by rw [h, ord_self]⟩
theorem ord_bd (a b : ByteArray) : -1 ≤ ordS a b ∧ ordS a b ≤ 1 := by rw [ordS_L]; exact ordL_bd _ _
theorem ord_trans (a b c : ByteArray) (h1 : ordS a b ≤ 0) (h2 : ordS b c ≤ 0) : ordS a c ≤ 0 ∧ (ordS a c = 0 → ordS a b = 0 ∧ ordS b c = 0) := by
  rw [ordS_L] at h1 h2
  rw [ordS_L, ordS_L, ordS_L]
  exact ordL_trans _ _ _ h1 h2
set_option maxRecDepth 100000 in
set_option maxHeartbeats 8000000 in
theorem total_walk (a b c : ByteArray) (w : World) (hM : Mx w) : Calls Tryd.prog 8 #[.string a, .string b, .string c] w fun e w' => e = .returned (.bool true) ∧ Below w.heap.size w w' := by
  have HCa := hide (cut_calls a w)
  have HCb := hide (cut_calls b w)
  have HCc := hide (cut_calls c w)
  have ha := cutS_le a
  have hb := cutS_le b
  have hc := cutS_le c
  generalize cutS a = ca at *
  generalize cutS b = cb at *
  generalize cutS c = cc at *
  have HT : Hid (∀ W, Mx W → Calls Tryd.prog 10 #[] W fun e w' => e = .returned (.bool true) ∧ Below W.heap.size W w') := told_calls
  have Hab : Hid (∀ W, Calls Tryd.prog 16 #[.string ca, .string cb] W fun e w' => e = .returned (.int .i64 (ordS ca cb)) ∧ Below W.heap.size W w') := fun W => order_calls ca cb (by omega) (by omega) W
  have Hbc : Hid (∀ W, Calls Tryd.prog 16 #[.string cb, .string cc] W fun e w' => e = .returned (.int .i64 (ordS cb cc)) ∧ Below W.heap.size W w') := fun W => order_calls cb cc (by omega) (by omega) W
  have Hac : Hid (∀ W, Calls Tryd.prog 16 #[.string ca, .string cc] W fun e w' => e = .returned (.int .i64 (ordS ca cc)) ∧ Below W.heap.size W w') := fun W => order_calls ca cc (by omega) (by omega) W
  have Hba : Hid (∀ W, Calls Tryd.prog 16 #[.string cb, .string ca] W fun e w' => e = .returned (.int .i64 (- ordS ca cb)) ∧ Below W.heap.size W w') := fun W => by
    rw [← ord_neg]; exact order_calls cb ca (by omega) (by omega) W
  have Haa : Hid (∀ W, Calls Tryd.prog 16 #[.string ca, .string ca] W fun e w' => e = .returned (.int .i64 0) ∧ Below W.heap.size W w') := fun W => by
    rw [← ord_self ca]; exact order_calls ca ca (by omega) (by omega) W
  have HM := hide hM
  clear hM
  have heq : (ca.toList == cb.toList) = decide (ordS ca cb = 0) := by
    rw [str_eq]; exact decide_eq_decide.2 (ord_zero ca cb).symm
  have htr := ord_trans ca cb cc
  have bx := ord_bd ca cb
  have by_ := ord_bd cb cc
  have bz := ord_bd ca cc
  generalize ordS ca cb = x at *
  generalize ordS cb cc = y at *
  generalize ordS ca cc = z at *
  have HTR := hide htr
  have BY := hide by_
  have BZ := hide bz
  clear htr by_ bz
  have hx3 : x = -1 ∨ x = 0 ∨ x = 1 := by omega
  clear bx
  rcases hx3 with rfl | rfl | rfl
  · simp only [Int.neg_neg] at Hba
    go_enter Tryd.func8, Tryd.ntmps8
    go_wp2_with fail
    refine (unhide HCa).mono ?_
    rintro e w1 ⟨rfl, hw1⟩
    obtain rfl := hw1.symm
    clear hw1
    go_wp2_with fail
    refine (unhide HCb).mono ?_
    rintro e w1 ⟨rfl, hw1⟩
    obtain rfl := hw1.symm
    clear hw1
    go_wp2_with fail
    refine (unhide HCc).mono ?_
    rintro e w1 ⟨rfl, hw1⟩
    obtain rfl := hw1.symm
    clear hw1
    have HH1 := hide (unhide Hab w)
    go_wp2_with fail
    refine (unhide HH1).mono ?_
    rintro e w1 ⟨rfl, hB1⟩
    have hA1 := hB1
    clear HH1
    have HH2 := hide (unhide Hbc w1)
    go_wp2_with fail
    refine (unhide HH2).mono ?_
    rintro e w2 ⟨rfl, hB2⟩
    have hA2 := hA1.trans (hB2.mono hA1.size)
    clear HH2
    have HH3 := hide (unhide Hac w2)
    go_wp2_with fail
    refine (unhide HH3).mono ?_
    rintro e w3 ⟨rfl, hB3⟩
    have hA3 := hA2.trans (hB3.mono hA2.size)
    clear HH3
    have HH4 := hide (unhide HT w3 ((HM.out).below hA3))
    go_wp2_with fail
    refine (unhide HH4).mono ?_
    rintro e w4 ⟨rfl, hB4⟩
    have hA4 := hA3.trans (hB4.mono hA3.size)
    clear HH4
    have HH5 := hide (unhide Hba w4)
    go_wp2_with fail
    refine (unhide HH5).mono ?_
    rintro e w5 ⟨rfl, hB5⟩
    have hA5 := hA4.trans (hB5.mono hA4.size)
    clear HH5
    have HH6 := hide (unhide Haa w5)
    go_wp2_with fail
    refine (unhide HH6).mono ?_
    rintro e w6 ⟨rfl, hB6⟩
    have hA6 := hA5.trans (hB6.mono hA5.size)
    clear HH6
    have hy3 : y = -1 ∨ y = 0 ∨ y = 1 := by have := BY.out; omega
    have hz3 : z = -1 ∨ z = 0 ∨ z = 1 := by have := BZ.out; omega
    have hcut : 0 < y ∨ z < 0 ∨ (z = 0 ∧ y = 0 ∧ ((-1) : Int) = 0) ∨ (0 : Int) < (-1) := by
      have htr := HTR.out
      by_cases h1 : (0 : Int) < (-1)
      · exact Or.inr (Or.inr (Or.inr h1))
      · by_cases h2 : 0 < y
        · exact Or.inl h2
        · obtain ⟨h3, h4⟩ := htr (by omega) (by omega)
          by_cases h5 : z = 0
          · have := h4 h5
            exact Or.inr (Or.inr (Or.inl ⟨h5, this.2, by first | exact this.1 | rfl⟩))
          · exact Or.inr (Or.inl (by omega))
    clear BY BZ HTR
    rcases hy3 with rfl | rfl | rfl
    all_goals rcases hz3 with rfl | rfl | rfl
    all_goals first
    | (exfalso; omega)
    | (clear hcut
       go_wp2
       go_ret
       exact ⟨rfl, hA6⟩)
  · simp only [Int.neg_zero] at Hba
    go_enter Tryd.func8, Tryd.ntmps8
    go_wp2_with fail
    refine (unhide HCa).mono ?_
    rintro e w1 ⟨rfl, hw1⟩
    obtain rfl := hw1.symm
    clear hw1
    go_wp2_with fail
    refine (unhide HCb).mono ?_
    rintro e w1 ⟨rfl, hw1⟩
    obtain rfl := hw1.symm
    clear hw1
    go_wp2_with fail
    refine (unhide HCc).mono ?_
    rintro e w1 ⟨rfl, hw1⟩
    obtain rfl := hw1.symm
    clear hw1
    have HH1 := hide (unhide Hab w)
    go_wp2_with fail
    refine (unhide HH1).mono ?_
    rintro e w1 ⟨rfl, hB1⟩
    have hA1 := hB1
    clear HH1
    have HH2 := hide (unhide Hbc w1)
    go_wp2_with fail
    refine (unhide HH2).mono ?_
    rintro e w2 ⟨rfl, hB2⟩
    have hA2 := hA1.trans (hB2.mono hA1.size)
    clear HH2
    have HH3 := hide (unhide Hac w2)
    go_wp2_with fail
    refine (unhide HH3).mono ?_
    rintro e w3 ⟨rfl, hB3⟩
    have hA3 := hA2.trans (hB3.mono hA2.size)
    clear HH3
    have HH4 := hide (unhide HT w3 ((HM.out).below hA3))
    go_wp2_with fail
    refine (unhide HH4).mono ?_
    rintro e w4 ⟨rfl, hB4⟩
    have hA4 := hA3.trans (hB4.mono hA3.size)
    clear HH4
    have HH5 := hide (unhide Hba w4)
    go_wp2_with fail
    refine (unhide HH5).mono ?_
    rintro e w5 ⟨rfl, hB5⟩
    have hA5 := hA4.trans (hB5.mono hA4.size)
    clear HH5
    have HH6 := hide (unhide Haa w5)
    go_wp2_with fail
    refine (unhide HH6).mono ?_
    rintro e w6 ⟨rfl, hB6⟩
    have hA6 := hA5.trans (hB6.mono hA5.size)
    clear HH6
    have hy3 : y = -1 ∨ y = 0 ∨ y = 1 := by have := BY.out; omega
    have hz3 : z = -1 ∨ z = 0 ∨ z = 1 := by have := BZ.out; omega
    have hcut : 0 < y ∨ z < 0 ∨ (z = 0 ∧ y = 0 ∧ (0 : Int) = 0) ∨ (0 : Int) < 0 := by
      have htr := HTR.out
      by_cases h1 : (0 : Int) < 0
      · exact Or.inr (Or.inr (Or.inr h1))
      · by_cases h2 : 0 < y
        · exact Or.inl h2
        · obtain ⟨h3, h4⟩ := htr (by omega) (by omega)
          by_cases h5 : z = 0
          · have := h4 h5
            exact Or.inr (Or.inr (Or.inl ⟨h5, this.2, by first | exact this.1 | rfl⟩))
          · exact Or.inr (Or.inl (by omega))
    clear BY BZ HTR
    rcases hy3 with rfl | rfl | rfl
    all_goals rcases hz3 with rfl | rfl | rfl
    all_goals first
    | (exfalso; omega)
    | (clear hcut
       go_wp2
       go_ret
       exact ⟨rfl, hA6⟩)
  · skip
    go_enter Tryd.func8, Tryd.ntmps8
    go_wp2_with fail
    refine (unhide HCa).mono ?_
    rintro e w1 ⟨rfl, hw1⟩
    obtain rfl := hw1.symm
    clear hw1
    go_wp2_with fail
    refine (unhide HCb).mono ?_
    rintro e w1 ⟨rfl, hw1⟩
    obtain rfl := hw1.symm
    clear hw1
    go_wp2_with fail
    refine (unhide HCc).mono ?_
    rintro e w1 ⟨rfl, hw1⟩
    obtain rfl := hw1.symm
    clear hw1
    have HH1 := hide (unhide Hab w)
    go_wp2_with fail
    refine (unhide HH1).mono ?_
    rintro e w1 ⟨rfl, hB1⟩
    have hA1 := hB1
    clear HH1
    have HH2 := hide (unhide Hbc w1)
    go_wp2_with fail
    refine (unhide HH2).mono ?_
    rintro e w2 ⟨rfl, hB2⟩
    have hA2 := hA1.trans (hB2.mono hA1.size)
    clear HH2
    have HH3 := hide (unhide Hac w2)
    go_wp2_with fail
    refine (unhide HH3).mono ?_
    rintro e w3 ⟨rfl, hB3⟩
    have hA3 := hA2.trans (hB3.mono hA2.size)
    clear HH3
    have HH4 := hide (unhide HT w3 ((HM.out).below hA3))
    go_wp2_with fail
    refine (unhide HH4).mono ?_
    rintro e w4 ⟨rfl, hB4⟩
    have hA4 := hA3.trans (hB4.mono hA3.size)
    clear HH4
    have HH5 := hide (unhide Hba w4)
    go_wp2_with fail
    refine (unhide HH5).mono ?_
    rintro e w5 ⟨rfl, hB5⟩
    have hA5 := hA4.trans (hB5.mono hA4.size)
    clear HH5
    have HH6 := hide (unhide Haa w5)
    go_wp2_with fail
    refine (unhide HH6).mono ?_
    rintro e w6 ⟨rfl, hB6⟩
    have hA6 := hA5.trans (hB6.mono hA5.size)
    clear HH6
    have hy3 : y = -1 ∨ y = 0 ∨ y = 1 := by have := BY.out; omega
    have hz3 : z = -1 ∨ z = 0 ∨ z = 1 := by have := BZ.out; omega
    have hcut : 0 < y ∨ z < 0 ∨ (z = 0 ∧ y = 0 ∧ (1 : Int) = 0) ∨ (0 : Int) < 1 := by
      have htr := HTR.out
      by_cases h1 : (0 : Int) < 1
      · exact Or.inr (Or.inr (Or.inr h1))
      · by_cases h2 : 0 < y
        · exact Or.inl h2
        · obtain ⟨h3, h4⟩ := htr (by omega) (by omega)
          by_cases h5 : z = 0
          · have := h4 h5
            exact Or.inr (Or.inr (Or.inl ⟨h5, this.2, by first | exact this.1 | rfl⟩))
          · exact Or.inr (Or.inl (by omega))
    clear BY BZ HTR
    rcases hy3 with rfl | rfl | rfl
    all_goals rcases hz3 with rfl | rfl | rfl
    all_goals first
    | (exfalso; omega)
    | (clear hcut
       go_wp2
       go_ret
       exact ⟨rfl, hA6⟩)
end Go.Proofs.YtmogbkgchhplkaaDoor
