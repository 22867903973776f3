/- PathBack: the walk. -/
import Derived.Test.YtmogbkgchhplkaaDoorPaPok
namespace Go.Proofs.YtmogbkgchhplkaaDoor
open Go.RowKit

set_option maxRecDepth 100000 in
set_option maxHeartbeats 8000000 in
theorem back_walk {v : Value} {l : List ByteArray} (s : ByteArray) (w : World) (hv : IsS w v l) (hM : Mx w) : Calls Tryd.prog 6 #[v, .string s] w fun e w' => e = .returned (.bool true) ∧ Below w.heap.size w w' := by
  have HCN := hide (cutNames_calls hv)
  obtain ⟨av, cv, rfl, _, _, _, _⟩ := hv
  have hl40 := cutN_len l
  have HLE : Hid (∀ x ∈ cutN l, x.size ≤ 2000) := cutN_le l
  generalize cutN l = k at *
  have HCS : Hid (∀ W, Calls Tryd.prog 9 #[.string s] W fun e w' => e = .returned (.string (cutS s)) ∧ w' = W) := fun W => cut_calls s W
  have hs := cutS_le s
  generalize cutS s = c at *
  have HT : Hid (∀ W, Mx W → Calls Tryd.prog 10 #[] W fun e w' => e = .returned (.bool true) ∧ Below W.heap.size W w') := told_calls
  have HTX : Hid (∀ (u : Value) W, IsS W u k → Calls Tryd.prog 20 #[u] W fun e w' => e = .returned (.tuple #[.string (textS k), .int .i64 (if textB k = true then 0 else 50)]) ∧ Below W.heap.size W w') := fun u W h => text_calls h HLE.out (by omega)
  have HM := hide hM
  clear hM HLE
  have HB1 : Hid (textB k = true → (joinS k).size ≤ 255 ∧ wrongB (joinS k) = false ∧ parts (joinS k) = k ∧ textS k = joinS k) := fun h => ⟨((text_iff k).1 h).2.2.1, (back1 h).1, (back1 h).2, by unfold textS; rw [if_pos h]⟩
  cases hq : textB k with
  | true =>
    obtain ⟨hz, hw1, hw2, hw3⟩ := unhide HB1 hq
    rw [hq, if_pos rfl, hw3] at HTX
    have HP1 : Hid (∀ W, Mx W → Calls Tryd.prog 21 #[.string (joinS k)] W fun e w' => ∃ g, e = .returned (.tuple #[.slice (some ⟨g, 0, none⟩) k.length k.length, .int .i64 0, .int .i64 0]) ∧ IsS w' (.slice (some ⟨g, 0, none⟩) k.length k.length) k ∧ Below W.heap.size W w') := fun W h => (parse_ok (joinS k) (by omega) W h hw1).mono fun e w' ⟨g, h1, h2, _, _, h3⟩ => by
      rw [hw2] at h1 h2
      exact ⟨g, h1, h2, h3⟩
    have HSM : Hid (∀ (a b : Value) W, IsS W a k → IsS W b k → Calls Tryd.prog 22 #[a, b] W fun e w' => e = .returned (.bool true) ∧ Below W.heap.size W w') := fun a b W h1 h2 => by
      have := same_calls h1 h2
      rw [decide_eq_true rfl] at this
      exact this
    generalize joinS k = js at *
    clear hw1 hw2 hw3 hz hq HB1
    go_enter Tryd.func6, Tryd.ntmps6
    go_wp2_with fail
    refine (unhide HCN).mono ?_
    rintro e w1 ⟨u, rfl, hrow, hb1⟩
    have HI1 := hide hrow.isS
    clear hrow
    have HCSa := hide (unhide HCS w1)
    go_wp2_with fail
    refine (unhide HCSa).mono ?_
    rintro e wq ⟨rfl, hwq⟩
    obtain rfl := hwq.symm
    clear hwq HCSa
    have HTa := hide (unhide HT w1 ((HM.out).below hb1))
    go_wp2_with fail
    refine (unhide HTa).mono ?_
    rintro e w2 ⟨rfl, hB2⟩
    have hA2 := hb1.trans (hB2.mono hb1.size)
    have HI2 := hide ((HI1.out).below hB2)
    have HTXa := hide (unhide HTX _ w2 HI2.out)
    go_wp2_with fail
    refine (unhide HTXa).mono ?_
    rintro e w3 ⟨rfl, hB3⟩
    have hA3 := hA2.trans (hB3.mono hA2.size)
    have HI3 := hide ((HI2.out).below hB3)
    have HM3 := hide ((HM.out).below hA3)
    clear HTa HTXa
    have HP1a := hide (unhide HP1 w3 HM3.out)
    go_wp2_with fail
    refine (unhide HP1a).mono ?_
    rintro e w4 ⟨g, rfl, hi4, hB4⟩
    have hA4 := hA3.trans (hB4.mono hA3.size)
    have HI4 := hide ((HI3.out).below hB4)
    have HSMa := hide (unhide HSM _ _ w4 hi4 HI4.out)
    clear hi4
    go_wp2_with fail
    refine (unhide HSMa).mono ?_
    rintro e w5 ⟨rfl, hB5⟩
    have hA5 := hA4.trans (hB5.mono hA4.size)
    have HMZ := hide ((HM.out).below hA5)
    generalize hwz : w5 = wz at *
    have hAZ := hA5
    clear hwz hA5 hB5
    cases hwc : wrongB c with
    | true =>
      have HPB := hide (parse_bad c (by omega) wz HMZ.out hwc)
      generalize (lvS c).1 = pl at *
      clear hwc
      go_wp2_with fail
      refine (unhide HPB).mono ?_
      rintro e w6 ⟨rfl, hB6⟩
      go_wp2
      go_ret
      exact ⟨rfl, hAZ.trans (hB6.mono hAZ.size)⟩
    | false =>
      obtain ⟨t1, t2, t3, t4, t5, t6⟩ := back2 hwc
      have HPO := hide (parse_ok c (by omega) wz HMZ.out hwc)
      have HTY : Hid (∀ (u : Value) W, IsS W u (parts c) → Calls Tryd.prog 20 #[u] W fun e w' => e = .returned (.tuple #[.string c, .int .i64 0]) ∧ Below W.heap.size W w') := fun u W h => by
        have := text_calls h t6 (by omega)
        rw [t1, if_pos rfl, t2] at this
        exact this
      have qc : (c.toList == c.toList) = true := by simp
      clear hwc t1 t2 t6
      generalize parts c = ps at *
      generalize ps.length = np at *
      have g1 : (c.size : Int) ≤ 255 := by omega
      have g2 : (1 : Int) ≤ (np : Int) := by omega
      have g3 : (np : Int) ≤ 16 := by omega
      go_wp2_with fail
      refine (unhide HPO).mono ?_
      rintro e w6 ⟨g6, rfl, hi6, _, _, hB6⟩
      have HTYa := hide (unhide HTY _ w6 hi6)
      clear hi6
      go_wp2_with fail
      refine (unhide HTYa).mono ?_
      rintro e w7 ⟨rfl, hB7⟩
      go_wp2
      go_ret
      have h1 := hAZ.trans (hB6.mono hAZ.size)
      exact ⟨rfl, h1.trans (hB7.mono h1.size)⟩
  | false =>
    rw [hq, if_neg (by decide)] at HTX
    clear hq HB1
    generalize textS k = ts at *
    go_enter Tryd.func6, Tryd.ntmps6
    go_wp2_with fail
    refine (unhide HCN).mono ?_
    rintro e w1 ⟨u, rfl, hrow, hb1⟩
    have HI1 := hide hrow.isS
    clear hrow
    have HCSa := hide (unhide HCS w1)
    go_wp2_with fail
    refine (unhide HCSa).mono ?_
    rintro e wq ⟨rfl, hwq⟩
    obtain rfl := hwq.symm
    clear hwq HCSa
    have HTa := hide (unhide HT w1 ((HM.out).below hb1))
    go_wp2_with fail
    refine (unhide HTa).mono ?_
    rintro e w2 ⟨rfl, hB2⟩
    have hA2 := hb1.trans (hB2.mono hb1.size)
    have HI2 := hide ((HI1.out).below hB2)
    have HTXa := hide (unhide HTX _ w2 HI2.out)
    go_wp2_with fail
    refine (unhide HTXa).mono ?_
    rintro e w3 ⟨rfl, hB3⟩
    have hA3 := hA2.trans (hB3.mono hA2.size)
    have HI3 := hide ((HI2.out).below hB3)
    have HM3 := hide ((HM.out).below hA3)
    clear HTa HTXa
    have HMZ := hide HM3.out
    generalize hwz : w3 = wz at *
    have hAZ := hA3
    clear hwz hA3 hB3
    cases hwc : wrongB c with
    | true =>
      have HPB := hide (parse_bad c (by omega) wz HMZ.out hwc)
      generalize (lvS c).1 = pl at *
      clear hwc
      go_wp2_with fail
      refine (unhide HPB).mono ?_
      rintro e w6 ⟨rfl, hB6⟩
      go_wp2
      go_ret
      exact ⟨rfl, hAZ.trans (hB6.mono hAZ.size)⟩
    | false =>
      obtain ⟨t1, t2, t3, t4, t5, t6⟩ := back2 hwc
      have HPO := hide (parse_ok c (by omega) wz HMZ.out hwc)
      have HTY : Hid (∀ (u : Value) W, IsS W u (parts c) → Calls Tryd.prog 20 #[u] W fun e w' => e = .returned (.tuple #[.string c, .int .i64 0]) ∧ Below W.heap.size W w') := fun u W h => by
        have := text_calls h t6 (by omega)
        rw [t1, if_pos rfl, t2] at this
        exact this
      have qc : (c.toList == c.toList) = true := by simp
      clear hwc t1 t2 t6
      generalize parts c = ps at *
      generalize ps.length = np at *
      have g1 : (c.size : Int) ≤ 255 := by omega
      have g2 : (1 : Int) ≤ (np : Int) := by omega
      have g3 : (np : Int) ≤ 16 := by omega
      go_wp2_with fail
      refine (unhide HPO).mono ?_
      rintro e w6 ⟨g6, rfl, hi6, _, _, hB6⟩
      have HTYa := hide (unhide HTY _ w6 hi6)
      clear hi6
      go_wp2_with fail
      refine (unhide HTYa).mono ?_
      rintro e w7 ⟨rfl, hB7⟩
      go_wp2
      go_ret
      have h1 := hAZ.trans (hB6.mono hAZ.size)
      exact ⟨rfl, h1.trans (hB7.mono h1.size)⟩
end Go.Proofs.YtmogbkgchhplkaaDoor
