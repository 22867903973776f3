/- The document's Under. -/
import Derived.Test.YtmogbkgchhplkaaDoorPaRef2
namespace Go.Proofs.YtmogbkgchhplkaaDoor
open Go.RowKit

theorem pre_iff (a b : ByteArray) : cutL (toL a) <+: cutL (toL b) ↔ ((partsD a).length ≤ (partsD b).length ∧ ∀ i, i < (partsD a).length → (partsD a).getD i default = (partsD b).getD i default) := by
  have hla : (cutL (toL a)).length = (partsD a).length := by rw [← partsD_L, List.length_map]
  have hlb : (cutL (toL b)).length = (partsD b).length := by rw [← partsD_L, List.length_map]
  constructor
  · intro h
    have hl := h.length_le
    rw [hla, hlb] at hl
    refine ⟨hl, fun i hi => toL_inj ?_⟩
    rw [← part_at a hi, ← part_at b (by omega)]
    obtain ⟨t, ht⟩ := h
    rw [← ht, List.getD_eq_getElem?_getD, List.getD_eq_getElem?_getD, List.getElem?_append_left (by rw [hla]; exact hi)]
  · rintro ⟨h1, h2⟩
    rw [List.prefix_iff_eq_take]
    refine List.ext_getElem ?_ fun i g1 g2 => ?_
    · rw [List.length_take, hla, hlb]; omega
    · have hi : i < (partsD a).length := by rw [← hla]; exact g1
      have e1 := part_at a hi
      have e2 := part_at b (i := i) (by omega)
      rw [h2 i hi, ← e2] at e1
      rw [List.getElem_take]
      rw [List.getD_eq_getElem?_getD, List.getD_eq_getElem?_getD, List.getElem?_eq_getElem g1, List.getElem?_eq_getElem (by rw [hlb]; omega)] at e1
      exact e1
set_option maxRecDepth 100000 in
set_option maxHeartbeats 4000000 in
theorem runder_calls (a b : ByteArray) (ha : a.size ≤ 100000) (hb : b.size ≤ 100000) (w : World) : Calls Tryd.prog 19 #[.string a, .string b] w fun e w' => e = .returned (.bool (undB a b)) ∧ Below w.heap.size w w' := by
  have hu := und_L a b
  rw [pre_iff] at hu
  have HT : Hid ((toL a = [] ∨ ((partsD a).length ≤ (partsD b).length ∧ ∀ i, i < (partsD a).length → (partsD a).getD i default = (partsD b).getD i default)) → undB a b = true) := hu.2
  have HF : Hid (¬ (toL a = [] ∨ ((partsD a).length ≤ (partsD b).length ∧ ∀ i, i < (partsD a).length → (partsD a).getD i default = (partsD b).getD i default)) → undB a b = false) := fun h => by
    cases hc : undB a b with
    | false => rfl
    | true => exact absurd (hu.1 hc) h
  clear hu
  generalize undB a b = q at *
  by_cases h0 : a = ⟨#[]⟩
  · have HE := hide (unhide HT (Or.inl (by rw [h0]; rfl)))
    subst h0
    go_enter Tryd.func19, Tryd.ntmps19
    go_wp2
    go_ret
    exact ⟨by rw [HE.out]; rfl, Below.refl _ _⟩
  · have e0 : a.toList.isEmpty = false := by
      rw [ByteArray.toList_eq]
      cases hd : a.data.toList with
      | nil => exact absurd (Go.WideShapes.bytes_inj (a := a) (b := ⟨#[]⟩) (by rw [hd])) h0
      | cons _ _ => rfl
    have HNE : Hid (¬ toL a = []) := fun e => h0 (toL_inj (by rw [e]; rfl))
    clear h0
    have HPA := hide (rparts_calls a (by omega) w)
    have HPB : Hid (∀ W, Calls Tryd.prog 23 #[.string b] W fun e w' => ∃ v, e = .returned v ∧ Row w' W.heap.size 9 v (sV (partsD b)) ∧ Below W.heap.size W w') := fun W => rparts_calls b (by omega) W
    have hna := parts_le a
    have hnb := parts_le b
    go_enter Tryd.func19, Tryd.ntmps19
    go_wp2_with fail
    refine (unhide HPA).mono ?_
    rintro e w1 ⟨v, rfl, hrow, hb1⟩
    have HB1 := hide (unhide HPB w1)
    have HSA := hide hrow.isS
    clear hrow
    go_wp2_with fail
    refine (unhide HB1).mono ?_
    rintro e w2 ⟨u, rfl, hrow, hb2⟩
    have HSA2 := hide ((HSA.out).below hb2)
    have HSB2 := hide hrow.isS
    have hb12 := hb1.trans (hb2.mono hb1.size)
    clear hrow HSA
    obtain ⟨aa, ca, e1, hla, hma, _, hca⟩ := HSA2.out
    obtain ⟨ab, cb, e2, hlb, hmb, _, hcb⟩ := HSB2.out
    subst e1 e2
    have HCA := hide hca
    have HCB := hide hcb
    obtain ⟨n, hn⟩ : ∃ n, n = (partsD a).length := ⟨_, rfl⟩
    obtain ⟨m, hm⟩ : ∃ m, m = (partsD b).length := ⟨_, rfl⟩
    rw [← hn] at hla hna ⊢
    rw [← hm] at hlb hnb ⊢
    have HN := hide hn
    have HM := hide hm
    clear hca hcb hn hm HSA2 HSB2
    by_cases hnm : n ≤ m
    · have g1 : ¬ (m : Int) < (n : Int) := by omega
      go_wp2_with fail
      go_loopw [7] (fun iv W => ∃ (i : Nat), i ≤ n ∧ iv = .int .i64 (i : Int) ∧ Hid (∀ k, k < i → (partsD a).getD k default = (partsD b).getD k default) ∧ Below w2.heap.size w2 W) (fun i _ => n - (intOf i).toNat)
      case atStart => exact ⟨0, by omega, rfl, fun k hk => absurd hk (by omega), Below.refl _ _⟩
      case round =>
        obtain ⟨i, hin, rfl, HJ, hbw⟩ := hrel
        by_cases hlt : i < n
        · have h1' : i < (partsD a).length := by rw [← HN.out]; exact hlt
          have h2' : i < (partsD b).length := by rw [← HM.out]; omega
          obtain ⟨b1, o1, rfl, hc1⟩ := unhide HCA (by rw [← HN.out]; omega)
          obtain ⟨b2, o2, rfl, hc2⟩ := unhide HCB (by rw [← HM.out]; omega)
          have hx := hc1 i h1'
          have hy := hc2 i h2'
          have hx2 := (hbw.cell (p := ⟨b1, o1 + i, none⟩) (World.block_lt_of_cell? w2 _ hx)).trans hx
          have hy2 := (hbw.cell (p := ⟨b2, o2 + i, none⟩) (World.block_lt_of_cell? w2 _ hy)).trans hy
          have q1 : (i : Int) < (n : Int) := by omega
          have q2 : (i : Int) < (m : Int) := by omega
          obtain ⟨x, hxe⟩ : ∃ x, x = (partsD a).getD i default := ⟨_, rfl⟩
          obtain ⟨y, hye⟩ : ∃ y, y = (partsD b).getD i default := ⟨_, rfl⟩
          rw [← hxe] at hx2
          rw [← hye] at hy2
          have HX := hide hxe
          have HY := hide hye
          clear hx hy hc1 hc2 hxe hye h2'
          by_cases hxy : x = y
          · have HJ2 : Hid (∀ k, k < i + 1 → (partsD a).getD k default = (partsD b).getD k default) := fun k hk => by
              by_cases e : k = i
              · subst e; rw [← HX.out, ← HY.out, hxy]
              · exact unhide HJ k (by omega)
            have hne : (x.toList == y.toList) = true := by rw [str_eq, decide_eq_true hxy]
            clear hxy h1'
            go_wp2_with fail
            go_quiet (fail)
            go_wp2
            exact ⟨⟨i + 1, by omega, by go_num, HJ2, hbw.trans ((drewn_below wr nq).mono hbw.size)⟩, by simp [intOf]; omega⟩
          · have HE : Hid (q = false) := unhide HF (fun h => h.elim HNE.out fun h => hxy (by rw [HX.out, HY.out]; exact h.2 i h1'))
            have hne : (x.toList == y.toList) = false := by rw [str_eq, decide_eq_false hxy]
            clear hxy h1'
            go_wp2_with fail
            go_quiet (fail)
            go_wp2
            go_ret
            have h29 := hbw.trans ((drewn_below wr nq).mono hbw.size)
            exact ⟨by rw [HE.out]; rfl, hb12.trans (h29.mono hb12.size)⟩
        · have HE : Hid (q = true) := unhide HT (Or.inr ⟨by rw [← HN.out, ← HM.out]; exact hnm, fun k hk => unhide HJ k (by rw [← HN.out] at hk; omega)⟩)
          go_wp2
          go_ret
          exact ⟨by rw [HE.out]; rfl, hb12.trans (hbw.mono hb12.size)⟩
    · have HE : Hid (q = false) := unhide HF (fun h => h.elim HNE.out fun h => hnm (by rw [HN.out, HM.out]; exact h.1))
      have g1 : (m : Int) < (n : Int) := by omega
      go_wp2
      go_ret
      exact ⟨by rw [HE.out]; rfl, hb12⟩
set_option maxRecDepth 100000 in
set_option maxHeartbeats 8000000 in
theorem orders_walk (a b : ByteArray) (w : World) (hM : Mx w) : Calls Tryd.prog 5 #[.string a, .string b] w fun e w' => e = .returned (.bool true) ∧ Below w.heap.size w w' := by
  have HCa := hide (cut_calls a w)
  have HCb := hide (cut_calls b w)
  have ha := cutS_le a
  have hb := cutS_le b
  generalize cutS a = ca at *
  generalize cutS b = cb at *
  have HT := hide (told_calls w hM)
  clear hM
  have Hab : Hid (∀ W, Calls Tryd.prog 16 #[.string ca, .string cb] W fun e w' => e = .returned (.int .i64 (ordS ca cb)) ∧ Below W.heap.size W w') := fun W => order_calls ca cb (by omega) (by omega) W
  have Hba : Hid (∀ W, Calls Tryd.prog 16 #[.string cb, .string ca] W fun e w' => e = .returned (.int .i64 (ordS cb ca)) ∧ Below W.heap.size W w') := fun W => order_calls cb ca (by omega) (by omega) W
  have Haa : Hid (∀ W, Calls Tryd.prog 16 #[.string ca, .string ca] W fun e w' => e = .returned (.int .i64 0) ∧ Below W.heap.size W w') := fun W => by
    have h0 : ordS ca ca = 0 := by rw [ordS_L, ordL_self]
    rw [← h0]; exact order_calls ca ca (by omega) (by omega) W
  have Rab : Hid (∀ W, Calls Tryd.prog 17 #[.string ca, .string cb] W fun e w' => e = .returned (.int .i64 (ordS ca cb)) ∧ Below W.heap.size W w') := fun W => rorder_calls ca cb (by omega) (by omega) W
  have Rba : Hid (∀ W, Calls Tryd.prog 17 #[.string cb, .string ca] W fun e w' => e = .returned (.int .i64 (ordS cb ca)) ∧ Below W.heap.size W w') := fun W => rorder_calls cb ca (by omega) (by omega) W
  have Uab : Hid (∀ W, Calls Tryd.prog 18 #[.string ca, .string cb] W fun e w' => e = .returned (.bool (undB ca cb)) ∧ w' = W) := fun W => under_calls ca cb W
  have Uba : Hid (∀ W, Calls Tryd.prog 18 #[.string cb, .string ca] W fun e w' => e = .returned (.bool (undB cb ca)) ∧ w' = W) := fun W => under_calls cb ca W
  have U0a : Hid (∀ W, Calls Tryd.prog 18 #[.string ⟨#[]⟩, .string ca] W fun e w' => e = .returned (.bool true) ∧ w' = W) := fun W => under_calls ⟨#[]⟩ ca W
  have Vab : Hid (∀ W, Calls Tryd.prog 19 #[.string ca, .string cb] W fun e w' => e = .returned (.bool (undB ca cb)) ∧ Below W.heap.size W w') := fun W => runder_calls ca cb (by omega) (by omega) W
  have Vba : Hid (∀ W, Calls Tryd.prog 19 #[.string cb, .string ca] W fun e w' => e = .returned (.bool (undB cb ca)) ∧ Below W.heap.size W w') := fun W => runder_calls cb ca (by omega) (by omega) W
  have hx : (ordS ca cb != ordS ca cb) = false := by simp
  have hy : (ordS cb ca != ordS cb ca) = false := by simp
  have hu : (undB ca cb == undB ca cb) = true := by simp
  have hv : (undB cb ca == undB cb ca) = true := by simp
  generalize ordS ca cb = x at *
  generalize ordS cb ca = y at *
  generalize undB ca cb = u at *
  generalize undB cb ca = v at *
  go_enter Tryd.func5, Tryd.ntmps5
  have HH := hide (unhide HCa)
  go_wp2_with fail
  refine (unhide HH).mono ?_
  rintro e wq ⟨rfl, hwq⟩
  obtain rfl := hwq.symm
  clear hwq HH
  have HH := hide (unhide HCb)
  go_wp2_with fail
  refine (unhide HH).mono ?_
  rintro e wq ⟨rfl, hwq⟩
  obtain rfl := hwq.symm
  clear hwq HH
  have HH := hide (unhide HT)
  go_wp2_with fail
  refine (unhide HH).mono ?_
  rintro e w1 ⟨rfl, hB1⟩
  have hA1 := hB1
  clear HH
  have HH := hide (unhide Hab w1)
  go_wp2_with fail
  refine (unhide HH).mono ?_
  rintro e w2 ⟨rfl, hB2⟩
  have hA2 := hA1.trans (hB2.mono hA1.size)
  clear HH
  have HH := hide (unhide Rab w2)
  go_wp2_with fail
  refine (unhide HH).mono ?_
  rintro e w3 ⟨rfl, hB3⟩
  have hA3 := hA2.trans (hB3.mono hA2.size)
  clear HH
  have HH := hide (unhide Hba w3)
  go_wp2_with fail
  refine (unhide HH).mono ?_
  rintro e w4 ⟨rfl, hB4⟩
  have hA4 := hA3.trans (hB4.mono hA3.size)
  clear HH
  have HH := hide (unhide Rba w4)
  go_wp2_with fail
  refine (unhide HH).mono ?_
  rintro e w5 ⟨rfl, hB5⟩
  have hA5 := hA4.trans (hB5.mono hA4.size)
  clear HH
  have HH := hide (unhide Uab w5)
  go_wp2_with fail
  refine (unhide HH).mono ?_
  rintro e wq ⟨rfl, hwq⟩
  obtain rfl := hwq.symm
  clear hwq HH
  have HH := hide (unhide Vab w5)
  go_wp2_with fail
  refine (unhide HH).mono ?_
  rintro e w6 ⟨rfl, hB6⟩
  have hA6 := hA5.trans (hB6.mono hA5.size)
  clear HH
  have HH := hide (unhide Uba w6)
  go_wp2_with fail
  refine (unhide HH).mono ?_
  rintro e wq ⟨rfl, hwq⟩
  obtain rfl := hwq.symm
  clear hwq HH
  have HH := hide (unhide Vba w6)
  go_wp2_with fail
  refine (unhide HH).mono ?_
  rintro e w7 ⟨rfl, hB7⟩
  have hA7 := hA6.trans (hB7.mono hA6.size)
  clear HH
  have HH := hide (unhide U0a w7)
  go_wp2_with fail
  refine (unhide HH).mono ?_
  rintro e wq ⟨rfl, hwq⟩
  obtain rfl := hwq.symm
  clear hwq HH
  have HH := hide (unhide Haa w7)
  go_wp2_with fail
  refine (unhide HH).mono ?_
  rintro e w8 ⟨rfl, hB8⟩
  have hA8 := hA7.trans (hB8.mono hA7.size)
  clear HH
  go_wp2
  go_ret
  exact ⟨by first | rfl | (cases u <;> cases v <;> rfl), hA8⟩
end Go.Proofs.YtmogbkgchhplkaaDoor
