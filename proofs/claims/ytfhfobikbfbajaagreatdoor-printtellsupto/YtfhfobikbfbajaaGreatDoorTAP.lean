/- The document's Parse: the walk. The document's Under (from stage 5, without its harness). slices.Contains of texts. Manifests in plain terms: blank lines, and lines that go on, turn nothing. -/
import Derived.Test.YtfhfobikbfbajaaGreatDoorTAO
import Derived.Test.YtfhfobikbfbajaaGreatDoorTAE
import Derived.Test.YtfhfobikbfbajaaGreatDoorTAG
import Derived.Test.YtfhfobikbfbajaaGreatDoorTAI
namespace Go.Proofs.YtfhfobikbfbajaaGreatDoor
open Go.RowKit

set_option maxRecDepth 100000 in
set_option maxHeartbeats 8000000 in
theorem rparse_calls (s : ByteArray) (hs : s.size ≤ 2000000) (w : World) : Calls Tryz.prog 67 #[.string s] w fun e w' => (((plL (toL s)).2 = true ∧ e = .returned (.tuple #[.slice none 0 0, .int .i64 (((plL (toL s)).1 : Nat) : Int)])) ∨ ((plL (toL s)).2 = false ∧ ∃ v, e = .returned (.tuple #[v, .int .i64 (-1)]) ∧ Row w' w.heap.size 9 v (sV (partsD s)))) ∧ Below w.heap.size w w' := by
  have HP := hide (rparts_calls s hs w)
  have HLen : Hid ((partsD s).length ≤ s.size + 1) := by
    have : ∀ l : List UInt8, (cutL l).length ≤ l.length + 1 := by
      intro l
      induction l with
      | nil => decide
      | cons b l ih =>
        by_cases hb : b = 47
        · subst hb; rw [cutL_slash]; simp; omega
        · rw [cutL_cons hb]; rw [← cutL_eta l] at ih; simp at ih ⊢; omega
    have := this (toL s)
    rw [← partsD_L, List.length_map, toL_len] at this
    exact this
  have HD : Hid (∀ p m, Lsw s (partsD s).length p m → _) := fun p m h => Lsw.done (s := s) (p := p) (m := m) h
  generalize (plL (toL s)).1 = pl1 at *
  generalize (plL (toL s)).2 = pl2 at *
  go_enter Tryz.func67, Tryz.ntmps67
  go_wp2_with fail
  refine (unhide HP).mono ?_
  rintro e w1 ⟨v, rfl, hrow, hb1⟩
  obtain ⟨al, cl, hvl⟩ := hrow.shape
  subst hvl
  rw [sV_len] at hrow ⊢
  obtain ⟨n, hn⟩ : ∃ n, n = (partsD s).length := ⟨_, rfl⟩
  rw [← hn] at hrow ⊢
  have HIS := hide hrow.isS
  have HRW := hide hrow
  have hn1 : n ≤ s.size + 1 := by rw [hn]; exact HLen.out
  have HN := hide hn
  clear hrow hn HLen HP
  go_wp2_with fail
  go_loopw [5, 6, 7] (fun lv pv iv wr => ∃ (i p : Nat) (m : Int), i ≤ n ∧ lv = .int .i64 m ∧ pv = .int .i64 (p : Int) ∧ iv = .int .i64 (i : Int) ∧ Hid (Lsw s i p m) ∧ Below w1.heap.size w1 wr) (fun _ _ i _ => n - (intOf i).toNat)
  case atStart => exact ⟨0, 0, (s.size : Int) + 1, by omega, by go_num, rfl, rfl, Lsw.start s, Below.refl _ _⟩
  case round =>
    obtain ⟨i, p, m, hin, rfl, rfl, rfl, HL, hb⟩ := hrel
    by_cases hlt : i < n
    · have hil : i < (partsD s).length := by rw [← HN.out]; exact hlt
      obtain ⟨hps, hLn⟩ := Lsw.step HL.out hil
      have HLN := hide hLn
      have HPL : Hid (p ≤ s.size + 1) := (HL.out).le
      obtain ⟨a2, c2, hv2, hc1, hc2, _, hcells⟩ := (HIS.out).below hb
      injection hv2 with e1 e2 e3
      subst e1 e3
      rw [← e2] at hc1
      obtain ⟨b, o, rfl, hcell⟩ := hcells (by omega)
      have hx := hcell i hil
      have hiI : (i : Int) < (n : Int) := by omega
      have HW := hide (fun W => wrong_calls ((partsD s).getD i default) p (by omega) (by omega) W)
      clear hLn hcell hcells e2 HL
      rw [← HN.out] at HLN
      generalize (partsD s).getD i default = x at *
      generalize wrI x p = wv at *
      have hpI : (p : Int) + (x.size : Int) ≤ 2000000 := by omega
      have hA : (wv < 0) ∨ (0 ≤ wv ∧ wv < m) ∨ (0 ≤ wv ∧ m ≤ wv) := by omega
      rcases hA with hA | ⟨hA, hA2⟩ | ⟨hA, hA2⟩
      all_goals (
        obtain ⟨m1, hm1⟩ : ∃ m1, m1 = lst1 m wv := ⟨_, rfl⟩
        rw [← hm1] at HLN
        have hm1' := hm1
        unfold lst1 at hm1'
        split at hm1' <;> first | (exfalso; omega) | skip
        rename_i hno
        clear hm1 hno
        subst hm1'
        have hB : (x.size = 0 ∧ (p : Int) + (x.size : Int) < m1) ∨ (x.size = 0 ∧ m1 ≤ (p : Int) + (x.size : Int)) ∨ (x.size ≠ 0 ∧ i ≠ 15) ∨ (x.size ≠ 0 ∧ i = 15 ∧ n ≤ i + 1) ∨ (x.size ≠ 0 ∧ i = 15 ∧ i + 1 < n ∧ (p : Int) + (x.size : Int) < m1) ∨ (x.size ≠ 0 ∧ i = 15 ∧ i + 1 < n ∧ m1 ≤ (p : Int) + (x.size : Int)) := by omega
        rcases hB with hB | hB | hB | hB | hB | hB
        all_goals (
          obtain ⟨m2, hm2⟩ : ∃ m2, m2 = lst2 m1 ((p : Int) + (x.size : Int)) (x.size = 0 ∨ (i = 15 ∧ i + 1 < n)) := ⟨_, rfl⟩
          rw [← hm2] at HLN
          unfold lst2 at hm2
          split at hm2 <;> first | (exfalso; omega) | skip
          rename_i hno
          clear hno
          have HM2 := hide hm2
          clear hm2
          first
          | (have q0 : ((x.size : Int) == 0) = true := by rw [beq_iff_eq]; omega)
          | (have q0 : ((x.size : Int) == 0) = false := by rw [beq_eq_false_iff_ne]; omega)
          first
          | (have q1 : ((i : Int) == 15) = true := by rw [beq_iff_eq]; omega)
          | (have q1 : ((i : Int) == 15) = false := by rw [beq_eq_false_iff_ne]; omega)
          | skip
          first
          | (have q2 : (i : Int) + 1 < (n : Int) := by omega)
          | (have q2 : ¬ (i : Int) + 1 < (n : Int) := by omega)
          | skip
          first
          | (have q3 : (p : Int) + (x.size : Int) < m1 := by omega)
          | (have q3 : ¬ (p : Int) + (x.size : Int) < m1 := by omega)
          | skip
          clear hB
          go_wp2_with fail
          refine (unhide HW _).mono ?_
          rintro e w2 ⟨rfl, hw2⟩
          obtain rfl := hw2.symm
          clear hw2
          go_wp2
          first
          | exact ⟨⟨i + 1, p + x.size + 1, m2, by omega, by rw [HM2.out], by go_num, by go_num, HLN, hb⟩, by simp [intOf]; omega⟩
          | (go_roundw
             case rel => exact ⟨i + 1, p + x.size + 1, m2, by omega, by rw [HM2.out], by go_num, by go_num, HLN, hb⟩
             case measure => simp [intOf]; omega)))
    · obtain rfl : i = n := by omega
      have HF := hide (unhide HD p m (by rw [← HN.out]; exact HL.out))
      rcases HF.out with ⟨f1, f2, f3⟩ | ⟨f1, f2, f3⟩
      · subst f1
        by_cases hc : 255 < (s.size : Int) ∧ 255 < m
        · rw [if_pos hc] at f2
          obtain ⟨g1, g2⟩ := hc
          have HF2 := hide f2
          have g3 : (255 : Int) ≤ (s.size : Int) := by omega
          clear f2 f3 HF
          go_wp2
          go_ret2
          exact ⟨by rw [HF2.out]; rfl, hb1.trans (hb.mono hb1.size)⟩
        · rw [if_neg hc] at f2
          have HF2 := hide f2
          have g3 : m ≤ (s.size : Int) := by omega
          by_cases g1 : 255 < (s.size : Int)
          · have g2 : ¬ 255 < m := fun e => hc ⟨g1, e⟩
            clear f2 f3 HF hc
            go_wp2
            go_ret2
            exact ⟨by rw [HF2.out]; rfl, hb1.trans (hb.mono hb1.size)⟩
          · clear f2 f3 HF hc
            go_wp2
            go_ret2
            exact ⟨by rw [HF2.out]; rfl, hb1.trans (hb.mono hb1.size)⟩
      · subst f1
        have g3 : ¬ m ≤ (s.size : Int) := by omega
        have g1 : ¬ 255 < (s.size : Int) := by omega
        have HRW2 : Hid (Row wr w.heap.size 9 (.slice al i cl) (sV (partsD s))) := (HRW.out).grown ⟨hb.os, hb.tape, hb.output, hb.size, fun k hk _ => hb.block k hk⟩
        clear f2 f3 HF
        go_wp2
        go_ret2
        exact ⟨⟨_, rfl, HRW2.out⟩, hb1.trans (hb.mono hb1.size)⟩
end Go.Proofs.YtfhfobikbfbajaaGreatDoor

namespace Go.Proofs.YtfhfobikbfbajaaGreatDoor
open Go.RowKit

theorem part_at (s : ByteArray) {i : Nat} (h : i < (partsD s).length) : (cutL (toL s)).getD i [] = toL ((partsD s).getD i default) := by
  rw [← partsD_L, List.getD_eq_getElem?_getD, List.getElem?_map, List.getD_eq_getElem?_getD, List.getElem?_eq_getElem h]
  rfl
theorem cutL_long : ∀ l : List UInt8, (cutL l).length ≤ l.length + 1
  | [] => by simp [cutL]
  | b :: l => by
    have ih := cutL_long l
    rw [cutL]
    have e := congrArg List.length (cutL_eta l)
    split
    · simp; omega
    · simp only [List.length_cons] at e ⊢; omega
theorem parts_le (s : ByteArray) : (partsD s).length ≤ s.size + 1 := by
  have h1 := congrArg List.length (partsD_L s)
  rw [List.length_map] at h1
  have h2 := cutL_long (toL s)
  rw [toL_len] at h2
  omega
theorem pre_iff (a b : ByteArray) : cutL (toL a) <+: cutL (toL b) ↔ ((partsD a).length ≤ (partsD b).length ∧ ∀ i, i < (partsD a).length → (partsD a).getD i default = (partsD b).getD i default) := by
  have hla : (cutL (toL a)).length = (partsD a).length := by rw [← partsD_L, List.length_map]
  have hlb : (cutL (toL b)).length = (partsD b).length := by rw [← partsD_L, List.length_map]
  constructor
  · intro h
    have hl := h.length_le
    rw [hla, hlb] at hl
    refine ⟨hl, fun i hi => toL_inj ?_⟩
    rw [← part_at a hi, ← part_at b (by omega)]
    obtain ⟨t, ht⟩ := h
    rw [← ht, List.getD_eq_getElem?_getD, List.getD_eq_getElem?_getD, List.getElem?_append_left (by rw [hla]; exact hi)]
  · rintro ⟨h1, h2⟩
    rw [List.prefix_iff_eq_take]
    refine List.ext_getElem ?_ fun i g1 g2 => ?_
    · rw [List.length_take, hla, hlb]; omega
    · have hi : i < (partsD a).length := by rw [← hla]; exact g1
      have e1 := part_at a hi
      have e2 := part_at b (i := i) (by omega)
      rw [h2 i hi, ← e2] at e1
      rw [List.getElem_take]
      rw [List.getD_eq_getElem?_getD, List.getD_eq_getElem?_getD, List.getElem?_eq_getElem g1, List.getElem?_eq_getElem (by rw [hlb]; omega)] at e1
      exact e1
set_option maxRecDepth 100000 in
set_option maxHeartbeats 4000000 in
theorem runder_calls (a b : ByteArray) (ha : a.size ≤ 100000) (hb : b.size ≤ 100000) (w : World) : Calls Tryz.prog 108 #[.string a, .string b] w fun e w' => e = .returned (.bool (undB a b)) ∧ Below w.heap.size w w' := by
  have hu := und_L a b
  rw [pre_iff] at hu
  have HT : Hid ((toL a = [] ∨ ((partsD a).length ≤ (partsD b).length ∧ ∀ i, i < (partsD a).length → (partsD a).getD i default = (partsD b).getD i default)) → undB a b = true) := hu.2
  have HF : Hid (¬ (toL a = [] ∨ ((partsD a).length ≤ (partsD b).length ∧ ∀ i, i < (partsD a).length → (partsD a).getD i default = (partsD b).getD i default)) → undB a b = false) := fun h => by
    cases hc : undB a b with
    | false => rfl
    | true => exact absurd (hu.1 hc) h
  clear hu
  generalize undB a b = q at *
  by_cases h0 : a = ⟨#[]⟩
  · have HE := hide (unhide HT (Or.inl (by rw [h0]; rfl)))
    subst h0
    go_enter Tryz.func108, Tryz.ntmps108
    go_wp2
    go_ret
    exact ⟨by rw [HE.out]; rfl, Below.refl _ _⟩
  · have e0 : a.toList.isEmpty = false := by
      rw [ByteArray.toList_eq]
      cases hd : a.data.toList with
      | nil => exact absurd (Go.WideShapes.bytes_inj (a := a) (b := ⟨#[]⟩) (by rw [hd])) h0
      | cons _ _ => rfl
    have HNE : Hid (¬ toL a = []) := fun e => h0 (toL_inj (by rw [e]; rfl))
    clear h0
    have HPA := hide (rparts_calls a (by omega) w)
    have HPB : Hid (∀ W, Calls Tryz.prog 106 #[.string b] W fun e w' => ∃ v, e = .returned v ∧ Row w' W.heap.size 9 v (sV (partsD b)) ∧ Below W.heap.size W w') := fun W => rparts_calls b (by omega) W
    have hna := parts_le a
    have hnb := parts_le b
    go_enter Tryz.func108, Tryz.ntmps108
    go_wp2_with fail
    refine (unhide HPA).mono ?_
    rintro e w1 ⟨v, rfl, hrow, hb1⟩
    have HB1 := hide (unhide HPB w1)
    have HSA := hide hrow.isS
    clear hrow
    go_wp2_with fail
    refine (unhide HB1).mono ?_
    rintro e w2 ⟨u, rfl, hrow, hb2⟩
    have HSA2 := hide ((HSA.out).below hb2)
    have HSB2 := hide hrow.isS
    have hb12 := hb1.trans (hb2.mono hb1.size)
    clear hrow HSA
    obtain ⟨aa, ca, e1, hla, hma, _, hca⟩ := HSA2.out
    obtain ⟨ab, cb, e2, hlb, hmb, _, hcb⟩ := HSB2.out
    subst e1 e2
    have HCA := hide hca
    have HCB := hide hcb
    obtain ⟨n, hn⟩ : ∃ n, n = (partsD a).length := ⟨_, rfl⟩
    obtain ⟨m, hm⟩ : ∃ m, m = (partsD b).length := ⟨_, rfl⟩
    rw [← hn] at hla hna ⊢
    rw [← hm] at hlb hnb ⊢
    have HN := hide hn
    have HM := hide hm
    clear hca hcb hn hm HSA2 HSB2
    by_cases hnm : n ≤ m
    · have g1 : ¬ (m : Int) < (n : Int) := by omega
      go_wp2_with fail
      go_loopw [7] (fun iv W => ∃ (i : Nat), i ≤ n ∧ iv = .int .i64 (i : Int) ∧ Hid (∀ k, k < i → (partsD a).getD k default = (partsD b).getD k default) ∧ Below w2.heap.size w2 W) (fun i _ => n - (intOf i).toNat)
      case atStart => exact ⟨0, by omega, rfl, fun k hk => absurd hk (by omega), Below.refl _ _⟩
      case round =>
        obtain ⟨i, hin, rfl, HJ, hbw⟩ := hrel
        by_cases hlt : i < n
        · have h1' : i < (partsD a).length := by rw [← HN.out]; exact hlt
          have h2' : i < (partsD b).length := by rw [← HM.out]; omega
          obtain ⟨b1, o1, rfl, hc1⟩ := unhide HCA (by rw [← HN.out]; omega)
          obtain ⟨b2, o2, rfl, hc2⟩ := unhide HCB (by rw [← HM.out]; omega)
          have hx := hc1 i h1'
          have hy := hc2 i h2'
          have hx2 := (hbw.cell (p := ⟨b1, o1 + i, none⟩) (World.block_lt_of_cell? w2 _ hx)).trans hx
          have hy2 := (hbw.cell (p := ⟨b2, o2 + i, none⟩) (World.block_lt_of_cell? w2 _ hy)).trans hy
          have q1 : (i : Int) < (n : Int) := by omega
          have q2 : (i : Int) < (m : Int) := by omega
          obtain ⟨x, hxe⟩ : ∃ x, x = (partsD a).getD i default := ⟨_, rfl⟩
          obtain ⟨y, hye⟩ : ∃ y, y = (partsD b).getD i default := ⟨_, rfl⟩
          rw [← hxe] at hx2
          rw [← hye] at hy2
          have HX := hide hxe
          have HY := hide hye
          clear hx hy hc1 hc2 hxe hye h2'
          by_cases hxy : x = y
          · have HJ2 : Hid (∀ k, k < i + 1 → (partsD a).getD k default = (partsD b).getD k default) := fun k hk => by
              by_cases e : k = i
              · subst e; rw [← HX.out, ← HY.out, hxy]
              · exact unhide HJ k (by omega)
            have hne : (x.toList == y.toList) = true := by rw [str_eq, decide_eq_true hxy]
            clear hxy h1'
            go_wp2_with fail
            go_quiet (fail)
            go_wp2
            exact ⟨⟨i + 1, by omega, by go_num, HJ2, hbw.trans ((drewn_below wr nq).mono hbw.size)⟩, by simp [intOf]; omega⟩
          · have HE : Hid (q = false) := unhide HF (fun h => h.elim HNE.out fun h => hxy (by rw [HX.out, HY.out]; exact h.2 i h1'))
            have hne : (x.toList == y.toList) = false := by rw [str_eq, decide_eq_false hxy]
            clear hxy h1'
            go_wp2_with fail
            go_quiet (fail)
            go_wp2
            go_ret
            have h29 := hbw.trans ((drewn_below wr nq).mono hbw.size)
            exact ⟨by rw [HE.out]; rfl, hb12.trans (h29.mono hb12.size)⟩
        · have HE : Hid (q = true) := unhide HT (Or.inr ⟨by rw [← HN.out, ← HM.out]; exact hnm, fun k hk => unhide HJ k (by rw [← HN.out] at hk; omega)⟩)
          go_wp2
          go_ret
          exact ⟨by rw [HE.out]; rfl, hb12.trans (hbw.mono hb12.size)⟩
    · have HE : Hid (q = false) := unhide HF (fun h => h.elim HNE.out fun h => hnm (by rw [HN.out, HM.out]; exact h.1))
      have g1 : (m : Int) < (n : Int) := by omega
      go_wp2
      go_ret
      exact ⟨by rw [HE.out]; rfl, hb12⟩
end Go.Proofs.YtfhfobikbfbajaaGreatDoor

namespace Go.Proofs.YtfhfobikbfbajaaGreatDoor
open Go.RowKit

theorem hasB_yes {l : List ByteArray} {j : Nat} {s : ByteArray} (hj : j < l.length) (e : l.getD j default = s) : hasB l s = true := by
  unfold hasB
  rw [List.any_eq_true]
  refine ⟨l[j], List.getElem_mem hj, decide_eq_true ?_⟩
  rw [← e, List.getD_eq_getElem?_getD, List.getElem?_eq_getElem hj]
  rfl
theorem hasB_no {l : List ByteArray} {s : ByteArray} (h : ∀ k, k < l.length → l.getD k default ≠ s) : hasB l s = false := by
  unfold hasB
  rw [List.any_eq_false]
  intro x hx e
  obtain ⟨k, hk, rfl⟩ := List.getElem_of_mem hx
  refine h k hk ?_
  rw [List.getD_eq_getElem?_getD, List.getElem?_eq_getElem hk]
  exact of_decide_eq_true e
set_option maxRecDepth 100000 in
set_option maxHeartbeats 4000000 in
theorem psindex_calls {v : Value} {l : List ByteArray} {w : World} (h : IsS w v l) (s : ByteArray) : Calls Tryz.prog 125 #[v, .string s] w fun e w' => ((∃ j : Nat, hasB l s = true ∧ e = .returned (.int .i64 (j : Int))) ∨ (hasB l s = false ∧ e = .returned (.int .i64 (-1)))) ∧ Below w.heap.size w w' := by
  obtain ⟨a, c, rfl, hl, hm, hz, hc⟩ := h
  have HC := hide hc
  obtain ⟨n, hn⟩ : ∃ n, n = l.length := ⟨_, rfl⟩
  rw [← hn] at hl
  have HN := hide hn
  rw [← hn]
  obtain ⟨q, hq⟩ : ∃ q, q = hasB l s := ⟨_, rfl⟩
  rw [← hq]
  have HQ := hide hq
  clear hn hq hc hz
  go_enter Tryz.func125, Tryz.ntmps125
  go_wp2_with fail
  go_loopw [8] (fun iv W => ∃ (j : Nat), j ≤ n ∧ iv = .int .i64 (j : Int) ∧ Below w.heap.size w W ∧ Hid (∀ k, k < j → l.getD k default ≠ s)) (fun i _ => n - (intOf i).toNat)
  case atStart => exact ⟨0, by omega, rfl, Below.refl _ _, fun k hk => absurd hk (by omega)⟩
  case round =>
    obtain ⟨j, hjn, rfl, hbw, HJ⟩ := hrel
    by_cases hlt : j < n
    · obtain ⟨b1, o1, rfl, hc1⟩ := unhide HC (by rw [← HN.out]; omega)
      have hx := hc1 j (by rw [← HN.out]; exact hlt)
      have hx2 := (hbw.cell (p := ⟨b1, o1 + j, none⟩) (World.block_lt_of_cell? w _ hx)).trans hx
      have hlti : (j : Int) < (n : Int) := by omega
      obtain ⟨x, hxe⟩ : ∃ x, x = l.getD j default := ⟨_, rfl⟩
      rw [← hxe] at hx hx2
      have HX := hide hxe
      clear hxe hx hc1
      by_cases hxy : s = x
      · have HE : Hid (q = true) := hide (by rw [HQ.out]; exact hasB_yes (by rw [← HN.out]; exact hlt) (by rw [← HX.out, hxy]))
        have hne : (s.toList == x.toList) = true := by rw [str_eq, decide_eq_true hxy]
        clear hxy
        go_wp2
        go_ret
        exact ⟨Or.inl ⟨j, HE.out, rfl⟩, hbw⟩
      · have HJ2 : Hid (∀ k, k < j + 1 → l.getD k default ≠ s) := fun k hk => by
          by_cases e : k = j
          · subst e; rw [← HX.out]; exact fun e => hxy e.symm
          · exact unhide HJ k (by omega)
        have hne : (s.toList == x.toList) = false := by rw [str_eq, decide_eq_false hxy]
        clear hxy
        go_wp2
        exact ⟨⟨j + 1, by omega, by go_num, hbw, HJ2⟩, by simp [intOf]; omega⟩
    · have HE : Hid (q = false) := hide (by rw [HQ.out]; exact hasB_no fun k hk => unhide HJ k (by rw [← HN.out] at hk; omega))
      go_wp2
      go_ret
      exact ⟨Or.inr ⟨HE.out, rfl⟩, hbw⟩
set_option maxRecDepth 100000 in
theorem pscontains_calls {v : Value} {l : List ByteArray} {w : World} (h : IsS w v l) (s : ByteArray) : Calls Tryz.prog 94 #[v, .string s] w fun e w' => e = .returned (.bool (hasB l s)) ∧ Below w.heap.size w w' := by
  have H1 := hide (psindex_calls h s)
  clear h
  generalize hasB l s = q at *
  go_enter Tryz.func94, Tryz.ntmps94
  go_wp2_with fail
  refine (unhide H1).mono ?_
  rintro e w1 ⟨⟨j, hq, rfl⟩ | ⟨hq, rfl⟩, hb⟩
  · subst hq
    have hge : (0 : Int) ≤ (j : Int) := by omega
    go_wp2
    go_ret
    exact ⟨rfl, hb⟩
  · subst hq
    go_wp2
    go_ret
    exact ⟨rfl, hb⟩
end Go.Proofs.YtfhfobikbfbajaaGreatDoor

namespace Go.Proofs.YtfhfobikbfbajaaGreatDoor

end Go.Proofs.YtfhfobikbfbajaaGreatDoor
