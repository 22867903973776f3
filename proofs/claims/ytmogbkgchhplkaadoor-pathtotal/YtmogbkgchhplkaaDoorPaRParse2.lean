/- The document's Parse: the walk. -/
import Derived.Test.YtmogbkgchhplkaaDoorPaRParse
namespace Go.Proofs.YtmogbkgchhplkaaDoor
open Go.RowKit

set_option maxRecDepth 100000 in
set_option maxHeartbeats 8000000 in
theorem rparse_calls (s : ByteArray) (hs : s.size ≤ 1000000) (w : World) : Calls Tryd.prog 24 #[.string s] w fun e w' => (((plL (toL s)).2 = true ∧ e = .returned (.tuple #[.slice none 0 0, .int .i64 (((plL (toL s)).1 : Nat) : Int)])) ∨ ((plL (toL s)).2 = false ∧ ∃ v, e = .returned (.tuple #[v, .int .i64 (-1)]) ∧ Row w' w.heap.size 9 v (sV (partsD s)))) ∧ Below w.heap.size w w' := by
  have HP := hide (rparts_calls s hs w)
  have HLen : Hid ((partsD s).length ≤ s.size + 1) := by
    have : ∀ l : List UInt8, (cutL l).length ≤ l.length + 1 := by
      intro l
      induction l with
      | nil => decide
      | cons b l ih =>
        by_cases hb : b = 47
        · subst hb; rw [cutL_slash]; simp; omega
        · rw [cutL_cons hb]; rw [← cutL_eta l] at ih; simp at ih ⊢; omega
    have := this (toL s)
    rw [← partsD_L, List.length_map, toL_len] at this
    exact this
  have HD : Hid (∀ p m, Lst s (partsD s).length p m → _) := fun p m h => Lst.done (s := s) (p := p) (m := m) h
  generalize (plL (toL s)).1 = pl1 at *
  generalize (plL (toL s)).2 = pl2 at *
  go_enter Tryd.func24, Tryd.ntmps24
  go_wp2_with fail
  refine (unhide HP).mono ?_
  rintro e w1 ⟨v, rfl, hrow, hb1⟩
  obtain ⟨al, cl, hvl⟩ := hrow.shape
  subst hvl
  rw [sV_len] at hrow ⊢
  obtain ⟨n, hn⟩ : ∃ n, n = (partsD s).length := ⟨_, rfl⟩
  rw [← hn] at hrow ⊢
  have HIS := hide hrow.isS
  have HRW := hide hrow
  have hn1 : n ≤ s.size + 1 := by rw [hn]; exact HLen.out
  have HN := hide hn
  clear hrow hn HLen HP
  go_wp2_with fail
  go_loopw [5, 6, 7] (fun lv pv iv wr => ∃ (i p : Nat) (m : Int), i ≤ n ∧ lv = .int .i64 m ∧ pv = .int .i64 (p : Int) ∧ iv = .int .i64 (i : Int) ∧ Hid (Lst s i p m) ∧ Below w1.heap.size w1 wr) (fun _ _ i _ => n - (intOf i).toNat)
  case atStart => exact ⟨0, 0, (s.size : Int) + 1, by omega, by go_num, rfl, rfl, Lst.start s, Below.refl _ _⟩
  case round =>
    obtain ⟨i, p, m, hin, rfl, rfl, rfl, HL, hb⟩ := hrel
    by_cases hlt : i < n
    · have hil : i < (partsD s).length := by rw [← HN.out]; exact hlt
      obtain ⟨hps, hLn⟩ := Lst.step HL.out hil
      have HLN := hide hLn
      have HPL : Hid (p ≤ s.size + 1) := (HL.out).le
      obtain ⟨a2, c2, hv2, hc1, hc2, _, hcells⟩ := (HIS.out).below hb
      injection hv2 with e1 e2 e3
      subst e1 e3
      rw [← e2] at hc1
      obtain ⟨b, o, rfl, hcell⟩ := hcells (by omega)
      have hx := hcell i hil
      have hiI : (i : Int) < (n : Int) := by omega
      have HW := hide (fun W => wrong_calls ((partsD s).getD i default) p (by omega) (by omega) W)
      clear hLn hcell hcells e2 HL
      rw [← HN.out] at HLN
      generalize (partsD s).getD i default = x at *
      generalize wrI x p = wv at *
      have hpI : (p : Int) + (x.size : Int) ≤ 1000000 := by omega
      have hA : (wv < 0) ∨ (0 ≤ wv ∧ wv < m) ∨ (0 ≤ wv ∧ m ≤ wv) := by omega
      rcases hA with hA | ⟨hA, hA2⟩ | ⟨hA, hA2⟩
      all_goals (
        obtain ⟨m1, hm1⟩ : ∃ m1, m1 = lst1 m wv := ⟨_, rfl⟩
        rw [← hm1] at HLN
        have hm1' := hm1
        unfold lst1 at hm1'
        split at hm1' <;> first | (exfalso; omega) | skip
        rename_i hno
        clear hm1 hno
        subst hm1'
        have hB : (x.size = 0 ∧ (p : Int) + (x.size : Int) < m1) ∨ (x.size = 0 ∧ m1 ≤ (p : Int) + (x.size : Int)) ∨ (x.size ≠ 0 ∧ i ≠ 15) ∨ (x.size ≠ 0 ∧ i = 15 ∧ n ≤ i + 1) ∨ (x.size ≠ 0 ∧ i = 15 ∧ i + 1 < n ∧ (p : Int) + (x.size : Int) < m1) ∨ (x.size ≠ 0 ∧ i = 15 ∧ i + 1 < n ∧ m1 ≤ (p : Int) + (x.size : Int)) := by omega
        rcases hB with hB | hB | hB | hB | hB | hB
        all_goals (
          obtain ⟨m2, hm2⟩ : ∃ m2, m2 = lst2 m1 ((p : Int) + (x.size : Int)) (x.size = 0 ∨ (i = 15 ∧ i + 1 < n)) := ⟨_, rfl⟩
          rw [← hm2] at HLN
          unfold lst2 at hm2
          split at hm2 <;> first | (exfalso; omega) | skip
          rename_i hno
          clear hno
          have HM2 := hide hm2
          clear hm2
          first
          | (have q0 : ((x.size : Int) == 0) = true := by rw [beq_iff_eq]; omega)
          | (have q0 : ((x.size : Int) == 0) = false := by rw [beq_eq_false_iff_ne]; omega)
          first
          | (have q1 : ((i : Int) == 15) = true := by rw [beq_iff_eq]; omega)
          | (have q1 : ((i : Int) == 15) = false := by rw [beq_eq_false_iff_ne]; omega)
          | skip
          first
          | (have q2 : (i : Int) + 1 < (n : Int) := by omega)
          | (have q2 : ¬ (i : Int) + 1 < (n : Int) := by omega)
          | skip
          first
          | (have q3 : (p : Int) + (x.size : Int) < m1 := by omega)
          | (have q3 : ¬ (p : Int) + (x.size : Int) < m1 := by omega)
          | skip
          clear hB
          go_wp2_with fail
          refine (unhide HW _).mono ?_
          rintro e w2 ⟨rfl, hw2⟩
          obtain rfl := hw2.symm
          clear hw2
          go_wp2
          first
          | exact ⟨⟨i + 1, p + x.size + 1, m2, by omega, by rw [HM2.out], by go_num, by go_num, HLN, hb⟩, by simp [intOf]; omega⟩
          | (go_roundw
             case rel => exact ⟨i + 1, p + x.size + 1, m2, by omega, by rw [HM2.out], by go_num, by go_num, HLN, hb⟩
             case measure => simp [intOf]; omega)))
    · obtain rfl : i = n := by omega
      have HF := hide (unhide HD p m (by rw [← HN.out]; exact HL.out))
      rcases HF.out with ⟨f1, f2, f3⟩ | ⟨f1, f2, f3⟩
      · subst f1
        by_cases hc : 255 < (s.size : Int) ∧ 255 < m
        · rw [if_pos hc] at f2
          obtain ⟨g1, g2⟩ := hc
          have HF2 := hide f2
          have g3 : (255 : Int) ≤ (s.size : Int) := by omega
          clear f2 f3 HF
          go_wp2
          go_ret2
          exact ⟨by rw [HF2.out]; rfl, hb1.trans (hb.mono hb1.size)⟩
        · rw [if_neg hc] at f2
          have HF2 := hide f2
          have g3 : m ≤ (s.size : Int) := by omega
          by_cases g1 : 255 < (s.size : Int)
          · have g2 : ¬ 255 < m := fun e => hc ⟨g1, e⟩
            clear f2 f3 HF hc
            go_wp2
            go_ret2
            exact ⟨by rw [HF2.out]; rfl, hb1.trans (hb.mono hb1.size)⟩
          · clear f2 f3 HF hc
            go_wp2
            go_ret2
            exact ⟨by rw [HF2.out]; rfl, hb1.trans (hb.mono hb1.size)⟩
      · subst f1
        have g3 : ¬ m ≤ (s.size : Int) := by omega
        have g1 : ¬ 255 < (s.size : Int) := by omega
        have HRW2 : Hid (Row wr w.heap.size 9 (.slice al i cl) (sV (partsD s))) := (HRW.out).grown ⟨hb.os, hb.tape, hb.output, hb.size, fun k hk _ => hb.block k hk⟩
        clear f2 f3 HF
        go_wp2
        go_ret2
        exact ⟨⟨_, rfl, HRW2.out⟩, hb1.trans (hb.mono hb1.size)⟩
end Go.Proofs.YtmogbkgchhplkaaDoor
