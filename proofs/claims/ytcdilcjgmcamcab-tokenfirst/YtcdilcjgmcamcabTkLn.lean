/- The document's line. -/
import Derived.Test.YtcdilcjgmcamcabTkOa
import Derived.Test.YtcdilcjgmcamcabTkM
namespace Go.Proofs.Ytcdilcjgmcamcab
open Go.RowKit Go.Maps

theorem noEnd_mem {s : ByteArray} (h : NoEnd s) : ∀ c ∈ s.data.toList, c.toNat ≠ 10 := by
  intro c hc
  obtain ⟨i, hi, rfl⟩ := List.getElem_of_mem hc
  have hs : i < s.size := by rw [len_data] at hi; exact hi
  have := h i hs
  unfold lk at this
  rw [List.getD_eq_getElem?_getD, List.getElem?_eq_getElem hi] at this
  exact this
theorem finS {s : ByteArray} (h : NoEnd s) {b p : Nat} (hb : b < s.size ∨ p ≠ 0) (o : List Tok) (n q : Nat) : fin (run ⟨o, n, p, q, .gap⟩ (s.data.toList.drop b)) = stp (run ⟨o, n, p, q, .gap⟩ (s.data.toList.drop b)) 10 := by
  refine fin_stp ?_
  by_cases hlt : b < s.size
  · exact moved_run _ _ (fun c hc => noEnd_mem h c (List.mem_of_mem_drop hc)) (by rw [lk_drop hlt]; simp)
  · rw [drop_out (by omega), run_nil]
    exact Or.inr (by rcases hb with h | h <;> first | omega | exact h)
theorem remark_end {s : ByteArray} (h : NoEnd s) {b : Nat} (hc : (lk s b).toNat = 35) (o : List Tok) (n p q : Nat) : fin (run ⟨o, n, p, q, .gap⟩ (s.data.toList.drop b)) = ⟨o ++ [⟨7, noText, n, q⟩], n + 1, 0, 0, .gap⟩ := by
  rw [nx_go (by omega)]
  have e : stp ⟨o, n, p, q, .gap⟩ (lk s b) = ⟨o, n, p + 1, q, .rem⟩ := by
    show gapS _ _ = _
    unfold gapS
    rw [if_neg (by omega), if_pos hc]
  rw [e]
  have := rem_to o n q (s.data.toList.drop (b + 1)) [] (p + 1) (fun c hc => noEnd_mem h c (List.mem_of_mem_drop hc))
  rw [List.append_nil] at this
  rw [this, run_nil]
  rfl
theorem blank_step {s : ByteArray} {b : Nat} (hc : (lk s b).toNat = 32) (o : List Tok) (n p q : Nat) : fin (run ⟨o, n, p, q, .gap⟩ (s.data.toList.drop b)) = fin (run ⟨o, n, p + 1, q, .gap⟩ (s.data.toList.drop (b + 1))) := by
  rw [nx_go (by omega)]
  congr 2
  show gapS _ _ = _
  unfold gapS
  rw [if_pos hc]
theorem sg_kd {c : UInt8} (h1 : inW c = false) (h34 : c.toNat ≠ 34) (h10 : c.toNat ≠ 10) : sgI (c.toNat : Int) = (kd c : Int) := by
  unfold sgI kd
  rw [h1]
  simp only [Bool.false_eq_true, if_false]
  rw [if_neg h34]
  repeat' split
  all_goals first | rfl | (exfalso; omega)
/-- A line under way: the token's own block, and what was gathered. -/
structure Ln (w w2 : World) (gT : Nat) (ov : Value) (out : List Tok) (cs : List Value) : Prop where
  arr : Arr w2 gT 26 cs
  own : OwnT w2 w.heap.size ov out
  ne : ov.ownBlock = none ∨ ov.ownBlock ≠ some gT
  below : Below w.heap.size w w2
  hg : w.heap.size ≤ gT
section
variable {w w1 w2 w3 : World} {gT : Nat} {ov : Value} {out : List Tok} {cs : List Value}
theorem Ln.new (h : OwnT w1 w.heap.size ov out) (hb : Below w.heap.size w w1) (cs : List Value) : Ln w (w1.alloc (.cells cs.toArray 26)) w1.heap.size ov out cs := by
  have hbn := (Below.refl w1.heap.size w1).alloc (Nat.le_refl _) (.cells cs.toArray 26)
  refine ⟨Arr.new w1 cs _, h.below hbn, ?_, hb.trans (hbn.mono hb.size), hb.size⟩
  cases hv : ov.ownBlock with
  | none => exact Or.inl rfl
  | some k => exact Or.inr (fun e => by have := (World.ownsRow.lt h k hv).2; injection e with e; omega)
theorem Ln.keep (h : Ln w w2 gT ov out cs) (hb : Below w2.heap.size w2 w3) : Ln w w3 gT ov out cs :=
  ⟨h.arr.below hb, h.own.below hb, h.ne, h.below.trans (hb.mono h.below.size), h.hg⟩
theorem Ln.set (h : Ln w w2 gT ov out cs) (j : Nat) (u : Value) : Ln w (w2.setCell ⟨gT, j, none⟩ u) gT ov out (cs.set j u) :=
  ⟨h.arr.set j u, h.own.kept (grown_set w2 gT j u) h.ne, h.ne, h.below.setCell (p := ⟨gT, j, none⟩) h.hg u, h.hg⟩
end
def LineP (w w' : World) (R : St) (e : Ending) : Prop :=
  Below w.heap.size w w' ∧ ((∃ a n c, e = .returned (.tuple #[.slice a n c, .int .i64 0, .int .i64 0]) ∧ OwnT w' w.heap.size (.slice a n c) R.out ∧ R.md = .gap) ∨ (∃ (er : Int) (pl : Nat), e = .returned (.tuple #[.slice none 0 0, .int .i64 er, .int .i64 (pl : Int)]) ∧ er ≠ 0 ∧ R.md = .bad er ∧ R.p = pl))
set_option maxRecDepth 100000 in
set_option maxHeartbeats 8000000 in
theorem line_calls (s : ByteArray) (n : Nat) (hs : s.size ≤ 1000000) (hN : NoEnd s) (w : World) : Calls Try.prog 36 #[.string s, .int .i64 (n : Int)] w fun e w' => LineP w w' (lineR s.data.toList n) e := by
  obtain ⟨R, hR⟩ : ∃ R, R = lineR s.data.toList n := ⟨_, rfl⟩
  rw [← hR]
  have HR : Hid (R = stp (run ⟨[], n, 0, 0, .gap⟩ (s.data.toList.drop 0)) 10) := hR
  clear hR
  have HNO := hide hN
  clear hN
  have HIN : Hid (∀ (c : UInt8) (W : World), Calls Try.prog 48 #[.int .u8 (c.toNat : Int)] W fun e w' => e = .returned (.bool (inW c)) ∧ w' = W) := fun c W => by
    have := rinWord_calls (c.toNat : Int) (by omega) (by have := u8_lt c; omega) W
    rw [inWI_eq] at this
    exact this
  have HSG : Hid (∀ (c : UInt8) (W : World), Calls Try.prog 51 #[.int .u8 (c.toNat : Int)] W fun e w' => e = .returned (.int .i64 (sgI (c.toNat : Int))) ∧ w' = W) := fun c W => rsign_calls (c.toNat : Int) (by omega) (by have := u8_lt c; omega) W
  go_enter Try.func36, Try.ntmps36
  go_wp2_with fail
  go_loopw [7, 8, 9] (fun ov av bv wq => ∃ (b q : Nat), q ≤ b ∧ b ≤ s.size ∧ av = .int .i64 (b : Int) ∧ bv = .int .i64 (q : Int) ∧ Hid (∃ out, OwnT wq w.heap.size ov out ∧ Below w.heap.size w wq ∧ out.length ≤ b ∧ R = stp (run ⟨out, n, b, q, .gap⟩ (s.data.toList.drop b)) 10)) (fun _ av _ _ => s.size - (intOf av).toNat)
  case atStart => exact ⟨0, 0, by omega, by omega, rfl, rfl, ⟨[], OwnT.nil _ _, Below.refl _ _, by simp, HR.out⟩⟩
  case round =>
    rename World => w1
    obtain ⟨b, q, hqb, hbs, rfl, rfl, HB⟩ := hrel
    obtain ⟨out, hO, hbw, hol, hfin⟩ := HB.out
    obtain ⟨oa, oc, hov⟩ := hO.shape
    subst hov
    by_cases hlt : b < s.size
    · have hI : (b : Int) < (s.size : Int) := by omega
      have hidx := index_str s b hlt
      have h10 := unhide HNO b hlt
      have HF : Hid (R = fin (run ⟨out, n, b, q, .gap⟩ (s.data.toList.drop b))) := by
        show _ = _
        rw [hfin, finS HNO.out (Or.inl hlt)]
      have HLn := hide (Ln.new hO hbw [.int .i64 0, .string ⟨#[]⟩, .int .i64 (n : Int), .int .i64 (b : Int)])
      have HOL := hide hol
      by_cases h35 : (lk s b).toNat = 35
      · have b35 : (((lk s b).toNat : Int) != 35) = false := by rw [h35]; rfl
        have HE : Hid (R = ⟨out ++ [⟨7, noText, n, q⟩], n + 1, 0, 0, .gap⟩) := by show _ = _; rw [HF.out, remark_end HNO.out h35]
        generalize lk s b = c at *
        clear h35 h10 HB
        have hbn := (Below.refl w1.heap.size w1).alloc (Nat.le_refl _) (.cells [.int .i64 7, .string ⟨#[]⟩, .int .i64 (n : Int), .int .i64 (q : Int)].toArray 26)
        have HO2 := hide ((hO).below hbn)
        have hb2 := (hbw).trans (hbn.mono (hbw).size)
        have hsz2 := hb2.size
        have hnew := tok_new w1 ⟨7, ⟨#[]⟩, (n : Int), (q : Int)⟩
        have hln2 : out.length + [Tok.mk 7 ⟨#[]⟩ (n : Int) (q : Int)].length ≤ 1000000000000 := by simp; omega
        have HLN2 := hide hln2
        generalize hon : out.length = on at *
        have HON := hide hon
        clear hon hln2 hbn hfin
        go_wp2_with (first | (at_builtin; refine wpList_appTk rfl (.tmp 105) (.tmp 109) rfl rfl (l := out) (m := [⟨7, ⟨#[]⟩, (n : Int), (q : Int)⟩]) HO2.out rfl rfl hnew (by rw [HON.out]; exact HLN2.out) hsz2 ?_; intro v6 w6 hO6 hg6 hv6 hat6; (have hb6 := below_app hb2 hg6 hsz2 hv6); (have HO6 := hide hO6); (obtain ⟨a6, c6, hv6e⟩ := hO6.shape); subst hv6e; (generalize (out ++ [Tok.mk 7 ⟨#[]⟩ (n : Int) (q : Int)]).length = n6 at *); clear hO6 hg6 hv6 hat6))
        try rw [Exit.noGoto_ret]
        go_ret3
        exact ⟨hb6, Or.inl ⟨_, _, _, rfl, by rw [HE.out]; exact HO6.out, by rw [HE.out]⟩⟩
      · have b35 : (((lk s b).toNat : Int) != 35) = true := by simp; omega
        by_cases h32 : (lk s b).toNat = 32
        · have b32 : (((lk s b).toNat : Int) == 32) = true := by rw [h32]; rfl
          have HF2 : Hid (R = stp (run ⟨out, n, b + 1, q, .gap⟩ (s.data.toList.drop (b + 1))) 10) := by
            show _ = _
            rw [HF.out, blank_step h32, finS HNO.out (Or.inr (by omega))]
          generalize lk s b = c at *
          clear h35 h32 h10 hO hbw hfin HB
          go_wp2
          go_roundw
          case rel => exact ⟨b + 1, q, by omega, by omega, by go_num, rfl, ⟨out, HLn.out.own, HLn.out.below, by have := HOL.out; omega, HF2.out⟩⟩
          case measure => simp [intOf]; omega
        · have b32 : (((lk s b).toNat : Int) == 32) = false := by simp; omega
          cases hw : inW (lk s b) with
          | true =>
            have hk1 := kd_word.2 hw
            have HFI := hide (Wd.first hlt hk1)
            have HI0 := hide (fun W => unhide HIN (lk s b) W)
            rw [hw] at HI0
            have HK1 := hide hk1
            generalize hc : lk s b = c at *
            have HC := hide hc
            clear h35 h32 h10 hO hbw hfin HB hw hk1 hc
            go_wp2_with fail
            refine (unhide HI0 _).mono ?_
            rintro e w3 ⟨rfl, hw3⟩
            obtain rfl := hw3.symm
            clear hw3
            generalize (w1.alloc _) = w2 at *
            generalize w1.heap.size = gT at *
            clear hidx
            go_wp2_with fail
            go_loop [8] (fun av => ∃ d : Nat, b ≤ d ∧ d ≤ s.size ∧ d ≤ b + 255 ∧ av = .int .i64 (d : Int) ∧ Hid (d = b ∨ Wd s b d)) (fun av => s.size - (intOf av).toNat)
            case atStart => exact ⟨b, by omega, by omega, by omega, rfl, Or.inl rfl⟩
            case round =>
              obtain ⟨d, hbd, hds, hd255, rfl, HD⟩ := hrel
              by_cases hdl : d < s.size
              · have hdI : (d : Int) < (s.size : Int) := by omega
                have hidx := index_str s d hdl
                have HI1 := hide (fun W => unhide HIN (lk s d) W)
                cases hwd : inW (lk s d) with
                | true =>
                  have hkd := kd_word.2 hwd
                  rw [hwd] at HI1
                  by_cases h255 : d - b = 255
                  · have e255 : ((d : Int) - (b : Int) == 255) = true := by simp; omega
                    have HE : Hid (R = ⟨out, n, b + (d - b), q, .bad 2⟩) := by
                      show _ = _
                      rw [HF.out]
                      rcases HD.out with e | hw
                      · omega
                      · exact hw.bad hdl hkd h255 out n b q
                    generalize lk s d = c2 at *
                    clear hwd hkd
                    go_wp2_with fail
                    refine (unhide HI1 _).mono ?_
                    rintro e w3 ⟨rfl, hw3⟩
                    obtain rfl := hw3.symm
                    clear hw3
                    go_wp2
                    try rw [Exit.noGoto_ret]
                    go_ret3
                    exact ⟨HLn.out.below, Or.inr ⟨2, d, rfl, by decide, by rw [HE.out], by rw [HE.out]; show b + (d - b) = d; omega⟩⟩
                  · have e255 : ((d : Int) - (b : Int) == 255) = false := by simp; omega
                    have HW : Hid (Wd s b (d + 1)) := by
                      rcases HD.out with e | hw
                      · rw [e]; exact HFI.out
                      · exact hw.more hdl hkd h255
                    generalize lk s d = c2 at *
                    clear hwd hkd
                    go_wp2_with fail
                    refine (unhide HI1 _).mono ?_
                    rintro e w3 ⟨rfl, hw3⟩
                    obtain rfl := hw3.symm
                    clear hw3
                    go_wp2
                    go_round
                    case rel => exact ⟨d + 1, by omega, by omega, by omega, by go_num, Or.inr HW.out⟩
                    case measure => simp [intOf]; omega
                | false =>
                  have hkd : kd (lk s d) ≠ 1 := fun e => by have := kd_word.1 e; rw [hwd] at this; cases this
                  have hne : d ≠ b := fun e => hkd (by rw [e, HC.out]; exact HK1.out)
                  have HE : Hid (R = stp (run ⟨out ++ [⟨1, s.extract b d, (n : Int), (b : Int)⟩], n, d, d, .gap⟩ (s.data.toList.drop d)) 10) := by
                    show _ = _
                    rw [HF.out]
                    rcases HD.out with e | hw
                    · exact absurd e hne
                    · rw [hw.stop hkd out n b q, show b + (d - b) = d by omega, finS HNO.out (Or.inr (by omega))]
                  rw [hwd] at HI1
                  generalize lk s d = c2 at *
                  clear hwd hkd
                  have hbdI : (b : Int) ≤ (d : Int) := by omega
                  go_wp2_with fail
                  refine (unhide HI1 _).mono ?_
                  rintro e w3 ⟨rfl, hw3⟩
                  obtain rfl := hw3.symm
                  clear hw3
                  have c0 := HLn.out.arr.cell 0
                  simp only [List.getElem?_cons_zero] at c0
                  have f0 := HLn.out.arr.frozen 0
                  have HT0 := hide (HLn.out.set 0 (.int .i64 1))
                  have c1 := HT0.out.arr.cell 1
                  simp only [List.getElem?_cons_succ, List.getElem?_cons_zero, List.set_cons_zero] at c1
                  have f1 := HT0.out.arr.frozen 1
                  have HT := hide (HT0.out.set 1 (.string (s.extract b d)))
                  have hbn := (Below.refl ((w2.setCell ⟨gT, 0, none⟩ (.int .i64 1)).setCell ⟨gT, 1, none⟩ (.string (s.extract b d))).heap.size ((w2.setCell ⟨gT, 0, none⟩ (.int .i64 1)).setCell ⟨gT, 1, none⟩ (.string (s.extract b d)))).alloc (Nat.le_refl _) (.cells [.int .i64 1, .string (s.extract b d), .int .i64 (n : Int), .int .i64 (b : Int)].toArray 26)
                  have HO2 := hide (HT.out.own.below hbn)
                  have hb2 := HT.out.below.trans (hbn.mono HT.out.below.size)
                  have hsz2 := hb2.size
                  have hnew := tok_new ((w2.setCell ⟨gT, 0, none⟩ (.int .i64 1)).setCell ⟨gT, 1, none⟩ (.string (s.extract b d))) ⟨1, (s.extract b d), (n : Int), (b : Int)⟩
                  rw [show ((w2.setCell ⟨gT, 0, none⟩ (.int .i64 1)).setCell ⟨gT, 1, none⟩ (.string (s.extract b d))).heap.size = w2.heap.size by simp [World.setCell]] at hnew
                  have hln2 : out.length + [(Tok.mk 1 (s.extract b d) (n : Int) (b : Int))].length ≤ 1000000000000 := by have := HOL.out; simp; omega
                  have HLN2 := hide hln2
                  obtain ⟨t0, t1, t2, t3⟩ : _ ∧ _ ∧ _ ∧ _ := ⟨HT.out.arr.cell 0, HT.out.arr.cell 1, HT.out.arr.cell 2, HT.out.arr.cell 3⟩
                  simp only [List.getElem?_cons_zero, List.getElem?_cons_succ, List.set_cons_zero, List.set_cons_succ] at t0 t1 t2 t3
                  have HON := hide (rfl : out.length = out.length)
                  clear hln2 hbn
                  go_wp2_with (first | (at_builtin; refine wpList_appTk rfl (.tmp 101) (.tmp 103) rfl rfl (l := out) (m := [⟨1, (s.extract b d), (n : Int), (b : Int)⟩]) HO2.out rfl rfl hnew HLN2.out hsz2 ?_; intro v6 w6 hO6 hg6 hv6 hat6; (have hb6 := below_app hb2 hg6 hsz2 hv6); (have HO6 := hide hO6); clear hO6 hg6 hv6 hat6))
                  go_roundw
                  case rel => exact ⟨d, d, by omega, by omega, by go_num, by go_num, ⟨out ++ [(Tok.mk 1 (s.extract b d) (n : Int) (b : Int))], HO6.out, hb6, by have := HOL.out; simp; omega, HE.out⟩⟩
                  case measure => simp [intOf]; omega
              · have hdI : ¬ (d : Int) < (s.size : Int) := by omega
                have hkd : kd (lk s d) ≠ 1 := by rw [lk_out (by omega)]; decide
                have hne : d ≠ b := by omega
                have HE : Hid (R = stp (run ⟨out ++ [⟨1, s.extract b d, (n : Int), (b : Int)⟩], n, d, d, .gap⟩ (s.data.toList.drop d)) 10) := by
                  show _ = _
                  rw [HF.out]
                  rcases HD.out with e | hw
                  · exact absurd e hne
                  · rw [hw.stop hkd out n b q, show b + (d - b) = d by omega, finS HNO.out (Or.inr (by omega))]
                clear hkd
                have hbdI : (b : Int) ≤ (d : Int) := by omega
                have hdsI : (d : Int) ≤ (s.size : Int) := by omega
                have c0 := HLn.out.arr.cell 0
                simp only [List.getElem?_cons_zero] at c0
                have f0 := HLn.out.arr.frozen 0
                have HT0 := hide (HLn.out.set 0 (.int .i64 1))
                have c1 := HT0.out.arr.cell 1
                simp only [List.getElem?_cons_succ, List.getElem?_cons_zero, List.set_cons_zero] at c1
                have f1 := HT0.out.arr.frozen 1
                have HT := hide (HT0.out.set 1 (.string (s.extract b d)))
                have hbn := (Below.refl ((w2.setCell ⟨gT, 0, none⟩ (.int .i64 1)).setCell ⟨gT, 1, none⟩ (.string (s.extract b d))).heap.size ((w2.setCell ⟨gT, 0, none⟩ (.int .i64 1)).setCell ⟨gT, 1, none⟩ (.string (s.extract b d)))).alloc (Nat.le_refl _) (.cells [.int .i64 1, .string (s.extract b d), .int .i64 (n : Int), .int .i64 (b : Int)].toArray 26)
                have HO2 := hide (HT.out.own.below hbn)
                have hb2 := HT.out.below.trans (hbn.mono HT.out.below.size)
                have hsz2 := hb2.size
                have hnew := tok_new ((w2.setCell ⟨gT, 0, none⟩ (.int .i64 1)).setCell ⟨gT, 1, none⟩ (.string (s.extract b d))) ⟨1, (s.extract b d), (n : Int), (b : Int)⟩
                rw [show ((w2.setCell ⟨gT, 0, none⟩ (.int .i64 1)).setCell ⟨gT, 1, none⟩ (.string (s.extract b d))).heap.size = w2.heap.size by simp [World.setCell]] at hnew
                have hln2 : out.length + [(Tok.mk 1 (s.extract b d) (n : Int) (b : Int))].length ≤ 1000000000000 := by have := HOL.out; simp; omega
                have HLN2 := hide hln2
                obtain ⟨t0, t1, t2, t3⟩ : _ ∧ _ ∧ _ ∧ _ := ⟨HT.out.arr.cell 0, HT.out.arr.cell 1, HT.out.arr.cell 2, HT.out.arr.cell 3⟩
                simp only [List.getElem?_cons_zero, List.getElem?_cons_succ, List.set_cons_zero, List.set_cons_succ] at t0 t1 t2 t3
                have HON := hide (rfl : out.length = out.length)
                clear hln2 hbn
                go_wp2_with (first | (at_builtin; refine wpList_appTk rfl (.tmp 101) (.tmp 103) rfl rfl (l := out) (m := [⟨1, (s.extract b d), (n : Int), (b : Int)⟩]) HO2.out rfl rfl hnew HLN2.out hsz2 ?_; intro v6 w6 hO6 hg6 hv6 hat6; (have hb6 := below_app hb2 hg6 hsz2 hv6); (have HO6 := hide hO6); clear hO6 hg6 hv6 hat6))
                go_roundw
                case rel => exact ⟨d, d, by omega, by omega, by go_num, by go_num, ⟨out ++ [(Tok.mk 1 (s.extract b d) (n : Int) (b : Int))], HO6.out, hb6, by have := HOL.out; simp; omega, HE.out⟩⟩
                case measure => simp [intOf]; omega
          | false =>
            have HI0 := hide (fun W => unhide HIN (lk s b) W)
            rw [hw] at HI0
            by_cases h34 : (lk s b).toNat = 34
            · have b34 : (((lk s b).toNat : Int) == 34) = true := by rw [h34]; rfl
              have HRL := hide (fun W => rliteral_calls s b hs hlt h34 HNO.out W)
              generalize lk s b = c at *
              clear h35 h32 h10 hO hbw hfin HB hw h34
              go_wp2_with fail
              refine (unhide HI0 _).mono ?_
              rintro e w3 ⟨rfl, hw3⟩
              obtain rfl := hw3.symm
              clear hw3
              go_wp2_with fail
              refine (unhide HRL _).mono ?_
              rintro e w2 ⟨hrl, hb2⟩
              have HLn2 := hide (HLn.out.keep hb2)
              clear hb2 HLn HRL hidx
              generalize (w1.alloc _) = w4 at *
              generalize w1.heap.size = gT at *
              rcases hrl with ⟨d, acc, rfl, hbd, hds, hw⟩ | ⟨d, er, rfl, hbd, her, hw⟩
              · have HE : Hid (R = stp (run ⟨out ++ [⟨2, bs acc, (n : Int), (b : Int)⟩], n, d, d, .gap⟩ (s.data.toList.drop d)) 10) := by
                  show _ = _
                  rw [HF.out, hw out n b q, show b + (d - b) = d by omega, finS HNO.out (Or.inr (by omega))]
                clear hw
                have c0 := HLn2.out.arr.cell 0
                simp only [List.getElem?_cons_zero] at c0
                have f0 := HLn2.out.arr.frozen 0
                have HT0 := hide (HLn2.out.set 0 (.int .i64 2))
                have c1 := HT0.out.arr.cell 1
                simp only [List.getElem?_cons_succ, List.getElem?_cons_zero, List.set_cons_zero] at c1
                have f1 := HT0.out.arr.frozen 1
                have HT := hide (HT0.out.set 1 (.string (bs acc)))
                generalize bs acc = txt at *
                have hbn := (Below.refl ((w2.setCell ⟨gT, 0, none⟩ (.int .i64 2)).setCell ⟨gT, 1, none⟩ (.string txt)).heap.size ((w2.setCell ⟨gT, 0, none⟩ (.int .i64 2)).setCell ⟨gT, 1, none⟩ (.string txt))).alloc (Nat.le_refl _) (.cells [.int .i64 2, .string txt, .int .i64 (n : Int), .int .i64 (b : Int)].toArray 26)
                have HO2 := hide (HT.out.own.below hbn)
                have hb2 := HT.out.below.trans (hbn.mono HT.out.below.size)
                have hsz2 := hb2.size
                have hnew := tok_new ((w2.setCell ⟨gT, 0, none⟩ (.int .i64 2)).setCell ⟨gT, 1, none⟩ (.string txt)) ⟨2, txt, (n : Int), (b : Int)⟩
                rw [show ((w2.setCell ⟨gT, 0, none⟩ (.int .i64 2)).setCell ⟨gT, 1, none⟩ (.string txt)).heap.size = w2.heap.size by simp [World.setCell]] at hnew
                have hln2 : out.length + [(Tok.mk 2 txt (n : Int) (b : Int))].length ≤ 1000000000000 := by have := HOL.out; simp; omega
                have HLN2 := hide hln2
                obtain ⟨t0, t1, t2, t3⟩ : _ ∧ _ ∧ _ ∧ _ := ⟨HT.out.arr.cell 0, HT.out.arr.cell 1, HT.out.arr.cell 2, HT.out.arr.cell 3⟩
                simp only [List.getElem?_cons_zero, List.getElem?_cons_succ, List.set_cons_zero, List.set_cons_succ] at t0 t1 t2 t3
                have HON := hide (rfl : out.length = out.length)
                clear hln2 hbn
                go_wp2_with (first | (at_builtin; refine wpList_appTk rfl (.tmp 101) (.tmp 103) rfl rfl (l := out) (m := [⟨2, txt, (n : Int), (b : Int)⟩]) HO2.out rfl rfl hnew HLN2.out hsz2 ?_; intro v6 w6 hO6 hg6 hv6 hat6; (have hb6 := below_app hb2 hg6 hsz2 hv6); (have HO6 := hide hO6); clear hO6 hg6 hv6 hat6))
                go_roundw
                case rel => exact ⟨d, d, by omega, by omega, by go_num, by go_num, ⟨out ++ [(Tok.mk 2 txt (n : Int) (b : Int))], HO6.out, hb6, by have := HOL.out; simp; omega, HE.out⟩⟩
                case measure => simp [intOf]; omega
              · have HE : Hid (R = ⟨out, n, b + (d - b), q, .bad er⟩) := by
                  show _ = _
                  rw [HF.out, hw out n b q]
                have ber : (er != 0) = true := by simpa using her
                have HER := hide her
                clear hw her
                go_wp2
                try rw [Exit.noGoto_ret]
                go_ret3
                exact ⟨HLn2.out.below, Or.inr ⟨er, d, rfl, HER.out, by rw [HE.out], by rw [HE.out]; show b + (d - b) = d; omega⟩⟩
            · have b34 : (((lk s b).toNat : Int) == 34) = false := by simp; omega
              have HS0 := hide (fun W => unhide HSG (lk s b) W)
              rw [sg_kd hw h34 h10] at HS0
              have hk1 : kd (lk s b) ≠ 1 := fun e => by have := kd_word.1 e; rw [hw] at this; cases this
              have hk2 : kd (lk s b) ≠ 2 := fun e => h34 (kd2 e)
              have hk7 : kd (lk s b) ≠ 7 := fun e => h10 (kd7 e)
              by_cases hk0 : kd (lk s b) = 0
              · have bk : ¬ (0 : Int) < ((kd (lk s b) : Nat) : Int) := by omega
                have HE : Hid (R = ⟨out, n, b, q, .bad 110⟩) := by show _ = _; rw [HF.out, step_none out n b q h32 h35 hk0]
                generalize kd (lk s b) = k at *
                generalize lk s b = c at *
                clear hk1 hk2 hk7 hk0 h32 h34 h35 h10 hw hO hfin HB
                go_wp2_with fail
                refine (unhide HI0 _).mono ?_
                rintro e w3 ⟨rfl, hw3⟩
                obtain rfl := hw3.symm
                go_wp2_with fail
                refine (unhide HS0 _).mono ?_
                rintro e w4 ⟨rfl, hw4⟩
                obtain rfl := hw4.symm
                go_wp2
                try rw [Exit.noGoto_ret]
                go_ret3
                exact ⟨HLn.out.below, Or.inr ⟨110, b, rfl, by decide, by rw [HE.out], by rw [HE.out]⟩⟩
              · have bk : (0 : Int) < ((kd (lk s b) : Nat) : Int) := by omega
                have HE : Hid (R = stp (run ⟨out ++ [⟨((kd (lk s b) : Nat) : Int), ⟨#[]⟩, (n : Int), (b : Int)⟩], n, b + 1, b + 1, .gap⟩ (s.data.toList.drop (b + 1))) 10) := by
                  show _ = _
                  rw [HF.out, step_sign out n b q h32 h35 hk1 hk2 hk7 hk0, finS HNO.out (Or.inr (by omega))]
                  rfl
                generalize kd (lk s b) = k at *
                generalize lk s b = c at *
                clear hk1 hk2 hk7 hk0 h32 h34 h35 h10 hw hO hfin HB hbw
                go_wp2_with fail
                refine (unhide HI0 _).mono ?_
                rintro e w3 ⟨rfl, hw3⟩
                obtain rfl := hw3.symm
                clear hw3
                go_wp2_with fail
                refine (unhide HS0 _).mono ?_
                rintro e w4 ⟨rfl, hw4⟩
                obtain rfl := hw4.symm
                clear hw4
                go_wp2_with fail
                refine (unhide HS0 _).mono ?_
                rintro e w4 ⟨rfl, hw4⟩
                obtain rfl := hw4.symm
                clear hw4
                generalize (w1.alloc _) = w2 at *
                generalize w1.heap.size = gT at *
                have c0 := HLn.out.arr.cell 0
                simp only [List.getElem?_cons_zero] at c0
                have f0 := HLn.out.arr.frozen 0
                have HT := hide (HLn.out.set 0 (.int .i64 (k : Int)))
                have hbn := (Below.refl (w2.setCell ⟨gT, 0, none⟩ (.int .i64 (k : Int))).heap.size (w2.setCell ⟨gT, 0, none⟩ (.int .i64 (k : Int)))).alloc (Nat.le_refl _) (.cells [.int .i64 (k : Int), .string ⟨#[]⟩, .int .i64 (n : Int), .int .i64 (b : Int)].toArray 26)
                have HO2 := hide (HT.out.own.below hbn)
                have hb2 := HT.out.below.trans (hbn.mono HT.out.below.size)
                have hsz2 := hb2.size
                have hnew := tok_new (w2.setCell ⟨gT, 0, none⟩ (.int .i64 (k : Int))) ⟨(k : Int), ⟨#[]⟩, (n : Int), (b : Int)⟩
                rw [show (w2.setCell ⟨gT, 0, none⟩ (.int .i64 (k : Int))).heap.size = w2.heap.size by simp [World.setCell]] at hnew
                have hln2 : out.length + [(Tok.mk (k : Int) ⟨#[]⟩ (n : Int) (b : Int))].length ≤ 1000000000000 := by have := HOL.out; simp; omega
                have HLN2 := hide hln2
                obtain ⟨t0, t1, t2, t3⟩ : _ ∧ _ ∧ _ ∧ _ := ⟨HT.out.arr.cell 0, HT.out.arr.cell 1, HT.out.arr.cell 2, HT.out.arr.cell 3⟩
                simp only [List.getElem?_cons_zero, List.getElem?_cons_succ, List.set_cons_zero] at t0 t1 t2 t3
                have HON := hide (rfl : out.length = out.length)
                clear hln2 hbn
                go_wp2_with (first | (at_builtin; refine wpList_appTk rfl (.tmp 101) (.tmp 103) rfl rfl (l := out) (m := [⟨(k : Int), ⟨#[]⟩, (n : Int), (b : Int)⟩]) HO2.out rfl rfl hnew HLN2.out hsz2 ?_; intro v6 w6 hO6 hg6 hv6 hat6; (have hb6 := below_app hb2 hg6 hsz2 hv6); (have HO6 := hide hO6); clear hO6 hg6 hv6 hat6))
                go_roundw
                case rel => exact ⟨b + 1, b + 1, by omega, by omega, by go_num, by go_num, ⟨out ++ [(Tok.mk (k : Int) ⟨#[]⟩ (n : Int) (b : Int))], HO6.out, hb6, by have := HOL.out; simp; omega, HE.out⟩⟩
                case measure => simp [intOf]; omega
    · have hI : ¬ (b : Int) < (s.size : Int) := by omega
      have HE : Hid (R = ⟨out ++ [⟨7, noText, n, q⟩], n + 1, 0, 0, .gap⟩) := by
        show _ = _
        rw [hfin, drop_out (by omega)]
        rfl
      have hbn := (Below.refl w1.heap.size w1).alloc (Nat.le_refl _) (.cells [.int .i64 7, .string ⟨#[]⟩, .int .i64 (n : Int), .int .i64 (q : Int)].toArray 26)
      have HO2 := hide ((hO).below hbn)
      have hb2 := (hbw).trans (hbn.mono (hbw).size)
      have hsz2 := hb2.size
      have hnew := tok_new w1 ⟨7, ⟨#[]⟩, (n : Int), (q : Int)⟩
      have hln2 : out.length + [Tok.mk 7 ⟨#[]⟩ (n : Int) (q : Int)].length ≤ 1000000000000 := by simp; omega
      have HLN2 := hide hln2
      generalize hon : out.length = on at *
      have HON := hide hon
      clear hon hln2 hbn hfin
      go_wp2_with (first | (at_builtin; refine wpList_appTk rfl (.tmp 105) (.tmp 109) rfl rfl (l := out) (m := [⟨7, ⟨#[]⟩, (n : Int), (q : Int)⟩]) HO2.out rfl rfl hnew (by rw [HON.out]; exact HLN2.out) hsz2 ?_; intro v6 w6 hO6 hg6 hv6 hat6; (have hb6 := below_app hb2 hg6 hsz2 hv6); (have HO6 := hide hO6); (obtain ⟨a6, c6, hv6e⟩ := hO6.shape); subst hv6e; (generalize (out ++ [Tok.mk 7 ⟨#[]⟩ (n : Int) (q : Int)]).length = n6 at *); clear hO6 hg6 hv6 hat6))
      try rw [Exit.noGoto_ret]
      go_ret3
      exact ⟨hb6, Or.inl ⟨_, _, _, rfl, by rw [HE.out]; exact HO6.out, by rw [HE.out]⟩⟩
end Go.Proofs.Ytcdilcjgmcamcab
