/- TokenBlanks: the walk. -/
import Derived.Test.YtcdilcjgmcamcaaTkV7
import Derived.Test.YtcdilcjgmcamcaaTkV4
namespace Go.Proofs.Ytcdilcjgmcamcaa
open Go.RowKit Go.Maps Classical

theorem alkL_alk : ∀ {a b : List Tok}, AlkL a b → Alk a b
  | [], [], _ => ⟨rfl, fun i h => absurd h (by simp)⟩
  | _ :: _, _ :: _, h => by
    have ih := alkL_alk h.2
    refine ⟨by simp [ih.1], fun i hi => ?_⟩
    cases i with
    | zero => exact h.1
    | succ i => exact ih.2 i (by simpa using hi)
  | [], _ :: _, h => h.elim
  | _ :: _, [], h => h.elim
/-- The remark without line's ends. -/
def noE (s : ByteArray) (i : Nat) : List UInt8 := (s.data.toList.take i).filter fun c => decide (c.toNat ≠ 10)
theorem noE_step {s : ByteArray} {i : Nat} (hi : i < s.size) : noE s (i + 1) = noE s i ++ (if (lk s i).toNat = 10 then [] else [lk s i]) := by
  have := take_more (s := s) (a := 0) (b := i) (Nat.zero_le _) hi
  rw [List.drop_zero, Nat.sub_zero, Nat.sub_zero] at this
  unfold noE
  rw [this, List.filter_append]
  congr 1
  by_cases h : (lk s i).toNat = 10 <;> simp [h]
theorem noE_no (s : ByteArray) (i : Nat) : ∀ c ∈ noE s i, c.toNat ≠ 10 := fun c hc => by
  unfold noE at hc
  have := (List.mem_filter.1 hc).2
  exact of_decide_eq_true this
theorem noE_len (s : ByteArray) (i : Nat) : (noE s i).length ≤ i := by
  unfold noE
  exact Nat.le_trans (List.length_filter_le _ _) (List.length_take_le _ _)
theorem joinB_snoc (f : Nat → List UInt8) : ∀ (a : List (List UInt8)) (l : List UInt8) (k : Nat), joinB f (a ++ [l]) k = joinB f a k ++ ((l ++ f (k + a.length)) ++ [10])
  | [], l, k => by simp [joinB]
  | x :: a, l, k => by
    rw [List.cons_append, joinB, joinB_snoc f a l (k + 1), joinB, List.length_cons, show k + 1 + a.length = k + (a.length + 1) by omega]
    simp
theorem joinA_snoc (f : Nat → Bool) : ∀ (a : List (List UInt8)) (l : List UInt8) (k : Nat), joinA f (a ++ [l]) k = joinA f a k ++ ((if f (k + a.length) then (32 :: 32 :: l) ++ [32] else l) ++ [10])
  | [], l, k => by simp [joinA]
  | x :: a, l, k => by
    rw [List.cons_append, joinA, joinA_snoc f a l (k + 1), joinA, List.length_cons, show k + 1 + a.length = k + (a.length + 1) by omega]
    simp
theorem joinB_congr {f f' : Nat → List UInt8} : ∀ (a : List (List UInt8)) (k : Nat), (∀ j, j < k + a.length → f j = f' j) → joinB f a k = joinB f' a k
  | [], _, _ => rfl
  | x :: a, k, h => by
    rw [joinB, joinB, h k (by simp), joinB_congr a (k + 1) (fun j hj => h j (by simp; omega))]
theorem joinA_congr {f f' : Nat → Bool} : ∀ (a : List (List UInt8)) (k : Nat), (∀ j, j < k + a.length → f j = f' j) → joinA f a k = joinA f' a k
  | [], _, _ => rfl
  | x :: a, k, h => by
    rw [joinA, joinA, h k (by simp), joinA_congr a (k + 1) (fun j hj => h j (by simp; omega))]
def fRm (bb : List UInt8) (g : Nat → Bool) : Nat → List UInt8 := fun i => if g i then 32 :: 32 :: 35 :: bb else []
def set1 (g : Nat → Bool) (i : Nat) (b : Bool) : Nat → Bool := fun k => if k = i then b else g k
theorem take_getL {l : List (List UInt8)} {i : Nat} (hi : i < l.length) : l.take (i + 1) = l.take i ++ [l.getD i []] := by
  rw [List.take_succ_eq_append_getElem hi, List.getD_eq_getElem?_getD, List.getElem?_eq_getElem hi]; rfl
theorem joinB_next (bb : List UInt8) (g : Nat → Bool) {ls : List (List UInt8)} {i : Nat} (hi : i < ls.length) (b : Bool) : joinB (fRm bb (set1 g i b)) (ls.take (i + 1)) 0 = joinB (fRm bb g) (ls.take i) 0 ++ ((ls.getD i [] ++ (if b then 32 :: 32 :: 35 :: bb else [])) ++ [10]) := by
  have hl : (ls.take i).length = i := by rw [List.length_take]; omega
  rw [take_getL hi, joinB_snoc, hl, Nat.zero_add]
  congr 1
  · refine joinB_congr _ _ fun j hj => ?_
    unfold fRm set1
    rw [if_neg (show j ≠ i by omega)]
  · unfold fRm set1
    rw [if_pos rfl]
theorem joinA_next (g : Nat → Bool) {ls : List (List UInt8)} {i : Nat} (hi : i < ls.length) (b : Bool) : joinA (set1 g i b) (ls.take (i + 1)) 0 = joinA g (ls.take i) 0 ++ ((if b then (32 :: 32 :: ls.getD i []) ++ [32] else ls.getD i []) ++ [10]) := by
  have hl : (ls.take i).length = i := by rw [List.length_take]; omega
  rw [take_getL hi, joinA_snoc, hl, Nat.zero_add]
  congr 1
  · refine joinA_congr _ _ fun j hj => ?_
    unfold set1
    rw [if_neg (show j ≠ i by omega)]
  · unfold set1
    rw [if_pos rfl]
theorem ba_app (a b : ByteArray) : (a ++ b).data.toList = a.data.toList ++ b.data.toList := by
  rw [ByteArray.data_append, Array.toList_append]
set_option maxRecDepth 100000 in
set_option maxHeartbeats 8000000 in
theorem tokenBlanks_walk (text : ByteArray) (n0 : Int) (remark : ByteArray) (w : World) : Calls Try.prog 8 #[.string text, .int .i64 n0, .string remark] w fun e w' => e = .returned (.bool true) ∧ Below w.heap.size w w' := by
  have H1 := hide (told_calls w)
  have HC1 := hide (fun W => cut_calls text 3000 W)
  have HC2 := hide (fun W => cut_calls remark 100 W)
  have hl1 := cutB_le text 3000
  have hl2 := cutB_le remark 100
  generalize cutB text 3000 = T at *
  generalize cutB remark 100 = M at *
  have HTK := hide (fun W => tokens_calls T W)
  have HBL := hide (fun h0 f hf g => blanks_L (t := T.data.toList) (by rw [len_data]; omega) h0 f hf g)
  have HLN := hide (fun W => rlines_calls T (by omega) W)
  have HNL := hide (lines_len T.data.toList)
  generalize hTT : tokL T.data.toList = TT at *
  obtain ⟨ts, er, ln, pl⟩ := TT
  simp only at HTK HBL
  go_enter Try.func8, Try.ntmps8
  go_wp2_with fail
  refine (unhide HC1 w).mono ?_
  rintro e w1 ⟨rfl, hw1⟩
  obtain rfl := hw1.symm
  clear hw1
  go_wp2_with fail
  refine (unhide HC2 w).mono ?_
  rintro e w1 ⟨rfl, hw1⟩
  obtain rfl := hw1.symm
  clear hw1
  go_wp2_with fail
  refine (unhide H1).mono ?_
  rintro e w1 ⟨rfl, hb1⟩
  go_wp2_with fail
  refine (unhide HTK w1).mono ?_
  rintro e w2 ⟨v2, rfl, hO2, hb2⟩
  have hb12 := hb1.trans (hb2.mono hb1.size)
  obtain ⟨a2, c2, hv2⟩ := hO2.shape
  subst hv2
  have HO2 := hide hO2
  clear hO2 hb2 H1 HC1 HC2
  by_cases he : er = 0
  · subst he
    have HBL0 := hide (HBL.out rfl)
    clear HBL
    generalize hts : ts.length = tn at *
    have HTS := hide hts
    clear hts
    go_wp2_with fail
    go_loopw [11, 12] (fun v8 iv wq => ∃ i : Nat, i ≤ M.size ∧ iv = .int .i64 (i : Int) ∧ Hid (Own8 wq w2.heap.size v8 (iL (noE M i))) ∧ Below w2.heap.size w2 wq) (fun _ iv _ => M.size - (intOf iv).toNat)
    case atStart => exact ⟨0, by omega, rfl, Own8.nil _ _, Below.refl _ _⟩
    case round =>
      rename World => w3
      obtain ⟨i, hin, rfl, HB, hbw⟩ := hrel
      obtain ⟨a8, n8, c8, hv8⟩ := HB.out.shape
      subst hv8
      have hln := noE_len M i
      by_cases hlt : i < M.size
      · have hI : (i : Int) < (M.size : Int) := by omega
        have hidx := index_str M i hlt
        have HST := hide (noE_step hlt)
        have HLL := hide hln
        by_cases h10 : (lk M i).toNat = 10
        · have b10 : (((lk M i).toNat : Int) != 10) = false := by rw [h10]; rfl
          rw [if_pos h10, List.append_nil] at HST
          generalize lk M i = c at *
          clear h10 hln
          go_wp2
          go_roundw
          case rel => exact ⟨i + 1, by omega, by go_num, by rw [HST.out]; exact HB, hbw⟩
          case measure => simp [intOf]; omega
        · have b10 : (((lk M i).toNat : Int) != 10) = true := by simp; omega
          rw [if_neg h10] at HST
          generalize lk M i = c at *
          clear h10 hln
          have HO3 := hide (HB.out.below ((Below.refl w3.heap.size w3).alloc (Nat.le_refl _) (.cells #[.int .u8 (c.toNat : Int)] 5)))
          have hb3 := hbw.trans (((Below.refl w3.heap.size w3).alloc (Nat.le_refl _) (.cells #[.int .u8 (c.toNat : Int)] 5)).mono hbw.size)
          have hI3 := isB_one w3 c
          have hsz3 := hb3.size
          have hln3 : (iL (noE M i)).length + (iL [c]).length ≤ 140737488355328 := by have := HLL.out; rw [iL_len, iL_len]; simp; omega
          go_wp2_with (first | (at_builtin; refine wpList_appB rfl (.tmp 52) (.tmp 56) rfl rfl HO3.out rfl hI3 hln3 hsz3 ?_; intro v6 w6 hO6 hg6; (have hb6 := below8 hb3 HO3.out hg6); (have HO6 := hide hO6); (obtain ⟨a6, n6, c6, hv6⟩ := hO6.shape); subst hv6; clear hO6 hg6 hI3 hln3 hsz3 hb3))
          rw [← iL_app, ← HST.out] at HO6
          go_roundw
          case rel => exact ⟨i + 1, by omega, by go_num, HO6, hb6⟩
          case measure => simp [intOf]; omega
      · have hI : ¬ (i : Int) < (M.size : Int) := by omega
        have HNO := hide (noE_no M i)
        have hbl : (noE M i).length ≤ 100 := by omega
        clear hln
        generalize noE M i = bb at *
        have HLW := hide (unhide HLN w3)
        go_wp2_with fail
        refine (unhide HLW).mono ?_
        rintro e w4 ⟨vl, rfl, hrow, hb4⟩
        have HO8 := hide (HB.out.below hb4)
        have hb24 := hbw.trans (hb4.mono hbw.size)
        obtain ⟨la, lc, hvl⟩ := hrow.shape
        subst hvl
        have HLS := hide (lines_total T.data.toList)
        generalize linesL T.data.toList = ls at *
        rw [sV_len] at hrow ⊢
        have HROW := hide hrow
        generalize hnl : ls.length = nl at *
        have HNLL := hide hnl
        have hnl2 : nl ≤ 3000 := by have := HNL.out; rw [len_data] at this; omega
        clear hnl hrow hb4 HB hbw HLW HLN
        have hbbl : (bs bb).size ≤ 100 := by rw [bs_size]; omega
        have HCV : Hid (∀ W, Below w4.heap.size w4 W → (convert 37 9 (.slice a8 n8 c8)).run Try.prog W = .ok (.string (bs bb)) W) := fun W hW => by
          have := conv_isB (HO8.out.below hW).isB
          rw [mkS_iL] at this
          exact this
        have HBB : Hid ((bs bb).data.toList = bb) := bs_L bb
        go_wp2_with fail
        go_loopw [14, 15, 16] (fun bv av iv wq => ∃ (i : Nat) (B A : ByteArray), i ≤ nl ∧ B.size ≤ i * 4000 ∧ A.size ≤ i * 4000 ∧ iv = .int .i64 (i : Int) ∧ bv = .string B ∧ av = .string A ∧ Hid (∃ g : Nat → Bool, B.data.toList = joinB (fRm bb g) (ls.take i) 0 ∧ A.data.toList = joinA g (ls.take i) 0) ∧ Below w4.heap.size w4 wq) (fun _ _ iv _ => nl - (intOf iv).toNat)
        case atStart => exact ⟨0, ⟨#[]⟩, ⟨#[]⟩, by omega, by decide, by decide, rfl, rfl, rfl, ⟨fun _ => true, rfl, rfl⟩, Below.refl _ _⟩
        case round =>
          rename World => w5
          obtain ⟨i, B, A, hin, hBs, hAs, rfl, rfl, rfl, HG, hbw⟩ := hrel
          by_cases hlt : i < nl
          · have hI : (i : Int) < (nl : Int) := by omega
            have hil : i < ls.length := by rw [HNLL.out]; exact hlt
            obtain ⟨lg, lcc, hlv, hlc1, hlc2, _, hlg⟩ := HROW.out.head (by rw [sV_len, HNLL.out]; omega)
            rw [sV_len, HNLL.out] at hlv hlc1
            injection hlv with e1 e2 e3
            subst e1 e3
            have hcell : w5.cell? ⟨lg, i, none⟩ = some (.string (bs (ls.getD i []))) := by
              rw [hbw.cell (p := ⟨lg, i, none⟩) hlg]
              have := HROW.out.cellAt (j := i) (by rw [sV_len]; exact hil)
              rw [this]
              unfold sV
              rw [List.getElem?_map, List.getElem?_eq_getElem hil, List.getD_eq_getElem?_getD, List.getElem?_eq_getElem hil]
              rfl
            have hlb : (bs (ls.getD i [])).size ≤ 3000 := by
              rw [bs_size]
              have := HLS.out (ls.getD i []) (by rw [List.getD_eq_getElem?_getD, List.getElem?_eq_getElem hil]; exact List.getElem_mem hil)
              rw [len_data] at this
              omega
            have HLB : Hid ((bs (ls.getD i [])).data.toList = ls.getD i []) := bs_L _
            have HNX : Hid (∀ (b : Bool) (B' A' : ByteArray), B'.data.toList = B.data.toList ++ ((ls.getD i [] ++ (if b then 32 :: 32 :: 35 :: bb else [])) ++ [10]) → A'.data.toList = A.data.toList ++ ((if b then (32 :: 32 :: ls.getD i []) ++ [32] else ls.getD i []) ++ [10]) → ∃ g : Nat → Bool, B'.data.toList = joinB (fRm bb g) (ls.take (i + 1)) 0 ∧ A'.data.toList = joinA g (ls.take (i + 1)) 0) := fun b B' A' hB' hA' => by
              obtain ⟨g, hg1, hg2⟩ := HG.out
              exact ⟨set1 g i b, by rw [hB', hg1, joinB_next bb g hil b], by rw [hA', hg2, joinA_next g hil b]⟩
            have hi4 : i * 4000 ≤ 3000 * 4000 := Nat.mul_le_mul_right _ (by omega)
            have hBB : B.size ≤ 12000000 := by omega
            have hAA : A.size ≤ 12000000 := by omega
            have HBs := hide hBs
            have HAs := hide hAs
            have HBBL := hide hbbl
            have hcv := fun nq => unhide HCV (w5.drewN nq) (hbw.trans (drewn_b _ _ _))
            generalize bs (ls.getD i []) = lb at *
            generalize bs bb = bs8 at *
            clear hi4 hBs hAs
            go_wp2_with fail
            go_quiet (fail)
            go_wp2
            · go_roundw
              case rel =>
                refine ⟨i + 1, _, _, by omega, ?_, ?_, by go_num, rfl, rfl, unhide HNX true _ _ ?_ ?_, hbw.trans (drewn_b _ _ _)⟩
                · have h1 := HBs.out; have h2 := HBBL.out; simp only [ByteArray.size_append]; show _ + (_ + 3 + _) + 1 ≤ _; omega
                · have h1 := HAs.out; simp only [ByteArray.size_append]; show _ + (2 + _ + 1) + 1 ≤ _; omega
                · simp only [ba_app, HLB.out, HBB.out]; simp
                · simp only [ba_app, HLB.out]; simp
              case measure => simp [intOf]; omega
            · go_roundw
              case rel =>
                refine ⟨i + 1, _, _, by omega, ?_, ?_, by go_num, rfl, rfl, unhide HNX false _ _ ?_ ?_, hbw.trans (drewn_b _ _ _)⟩
                · have h1 := HBs.out; simp only [ByteArray.size_append]; show _ + _ + 1 ≤ _; omega
                · have h1 := HAs.out; simp only [ByteArray.size_append]; show _ + _ + 1 ≤ _; omega
                · simp only [ba_app, HLB.out]; simp
                · simp only [ba_app, HLB.out]; simp
              case measure => simp [intOf]; omega
          · have hI : ¬ (i : Int) < (nl : Int) := by omega
            have hie : i = nl := by omega
            obtain ⟨g, hg1, hg2⟩ := HG.out
            rw [List.take_of_length_le (by rw [HNLL.out]; omega)] at hg1 hg2
            obtain ⟨hp1, hp2⟩ := HBL0.out (fRm bb g) (fun k => by
              unfold fRm
              split
              · exact Or.inr ⟨bb, rfl, HNO.out⟩
              · exact Or.inl rfl) g
            rw [← hg1, len_data] at hp1
            rw [← hg2, len_data] at hp2
            have hb05 := (hb12.trans (hb24.mono hb12.size)).trans (hbw.mono (Nat.le_trans hb12.size hb24.size))
            have HOT := hide ((HO2.out.below hb24).below hbw)
            by_cases hB6 : 65536 < B.size
            · have j1 : (65536 : Int) < (B.size : Int) := by omega
              clear hp1 hp2 hg1 hg2 hie
              go_wp2
              try rw [Exit.noGoto_ret]
              go_ret
              exact ⟨rfl, hb05⟩
            · have j1 : ¬ (65536 : Int) < (B.size : Int) := by omega
              by_cases hA6 : 65536 < A.size
              · have j2 : (65536 : Int) < (A.size : Int) := by omega
                clear hp1 hp2 hg1 hg2 hie
                go_wp2
                try rw [Exit.noGoto_ret]
                go_ret
                exact ⟨rfl, hb05⟩
              · have j2 : ¬ (65536 : Int) < (A.size : Int) := by omega
                have HT1 := hide (fun W => tokens_calls B W)
                rw [hp1 (by omega)] at HT1
                obtain ⟨o2, ho2, hal⟩ := hp2 (by omega)
                have HT2 := hide (fun W => tokens_calls A W)
                rw [ho2] at HT2
                simp only at HT1 HT2
                have HALK := hide (alkL_alk hal)
                clear hp1 hp2 hg1 hg2 hie ho2 hal
                go_wp2_with fail
                refine (unhide HT1 w5).mono ?_
                rintro e w6 ⟨v6, rfl, hO6, hb6⟩
                obtain ⟨a6, c6, hv6⟩ := hO6.shape
                subst hv6
                have HO6 := hide hO6
                have hb06 := hb05.trans (hb6.mono hb05.size)
                go_wp2_with fail
                refine (unhide HT2 w6).mono ?_
                rintro e w7 ⟨v7, rfl, hO7, hb7⟩
                obtain ⟨a7, c7, hv7⟩ := hO7.shape
                subst hv7
                have HO7 := hide hO7
                have hb07 := hb06.trans (hb7.mono hb06.size)
                have HOT7 := hide ((HOT.out.below hb6).below hb7)
                have HSM := hide (same_calls (HO6.out.below hb7).isTk HOT7.out.isTk)
                rw [decide_eq_true rfl, HTS.out] at HSM
                have HALW : Hid (∀ W, Below w7.heap.size w7 W → Calls Try.prog 18 #[.slice a7 o2.length c7, .slice a2 tn c2] W fun e w' => e = .returned (.bool true) ∧ Below W.heap.size W w') := fun W hW => by
                  have := alike_calls (HO7.out.below hW).isTk (HOT7.out.below hW).isTk HALK.out
                  exact this
                rw [HTS.out]
                generalize o2.length = m2 at *
                clear hO6 hO7 hb6 hb7 HO6 HOT
                go_wp2_with fail
                refine (unhide HSM).mono ?_
                rintro e w8 ⟨rfl, hb8⟩
                have HAL8 := hide (unhide HALW w8 hb8)
                have hb08 := hb07.trans (hb8.mono hb07.size)
                go_wp2_with fail
                refine (unhide HAL8).mono ?_
                rintro e w9 ⟨rfl, hb9⟩
                go_wp2
                go_ret
                exact ⟨rfl, hb08.trans (hb9.mono hb08.size)⟩
  · have be : (er != 0) = true := by simpa using he
    clear he
    go_wp2
    go_ret
    exact ⟨rfl, hb12⟩
end Go.Proofs.Ytcdilcjgmcamcaa
