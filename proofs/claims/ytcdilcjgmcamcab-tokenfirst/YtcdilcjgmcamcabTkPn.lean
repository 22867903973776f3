/- Print. -/
import Derived.Test.YtcdilcjgmcamcabTkPp
import Derived.Test.YtcdilcjgmcamcabTkRg
namespace Go.Proofs.Ytcdilcjgmcamcab
open Go.RowKit Go.Maps

def pAcc (l : List Tok) (i : Nat) : List UInt8 := printL (l.take i) false
def sepB (l : List Tok) (i : Nat) : Bool := decide (0 < i) && ap (l.getD (i - 1) .nul).kind && ap (l.getD i .nul).kind
theorem printL_snoc : ∀ (m : List Tok) (a : Bool) (t : Tok), printL (m ++ [t]) a = printL m a ++ ((if (match m.getLast? with | none => a | some x => ap x.kind) && ap t.kind then [32] else []) ++ writL t.kind t.text)
  | [], a, t => by simp [printL]
  | x :: m, a, t => by
    rw [List.cons_append, printL, printL_snoc m (ap x.kind) t, printL, List.append_assoc (_ ++ _) (printL m (ap x.kind))]
    congr 1
    cases m with
    | nil => rfl
    | cons y m => rw [List.getLast?_cons_cons, List.getLast?_eq_some_getLast (by simp)]
theorem take_getD {l : List Tok} {i : Nat} (hi : i < l.length) : l.take (i + 1) = l.take i ++ [l.getD i .nul] := by
  rw [List.take_succ_eq_append_getElem hi, List.getD_eq_getElem?_getD, List.getElem?_eq_getElem hi]; rfl
theorem pAcc_step {l : List Tok} {i : Nat} (hi : i < l.length) : pAcc l (i + 1) = (pAcc l i ++ (if sepB l i = true then [32] else [])) ++ writL (l.getD i .nul).kind (l.getD i .nul).text := by
  unfold pAcc
  rw [take_getD hi, printL_snoc, List.append_assoc]
  congr 3
  unfold sepB
  cases i with
  | zero => simp
  | succ j =>
    rw [take_getD (by omega), List.getLast?_append]
    simp
theorem printL_le : ∀ (l m : List Tok) (a : Bool), (printL l a).length ≤ (printL (l ++ m) a).length
  | [], m, a => by simp [printL]
  | t :: l, m, a => by
    rw [List.cons_append, printL, printL]
    have := printL_le l m (ap t.kind)
    simp only [List.length_append]
    omega
theorem pAcc_le (l : List Tok) (i : Nat) : (pAcc l i).length ≤ (printL l false).length := by
  have := printL_le (l.take i) (l.drop i) false
  rw [List.take_append_drop] at this
  exact this
theorem pAcc_all (l : List Tok) : pAcc l l.length = printL l false := by unfold pAcc; rw [List.take_length]
theorem writL_le {k : Int} {t : ByteArray} (h : k = 1 → t.size ≤ 255) (h2 : k = 2 → t.size ≤ 65536) : (writL k t).length ≤ 300000 := by
  unfold writL
  split
  · rename_i e; have := h e; rw [len_data]; omega
  · split
    · rename_i e; have h3 := h2 e; have := quote_le t.data.toList; rw [len_data] at this; omega
    · simp
theorem writL_ge {t : ByteArray} (h : 65536 < t.size) : 65536 < (writL 2 t).length := by
  show 65536 < (quoteL t.data.toList).length
  have := quote_len t.data.toList
  rw [len_data] at this
  omega
theorem Arr.oth {w w' : World} {b g : Nat} {t : TypeId} {cs : List Value} (h : Arr w g t cs) (ho : Oth b w w') (hne : g ≠ b) (ht : t ≠ 5) : Arr w' g t cs :=
  ho g _ h (fun e => hne (Option.some.inj e)) (fun c fz e => ht (by injection e))
theorem Bd.below {w w' : World} {B b : Nat} {l : List UInt8} (h : Bd w B b l) (hb : Below w.heap.size w w') : Bd w' B b l := by
  have key : ∀ p, Lib.BuilderAtF 52 5 B b p (Lib.byteCells l) w → Lib.BuilderAtF 52 5 B b p (Lib.byteCells l) w' := fun p ⟨h1, v, h2, h3, h4⟩ =>
    ⟨h1, v, (hb.block b (Array.getElem?_eq_some_iff.1 h2).1).trans h2, World.ownsRowF.kept (row := none) h3 ⟨hb.os, hb.tape, hb.output, hb.size, fun k hk _ => hb.block k hk⟩ (by cases v.ownBlock <;> simp), h4⟩
  exact h.elim (fun x => Or.inl (key _ x)) (fun x => Or.inr (key _ x))
theorem Bd.lt {w : World} {B b : Nat} {l : List UInt8} (h : Bd w B b l) : b < w.heap.size := h.elim (fun x => x.lt) (fun x => x.lt)
set_option maxRecDepth 100000 in
set_option maxHeartbeats 8000000 in
theorem print_calls {w : World} {v : Value} {l : List Tok} (h : IsTk w v l) : Calls Try.prog 9 #[v] w fun e w' => e = .returned (.tuple #[.string (printR l).1, .int .i64 (printR l).2]) ∧ Below w.heap.size w w' := by
  have HPR := hide (printable_calls h)
  obtain ⟨a, c, rfl, hlc, hcm, _, _⟩ := id h
  obtain ⟨q, hq⟩ : ∃ q, q = printR l := ⟨_, rfl⟩
  rw [← hq]
  cases hok : okL l with
  | false =>
    have HQ : Hid (q = (noText, 1)) := by show _ = _; rw [hq]; unfold printR; rw [if_pos hok]
    rw [hok] at HPR
    clear hok hq
    go_enter Try.func9, Try.ntmps9
    go_wp2_with fail
    refine (unhide HPR).mono ?_
    rintro e w1 ⟨rfl, hb1⟩
    go_wp2
    go_ret2
    exact ⟨by rw [HQ.out]; rfl, hb1⟩
  | true =>
    have HQ : Hid (q = if 65536 < (printL l false).length then (noText, 2) else (bs (printL l false), 0)) := by show _ = _; rw [hq]; unfold printR; rw [if_neg (by rw [hok]; decide)]
    have HOK := hide (okL_iff.1 hok).1
    rw [hok] at HPR
    clear hok hq
    have HT := hide h
    clear h
    generalize hn : l.length = n at *
    have HN := hide hn
    clear hn
    go_enter Try.func9, Try.ntmps9
    go_wp2_with fail
    refine (unhide HPR).mono ?_
    rintro e w1 ⟨rfl, hb1⟩
    have HT1 := hide (HT.out.below hb1)
    have HB0 := hide (bd_new w1)
    have hbn1 := (Below.refl w1.heap.size w1).alloc (Nat.le_refl _) (.cells #[.pointer none, .slice none 0 0] 52)
    have HWB : Hid (∀ (W : World) (l : List UInt8), Bd W w1.heap.size w1.heap.size l → w1.heap.size ≤ W.heap.size → l.length ≤ 1000000000000 → Calls Try.prog 24 #[.pointer (some ⟨w1.heap.size, 0, none⟩), .int .u8 32] W fun e w' => e = .returned .nilIface ∧ Bd w' w1.heap.size w1.heap.size (l ++ [32]) ∧ Below w1.heap.size W w' ∧ Oth w1.heap.size W w') := fun W l h1 h2 h3 => bd_byte h1 h2 h3 32
    have HWS : Hid (∀ (W : World) (l : List UInt8) (t : ByteArray), Bd W w1.heap.size w1.heap.size l → w1.heap.size ≤ W.heap.size → l.length + t.size ≤ 1000000000000 → Calls Try.prog 25 #[.pointer (some ⟨w1.heap.size, 0, none⟩), .string t] W fun e w' => e = .returned (.tuple #[.int .i64 t.size, .nilIface]) ∧ Bd w' w1.heap.size w1.heap.size (l ++ t.data.toList) ∧ Below w1.heap.size W w' ∧ Oth w1.heap.size W w') := fun W l t h1 h2 h3 => bd_str h1 h2 t h3
    have HST : Hid (∀ (W : World) (l : List UInt8), Bd W w1.heap.size w1.heap.size l → w1.heap.size ≤ W.heap.size → Calls Try.prog 28 #[.pointer (some ⟨w1.heap.size, 0, none⟩)] W fun e w' => e = .returned (.string (bs l)) ∧ Below w1.heap.size W w') := fun W l h1 h2 => bd_string h1 h2
    have HLE : Hid (∀ (W : World) (l : List UInt8), Bd W w1.heap.size w1.heap.size l → Calls Try.prog 27 #[.pointer (some ⟨w1.heap.size, 0, none⟩)] W fun e w' => e = .returned (.int .i64 (l.length : Int)) ∧ w' = W) := fun W l h1 => bd_len h1
    clear HPR HT
    go_wp2_with fail
    go_loopw [12] (fun iv wq => ∃ i : Nat, i ≤ n ∧ iv = .int .i64 (i : Int) ∧ Hid (Bd wq w1.heap.size w1.heap.size (pAcc l i) ∧ (pAcc l i).length ≤ 65536) ∧ Below w1.heap.size w1 wq) (fun iv _ => n - (intOf iv).toNat)
    case atStart => exact ⟨0, by omega, rfl, ⟨HB0.out, by simp [pAcc, printL]⟩, hbn1⟩
    case round =>
      rename World => w3
      obtain ⟨i, hin, rfl, HB, hbw⟩ := hrel
      clear HB0 hbn1
      by_cases hlt : i < n
      · have hI : (i : Int) < (n : Int) := by omega
        obtain ⟨b, o, rfl, x0, x1, x2, x3⟩ := HT1.out.at hbw (i := i) (by rw [HN.out]; exact hlt)
        have HSTP := hide (pAcc_step (l := l) (i := i) (by rw [HN.out]; exact hlt))
        have HOX := hide (HOK.out (l.getD i .nul) (by rw [List.getD_eq_getElem?_getD, List.getElem?_eq_getElem (by rw [HN.out]; exact hlt)]; exact List.getElem_mem _))
        have HSEP : Hid (sepB l i = (decide (0 < i) && ap (l.getD (i - 1) .nul).kind && ap (l.getD i .nul).kind)) := rfl
        generalize hsp : sepB l i = sp at *
        generalize l.getD i .nul = x at *
        clear hsp
        obtain ⟨xk, xt, xl, xp⟩ := x
        simp only at x0 x1 x2 x3
        have hox := of_decide_eq_true HOX.out
        simp only at hox
        obtain ⟨hx1, hx7, hxw⟩ := hox
        have hxs : xk = 1 → xt.size ≤ 255 := fun e => by have := of_decide_eq_true (hxw e); exact this.2.1
        have hbn4 := (Below.refl w3.heap.size w3).alloc (Nat.le_refl _) (.cells #[.int .i64 xk, .string xt, .int .i64 xl, .int .i64 xp] 26)
        have HA4 := hide (Arr.new w3 [.int .i64 xk, .string xt, .int .i64 xl, .int .i64 xp] 26)
        have HB4 := hide (HB.out.1.below hbn4)
        have hb14 := hbw.trans (hbn4.mono hbw.size)
        have HB0 := hide HB.out
        have c0 := HA4.out.cell 0
        have c1 := HA4.out.cell 1
        simp only [List.getElem?_cons_zero, List.getElem?_cons_succ] at c0 c1
        have HGB : Hid (w3.heap.size ≠ w1.heap.size) := by have := HB.out.1.lt; show _ ≠ _; omega
        by_cases hbigt : xk = 2 ∧ 65536 < xt.size
        · obtain ⟨e2, hbt⟩ := hbigt
          subst e2
          have jt : (65536 : Int) < (xt.size : Int) := by omega
          have HV : Hid (q = (noText, 2)) := by
            show _ = _
            have h1 := writL_ge hbt
            have h2 := pAcc_le l (i + 1)
            rw [HSTP.out] at h2
            rw [List.length_append] at h2
            rw [HQ.out, if_pos (by simp only at h2; omega)]
          clear hbt
          go_wp2
          try rw [Exit.noGoto_ret]
          go_ret2
          exact ⟨by rw [HV.out]; rfl, hb1.trans (hb14.mono hb1.size)⟩
        · have hx2 : xk = 2 → xt.size ≤ 65536 := fun e => by omega
          have HG2 : Hid (∃ bb : Bool, (xk == 2) = bb ∧ (bb = true → ¬ (65536 : Int) < (xt.size : Int))) := ⟨_, rfl, fun e => by have := hx2 (by simpa using e); omega⟩
          clear hbigt
          obtain ⟨bb, hb2k, hb2s⟩ := HG2.out
          clear HG2
          have HAP := hide (fun (y : Int) (W : World) => apart_calls y W)
          cases bb with
          | false =>
            clear hb2s
            by_cases h0 : i = 0
            · have hsp : sp = false := by rw [HSEP.out, h0]; rfl
              have j0 : ¬ (0 : Int) < (i : Int) := by omega
              clear h0
              obtain ⟨t0, t1, t2, t3⟩ : _ ∧ _ ∧ _ ∧ _ := ⟨HA4.out.cell 0, HA4.out.cell 1, HA4.out.cell 2, HA4.out.cell 3⟩
              simp only [List.getElem?_cons_zero, List.getElem?_cons_succ] at t0 t1 t2 t3
              have HWR := hide (written_calls ⟨xk, xt, xl, xp⟩ (fun e => by have := hx2 e; show xt.size ≤ _; omega) (w3.alloc (.cells #[.int .i64 xk, .string xt, .int .i64 xl, .int .i64 xp] 26)))
              unfold tkC at HWR
              simp only at HWR
              have HE : Hid (pAcc l (i + 1) = (pAcc l i) ++ writL xk xt) := by
                show _ = _
                rw [HSTP.out, hsp]
                simp
              have hwl := writL_le hxs hx2
              have HWL := hide hwl
              have HPL := hide HB0.out.2
              clear HSTP HSEP hwl
              go_wp2_with fail
              refine (unhide HWR).mono ?_
              rintro e w6 ⟨rfl, hb6⟩
              have HB6 := hide (HB4.out.below hb6)
              have hb16 := hb14.trans (hb6.mono hb14.size)
              have HS6 := hide (unhide HWS w6 _ (bs (writL xk xt)) HB6.out hb16.size (by have := HPL.out; have := HWL.out; rw [bs_size]; simp; omega))
              rw [bs_L, ← HE.out] at HS6
              generalize bs (writL xk xt) = wl at *
              clear HWR HB6 hb6
              go_wp2_with fail
              refine (unhide HS6).mono ?_
              rintro e w7 ⟨rfl, hB7, hb7, _⟩
              have HB7 := hide hB7
              have hb17 := hb16.trans hb7
              have HL7 := hide (unhide HLE w7 _ HB7.out)
              clear hB7 hb7 HS6
              go_wp2_with fail
              refine (unhide HL7).mono ?_
              rintro e w8 ⟨rfl, hw8⟩
              obtain rfl := hw8.symm
              clear hw8
              by_cases hbig : 65536 < (pAcc l (i + 1)).length
              · have HV : Hid (q = (noText, 2)) := by
                  show _ = _
                  rw [HQ.out, if_pos (Nat.lt_of_lt_of_le hbig (pAcc_le l (i + 1)))]
                have jb : (65536 : Int) < ((pAcc l (i + 1)).length : Int) := by omega
                generalize (pAcc l (i + 1)).length = pl at *
                clear hbig
                go_wp2
                try rw [Exit.noGoto_ret]
                go_ret2
                exact ⟨by rw [HV.out]; rfl, hb1.trans (hb17.mono hb1.size)⟩
              · have jb : ¬ (65536 : Int) < ((pAcc l (i + 1)).length : Int) := by omega
                have HLL : Hid ((pAcc l (i + 1)).length ≤ 65536) := by show _ ≤ _; omega
                generalize hpl : (pAcc l (i + 1)).length = pl at *
                have HPP := hide hpl
                clear hbig hpl
                go_wp2
                go_roundw
                case rel => exact ⟨i + 1, by omega, by go_num, ⟨HB7.out, by rw [HPP.out]; exact HLL.out⟩, hb17⟩
                case measure => simp [intOf]; omega
            · have j0 : (0 : Int) < (i : Int) := by omega
              obtain ⟨b', o', hba, y0, _, _, _⟩ := HT1.out.at hb14 (i := i - 1) (by rw [HN.out]; omega)
              injection hba with hba
              injection hba with e1 e2 _
              subst e1 e2
              have hwr : IntKind.i64.wrap ((i : Int) - 1) = ((i - 1 : Nat) : Int) := by rw [IntKind.wrap_i64]; omega
              have jm : ((i - 1 : Nat) : Int) < (n : Int) := by omega
              have HSP2 : Hid (sp = (ap (l.getD (i - 1) .nul).kind && ap xk)) := by show _ = _; rw [HSEP.out, decide_eq_true (by omega)]; rfl
              generalize (l.getD (i - 1) .nul).kind = yk at *
              generalize i - 1 = im at *
              have HAY := hide (fun W => unhide HAP yk W)
              have HAX := hide (fun W => unhide HAP xk W)
              cases hay : ap yk with
              | false =>
                have hsp : sp = false := by rw [HSP2.out, hay]; rfl
                rw [hay] at HAY
                clear hay HSP2 HAX h0
                go_wp2_with fail
                refine (unhide HAY _).mono ?_
                rintro e w5 ⟨rfl, hw5⟩
                obtain rfl := hw5.symm
                clear hw5
                clear HAY
                obtain ⟨t0, t1, t2, t3⟩ : _ ∧ _ ∧ _ ∧ _ := ⟨HA4.out.cell 0, HA4.out.cell 1, HA4.out.cell 2, HA4.out.cell 3⟩
                simp only [List.getElem?_cons_zero, List.getElem?_cons_succ] at t0 t1 t2 t3
                have HWR := hide (written_calls ⟨xk, xt, xl, xp⟩ (fun e => by have := hx2 e; show xt.size ≤ _; omega) (w3.alloc (.cells #[.int .i64 xk, .string xt, .int .i64 xl, .int .i64 xp] 26)))
                unfold tkC at HWR
                simp only at HWR
                have HE : Hid (pAcc l (i + 1) = (pAcc l i) ++ writL xk xt) := by
                  show _ = _
                  rw [HSTP.out, hsp]
                  simp
                have hwl := writL_le hxs hx2
                have HWL := hide hwl
                have HPL := hide HB0.out.2
                clear HSTP HSEP hwl
                go_wp2_with fail
                refine (unhide HWR).mono ?_
                rintro e w6 ⟨rfl, hb6⟩
                have HB6 := hide (HB4.out.below hb6)
                have hb16 := hb14.trans (hb6.mono hb14.size)
                have HS6 := hide (unhide HWS w6 _ (bs (writL xk xt)) HB6.out hb16.size (by have := HPL.out; have := HWL.out; rw [bs_size]; simp; omega))
                rw [bs_L, ← HE.out] at HS6
                generalize bs (writL xk xt) = wl at *
                clear HWR HB6 hb6
                go_wp2_with fail
                refine (unhide HS6).mono ?_
                rintro e w7 ⟨rfl, hB7, hb7, _⟩
                have HB7 := hide hB7
                have hb17 := hb16.trans hb7
                have HL7 := hide (unhide HLE w7 _ HB7.out)
                clear hB7 hb7 HS6
                go_wp2_with fail
                refine (unhide HL7).mono ?_
                rintro e w8 ⟨rfl, hw8⟩
                obtain rfl := hw8.symm
                clear hw8
                by_cases hbig : 65536 < (pAcc l (i + 1)).length
                · have HV : Hid (q = (noText, 2)) := by
                    show _ = _
                    rw [HQ.out, if_pos (Nat.lt_of_lt_of_le hbig (pAcc_le l (i + 1)))]
                  have jb : (65536 : Int) < ((pAcc l (i + 1)).length : Int) := by omega
                  generalize (pAcc l (i + 1)).length = pl at *
                  clear hbig
                  go_wp2
                  try rw [Exit.noGoto_ret]
                  go_ret2
                  exact ⟨by rw [HV.out]; rfl, hb1.trans (hb17.mono hb1.size)⟩
                · have jb : ¬ (65536 : Int) < ((pAcc l (i + 1)).length : Int) := by omega
                  have HLL : Hid ((pAcc l (i + 1)).length ≤ 65536) := by show _ ≤ _; omega
                  generalize hpl : (pAcc l (i + 1)).length = pl at *
                  have HPP := hide hpl
                  clear hbig hpl
                  go_wp2
                  go_roundw
                  case rel => exact ⟨i + 1, by omega, by go_num, ⟨HB7.out, by rw [HPP.out]; exact HLL.out⟩, hb17⟩
                  case measure => simp [intOf]; omega
              | true =>
                rw [hay] at HAY
                cases hax : ap xk with
                | false =>
                  have hsp : sp = false := by rw [HSP2.out, hay, hax]; rfl
                  rw [hax] at HAX
                  clear hay hax HSP2 h0
                  go_wp2_with fail
                  refine (unhide HAY _).mono ?_
                  rintro e w5 ⟨rfl, hw5⟩
                  obtain rfl := hw5.symm
                  clear hw5
                  go_wp2_with fail
                  refine (unhide HAX _).mono ?_
                  rintro e w5 ⟨rfl, hw5⟩
                  obtain rfl := hw5.symm
                  clear hw5
                  obtain ⟨t0, t1, t2, t3⟩ : _ ∧ _ ∧ _ ∧ _ := ⟨HA4.out.cell 0, HA4.out.cell 1, HA4.out.cell 2, HA4.out.cell 3⟩
                  simp only [List.getElem?_cons_zero, List.getElem?_cons_succ] at t0 t1 t2 t3
                  have HWR := hide (written_calls ⟨xk, xt, xl, xp⟩ (fun e => by have := hx2 e; show xt.size ≤ _; omega) (w3.alloc (.cells #[.int .i64 xk, .string xt, .int .i64 xl, .int .i64 xp] 26)))
                  unfold tkC at HWR
                  simp only at HWR
                  have HE : Hid (pAcc l (i + 1) = (pAcc l i) ++ writL xk xt) := by
                    show _ = _
                    rw [HSTP.out, hsp]
                    simp
                  have hwl := writL_le hxs hx2
                  have HWL := hide hwl
                  have HPL := hide HB0.out.2
                  clear HSTP HSEP hwl
                  go_wp2_with fail
                  refine (unhide HWR).mono ?_
                  rintro e w6 ⟨rfl, hb6⟩
                  have HB6 := hide (HB4.out.below hb6)
                  have hb16 := hb14.trans (hb6.mono hb14.size)
                  have HS6 := hide (unhide HWS w6 _ (bs (writL xk xt)) HB6.out hb16.size (by have := HPL.out; have := HWL.out; rw [bs_size]; simp; omega))
                  rw [bs_L, ← HE.out] at HS6
                  generalize bs (writL xk xt) = wl at *
                  clear HWR HB6 hb6
                  go_wp2_with fail
                  refine (unhide HS6).mono ?_
                  rintro e w7 ⟨rfl, hB7, hb7, _⟩
                  have HB7 := hide hB7
                  have hb17 := hb16.trans hb7
                  have HL7 := hide (unhide HLE w7 _ HB7.out)
                  clear hB7 hb7 HS6
                  go_wp2_with fail
                  refine (unhide HL7).mono ?_
                  rintro e w8 ⟨rfl, hw8⟩
                  obtain rfl := hw8.symm
                  clear hw8
                  by_cases hbig : 65536 < (pAcc l (i + 1)).length
                  · have HV : Hid (q = (noText, 2)) := by
                      show _ = _
                      rw [HQ.out, if_pos (Nat.lt_of_lt_of_le hbig (pAcc_le l (i + 1)))]
                    have jb : (65536 : Int) < ((pAcc l (i + 1)).length : Int) := by omega
                    generalize (pAcc l (i + 1)).length = pl at *
                    clear hbig
                    go_wp2
                    try rw [Exit.noGoto_ret]
                    go_ret2
                    exact ⟨by rw [HV.out]; rfl, hb1.trans (hb17.mono hb1.size)⟩
                  · have jb : ¬ (65536 : Int) < ((pAcc l (i + 1)).length : Int) := by omega
                    have HLL : Hid ((pAcc l (i + 1)).length ≤ 65536) := by show _ ≤ _; omega
                    generalize hpl : (pAcc l (i + 1)).length = pl at *
                    have HPP := hide hpl
                    clear hbig hpl
                    go_wp2
                    go_roundw
                    case rel => exact ⟨i + 1, by omega, by go_num, ⟨HB7.out, by rw [HPP.out]; exact HLL.out⟩, hb17⟩
                    case measure => simp [intOf]; omega
                | true =>
                  have hsp : sp = true := by rw [HSP2.out, hay, hax]; rfl
                  rw [hax] at HAX
                  clear hay hax HSP2 h0
                  have HW4 := hide (unhide HWB _ (pAcc l i) HB4.out hb14.size (by have := HB0.out.2; omega))
                  go_wp2_with fail
                  refine (unhide HAY _).mono ?_
                  rintro e w5 ⟨rfl, hw5⟩
                  obtain rfl := hw5.symm
                  clear hw5
                  go_wp2_with fail
                  refine (unhide HAX _).mono ?_
                  rintro e w5 ⟨rfl, hw5⟩
                  obtain rfl := hw5.symm
                  clear hw5
                  go_wp2_with fail
                  refine (unhide HW4).mono ?_
                  rintro e w5 ⟨rfl, hB5, hb5, ho5⟩
                  have HA5 := hide (HA4.out.oth ho5 HGB.out (by decide))
                  have HB5 := hide hB5
                  have hb15 := hb14.trans hb5
                  clear hB5 hb5 ho5 HW4
                  obtain ⟨t0, t1, t2, t3⟩ : _ ∧ _ ∧ _ ∧ _ := ⟨HA5.out.cell 0, HA5.out.cell 1, HA5.out.cell 2, HA5.out.cell 3⟩
                  simp only [List.getElem?_cons_zero, List.getElem?_cons_succ] at t0 t1 t2 t3
                  have HWR := hide (written_calls ⟨xk, xt, xl, xp⟩ (fun e => by have := hx2 e; show xt.size ≤ _; omega) w5)
                  unfold tkC at HWR
                  simp only at HWR
                  have HE : Hid (pAcc l (i + 1) = (pAcc l i ++ [32]) ++ writL xk xt) := by
                    show _ = _
                    rw [HSTP.out, hsp]
                    rfl
                  have hwl := writL_le hxs hx2
                  have HWL := hide hwl
                  have HPL := hide HB0.out.2
                  clear HSTP HSEP hwl
                  go_wp2_with fail
                  refine (unhide HWR).mono ?_
                  rintro e w6 ⟨rfl, hb6⟩
                  have HB6 := hide (HB5.out.below hb6)
                  have hb16 := hb15.trans (hb6.mono hb15.size)
                  have HS6 := hide (unhide HWS w6 _ (bs (writL xk xt)) HB6.out hb16.size (by have := HPL.out; have := HWL.out; rw [bs_size]; simp; omega))
                  rw [bs_L, ← HE.out] at HS6
                  generalize bs (writL xk xt) = wl at *
                  clear HWR HB6 hb6
                  go_wp2_with fail
                  refine (unhide HS6).mono ?_
                  rintro e w7 ⟨rfl, hB7, hb7, _⟩
                  have HB7 := hide hB7
                  have hb17 := hb16.trans hb7
                  have HL7 := hide (unhide HLE w7 _ HB7.out)
                  clear hB7 hb7 HS6
                  go_wp2_with fail
                  refine (unhide HL7).mono ?_
                  rintro e w8 ⟨rfl, hw8⟩
                  obtain rfl := hw8.symm
                  clear hw8
                  by_cases hbig : 65536 < (pAcc l (i + 1)).length
                  · have HV : Hid (q = (noText, 2)) := by
                      show _ = _
                      rw [HQ.out, if_pos (Nat.lt_of_lt_of_le hbig (pAcc_le l (i + 1)))]
                    have jb : (65536 : Int) < ((pAcc l (i + 1)).length : Int) := by omega
                    generalize (pAcc l (i + 1)).length = pl at *
                    clear hbig
                    go_wp2
                    try rw [Exit.noGoto_ret]
                    go_ret2
                    exact ⟨by rw [HV.out]; rfl, hb1.trans (hb17.mono hb1.size)⟩
                  · have jb : ¬ (65536 : Int) < ((pAcc l (i + 1)).length : Int) := by omega
                    have HLL : Hid ((pAcc l (i + 1)).length ≤ 65536) := by show _ ≤ _; omega
                    generalize hpl : (pAcc l (i + 1)).length = pl at *
                    have HPP := hide hpl
                    clear hbig hpl
                    go_wp2
                    go_roundw
                    case rel => exact ⟨i + 1, by omega, by go_num, ⟨HB7.out, by rw [HPP.out]; exact HLL.out⟩, hb17⟩
                    case measure => simp [intOf]; omega
          | true =>
            have jt := hb2s rfl
            clear hb2s
            by_cases h0 : i = 0
            · have hsp : sp = false := by rw [HSEP.out, h0]; rfl
              have j0 : ¬ (0 : Int) < (i : Int) := by omega
              clear h0
              obtain ⟨t0, t1, t2, t3⟩ : _ ∧ _ ∧ _ ∧ _ := ⟨HA4.out.cell 0, HA4.out.cell 1, HA4.out.cell 2, HA4.out.cell 3⟩
              simp only [List.getElem?_cons_zero, List.getElem?_cons_succ] at t0 t1 t2 t3
              have HWR := hide (written_calls ⟨xk, xt, xl, xp⟩ (fun e => by have := hx2 e; show xt.size ≤ _; omega) (w3.alloc (.cells #[.int .i64 xk, .string xt, .int .i64 xl, .int .i64 xp] 26)))
              unfold tkC at HWR
              simp only at HWR
              have HE : Hid (pAcc l (i + 1) = (pAcc l i) ++ writL xk xt) := by
                show _ = _
                rw [HSTP.out, hsp]
                simp
              have hwl := writL_le hxs hx2
              have HWL := hide hwl
              have HPL := hide HB0.out.2
              clear HSTP HSEP hwl
              go_wp2_with fail
              refine (unhide HWR).mono ?_
              rintro e w6 ⟨rfl, hb6⟩
              have HB6 := hide (HB4.out.below hb6)
              have hb16 := hb14.trans (hb6.mono hb14.size)
              have HS6 := hide (unhide HWS w6 _ (bs (writL xk xt)) HB6.out hb16.size (by have := HPL.out; have := HWL.out; rw [bs_size]; simp; omega))
              rw [bs_L, ← HE.out] at HS6
              generalize bs (writL xk xt) = wl at *
              clear HWR HB6 hb6
              go_wp2_with fail
              refine (unhide HS6).mono ?_
              rintro e w7 ⟨rfl, hB7, hb7, _⟩
              have HB7 := hide hB7
              have hb17 := hb16.trans hb7
              have HL7 := hide (unhide HLE w7 _ HB7.out)
              clear hB7 hb7 HS6
              go_wp2_with fail
              refine (unhide HL7).mono ?_
              rintro e w8 ⟨rfl, hw8⟩
              obtain rfl := hw8.symm
              clear hw8
              by_cases hbig : 65536 < (pAcc l (i + 1)).length
              · have HV : Hid (q = (noText, 2)) := by
                  show _ = _
                  rw [HQ.out, if_pos (Nat.lt_of_lt_of_le hbig (pAcc_le l (i + 1)))]
                have jb : (65536 : Int) < ((pAcc l (i + 1)).length : Int) := by omega
                generalize (pAcc l (i + 1)).length = pl at *
                clear hbig
                go_wp2
                try rw [Exit.noGoto_ret]
                go_ret2
                exact ⟨by rw [HV.out]; rfl, hb1.trans (hb17.mono hb1.size)⟩
              · have jb : ¬ (65536 : Int) < ((pAcc l (i + 1)).length : Int) := by omega
                have HLL : Hid ((pAcc l (i + 1)).length ≤ 65536) := by show _ ≤ _; omega
                generalize hpl : (pAcc l (i + 1)).length = pl at *
                have HPP := hide hpl
                clear hbig hpl
                go_wp2
                go_roundw
                case rel => exact ⟨i + 1, by omega, by go_num, ⟨HB7.out, by rw [HPP.out]; exact HLL.out⟩, hb17⟩
                case measure => simp [intOf]; omega
            · have j0 : (0 : Int) < (i : Int) := by omega
              obtain ⟨b', o', hba, y0, _, _, _⟩ := HT1.out.at hb14 (i := i - 1) (by rw [HN.out]; omega)
              injection hba with hba
              injection hba with e1 e2 _
              subst e1 e2
              have hwr : IntKind.i64.wrap ((i : Int) - 1) = ((i - 1 : Nat) : Int) := by rw [IntKind.wrap_i64]; omega
              have jm : ((i - 1 : Nat) : Int) < (n : Int) := by omega
              have HSP2 : Hid (sp = (ap (l.getD (i - 1) .nul).kind && ap xk)) := by show _ = _; rw [HSEP.out, decide_eq_true (by omega)]; rfl
              generalize (l.getD (i - 1) .nul).kind = yk at *
              generalize i - 1 = im at *
              have HAY := hide (fun W => unhide HAP yk W)
              have HAX := hide (fun W => unhide HAP xk W)
              cases hay : ap yk with
              | false =>
                have hsp : sp = false := by rw [HSP2.out, hay]; rfl
                rw [hay] at HAY
                clear hay HSP2 HAX h0
                go_wp2_with fail
                refine (unhide HAY _).mono ?_
                rintro e w5 ⟨rfl, hw5⟩
                obtain rfl := hw5.symm
                clear hw5
                clear HAY
                obtain ⟨t0, t1, t2, t3⟩ : _ ∧ _ ∧ _ ∧ _ := ⟨HA4.out.cell 0, HA4.out.cell 1, HA4.out.cell 2, HA4.out.cell 3⟩
                simp only [List.getElem?_cons_zero, List.getElem?_cons_succ] at t0 t1 t2 t3
                have HWR := hide (written_calls ⟨xk, xt, xl, xp⟩ (fun e => by have := hx2 e; show xt.size ≤ _; omega) (w3.alloc (.cells #[.int .i64 xk, .string xt, .int .i64 xl, .int .i64 xp] 26)))
                unfold tkC at HWR
                simp only at HWR
                have HE : Hid (pAcc l (i + 1) = (pAcc l i) ++ writL xk xt) := by
                  show _ = _
                  rw [HSTP.out, hsp]
                  simp
                have hwl := writL_le hxs hx2
                have HWL := hide hwl
                have HPL := hide HB0.out.2
                clear HSTP HSEP hwl
                go_wp2_with fail
                refine (unhide HWR).mono ?_
                rintro e w6 ⟨rfl, hb6⟩
                have HB6 := hide (HB4.out.below hb6)
                have hb16 := hb14.trans (hb6.mono hb14.size)
                have HS6 := hide (unhide HWS w6 _ (bs (writL xk xt)) HB6.out hb16.size (by have := HPL.out; have := HWL.out; rw [bs_size]; simp; omega))
                rw [bs_L, ← HE.out] at HS6
                generalize bs (writL xk xt) = wl at *
                clear HWR HB6 hb6
                go_wp2_with fail
                refine (unhide HS6).mono ?_
                rintro e w7 ⟨rfl, hB7, hb7, _⟩
                have HB7 := hide hB7
                have hb17 := hb16.trans hb7
                have HL7 := hide (unhide HLE w7 _ HB7.out)
                clear hB7 hb7 HS6
                go_wp2_with fail
                refine (unhide HL7).mono ?_
                rintro e w8 ⟨rfl, hw8⟩
                obtain rfl := hw8.symm
                clear hw8
                by_cases hbig : 65536 < (pAcc l (i + 1)).length
                · have HV : Hid (q = (noText, 2)) := by
                    show _ = _
                    rw [HQ.out, if_pos (Nat.lt_of_lt_of_le hbig (pAcc_le l (i + 1)))]
                  have jb : (65536 : Int) < ((pAcc l (i + 1)).length : Int) := by omega
                  generalize (pAcc l (i + 1)).length = pl at *
                  clear hbig
                  go_wp2
                  try rw [Exit.noGoto_ret]
                  go_ret2
                  exact ⟨by rw [HV.out]; rfl, hb1.trans (hb17.mono hb1.size)⟩
                · have jb : ¬ (65536 : Int) < ((pAcc l (i + 1)).length : Int) := by omega
                  have HLL : Hid ((pAcc l (i + 1)).length ≤ 65536) := by show _ ≤ _; omega
                  generalize hpl : (pAcc l (i + 1)).length = pl at *
                  have HPP := hide hpl
                  clear hbig hpl
                  go_wp2
                  go_roundw
                  case rel => exact ⟨i + 1, by omega, by go_num, ⟨HB7.out, by rw [HPP.out]; exact HLL.out⟩, hb17⟩
                  case measure => simp [intOf]; omega
              | true =>
                rw [hay] at HAY
                cases hax : ap xk with
                | false =>
                  have hsp : sp = false := by rw [HSP2.out, hay, hax]; rfl
                  rw [hax] at HAX
                  clear hay hax HSP2 h0
                  go_wp2_with fail
                  refine (unhide HAY _).mono ?_
                  rintro e w5 ⟨rfl, hw5⟩
                  obtain rfl := hw5.symm
                  clear hw5
                  go_wp2_with fail
                  refine (unhide HAX _).mono ?_
                  rintro e w5 ⟨rfl, hw5⟩
                  obtain rfl := hw5.symm
                  clear hw5
                  obtain ⟨t0, t1, t2, t3⟩ : _ ∧ _ ∧ _ ∧ _ := ⟨HA4.out.cell 0, HA4.out.cell 1, HA4.out.cell 2, HA4.out.cell 3⟩
                  simp only [List.getElem?_cons_zero, List.getElem?_cons_succ] at t0 t1 t2 t3
                  have HWR := hide (written_calls ⟨xk, xt, xl, xp⟩ (fun e => by have := hx2 e; show xt.size ≤ _; omega) (w3.alloc (.cells #[.int .i64 xk, .string xt, .int .i64 xl, .int .i64 xp] 26)))
                  unfold tkC at HWR
                  simp only at HWR
                  have HE : Hid (pAcc l (i + 1) = (pAcc l i) ++ writL xk xt) := by
                    show _ = _
                    rw [HSTP.out, hsp]
                    simp
                  have hwl := writL_le hxs hx2
                  have HWL := hide hwl
                  have HPL := hide HB0.out.2
                  clear HSTP HSEP hwl
                  go_wp2_with fail
                  refine (unhide HWR).mono ?_
                  rintro e w6 ⟨rfl, hb6⟩
                  have HB6 := hide (HB4.out.below hb6)
                  have hb16 := hb14.trans (hb6.mono hb14.size)
                  have HS6 := hide (unhide HWS w6 _ (bs (writL xk xt)) HB6.out hb16.size (by have := HPL.out; have := HWL.out; rw [bs_size]; simp; omega))
                  rw [bs_L, ← HE.out] at HS6
                  generalize bs (writL xk xt) = wl at *
                  clear HWR HB6 hb6
                  go_wp2_with fail
                  refine (unhide HS6).mono ?_
                  rintro e w7 ⟨rfl, hB7, hb7, _⟩
                  have HB7 := hide hB7
                  have hb17 := hb16.trans hb7
                  have HL7 := hide (unhide HLE w7 _ HB7.out)
                  clear hB7 hb7 HS6
                  go_wp2_with fail
                  refine (unhide HL7).mono ?_
                  rintro e w8 ⟨rfl, hw8⟩
                  obtain rfl := hw8.symm
                  clear hw8
                  by_cases hbig : 65536 < (pAcc l (i + 1)).length
                  · have HV : Hid (q = (noText, 2)) := by
                      show _ = _
                      rw [HQ.out, if_pos (Nat.lt_of_lt_of_le hbig (pAcc_le l (i + 1)))]
                    have jb : (65536 : Int) < ((pAcc l (i + 1)).length : Int) := by omega
                    generalize (pAcc l (i + 1)).length = pl at *
                    clear hbig
                    go_wp2
                    try rw [Exit.noGoto_ret]
                    go_ret2
                    exact ⟨by rw [HV.out]; rfl, hb1.trans (hb17.mono hb1.size)⟩
                  · have jb : ¬ (65536 : Int) < ((pAcc l (i + 1)).length : Int) := by omega
                    have HLL : Hid ((pAcc l (i + 1)).length ≤ 65536) := by show _ ≤ _; omega
                    generalize hpl : (pAcc l (i + 1)).length = pl at *
                    have HPP := hide hpl
                    clear hbig hpl
                    go_wp2
                    go_roundw
                    case rel => exact ⟨i + 1, by omega, by go_num, ⟨HB7.out, by rw [HPP.out]; exact HLL.out⟩, hb17⟩
                    case measure => simp [intOf]; omega
                | true =>
                  have hsp : sp = true := by rw [HSP2.out, hay, hax]; rfl
                  rw [hax] at HAX
                  clear hay hax HSP2 h0
                  have HW4 := hide (unhide HWB _ (pAcc l i) HB4.out hb14.size (by have := HB0.out.2; omega))
                  go_wp2_with fail
                  refine (unhide HAY _).mono ?_
                  rintro e w5 ⟨rfl, hw5⟩
                  obtain rfl := hw5.symm
                  clear hw5
                  go_wp2_with fail
                  refine (unhide HAX _).mono ?_
                  rintro e w5 ⟨rfl, hw5⟩
                  obtain rfl := hw5.symm
                  clear hw5
                  go_wp2_with fail
                  refine (unhide HW4).mono ?_
                  rintro e w5 ⟨rfl, hB5, hb5, ho5⟩
                  have HA5 := hide (HA4.out.oth ho5 HGB.out (by decide))
                  have HB5 := hide hB5
                  have hb15 := hb14.trans hb5
                  clear hB5 hb5 ho5 HW4
                  obtain ⟨t0, t1, t2, t3⟩ : _ ∧ _ ∧ _ ∧ _ := ⟨HA5.out.cell 0, HA5.out.cell 1, HA5.out.cell 2, HA5.out.cell 3⟩
                  simp only [List.getElem?_cons_zero, List.getElem?_cons_succ] at t0 t1 t2 t3
                  have HWR := hide (written_calls ⟨xk, xt, xl, xp⟩ (fun e => by have := hx2 e; show xt.size ≤ _; omega) w5)
                  unfold tkC at HWR
                  simp only at HWR
                  have HE : Hid (pAcc l (i + 1) = (pAcc l i ++ [32]) ++ writL xk xt) := by
                    show _ = _
                    rw [HSTP.out, hsp]
                    rfl
                  have hwl := writL_le hxs hx2
                  have HWL := hide hwl
                  have HPL := hide HB0.out.2
                  clear HSTP HSEP hwl
                  go_wp2_with fail
                  refine (unhide HWR).mono ?_
                  rintro e w6 ⟨rfl, hb6⟩
                  have HB6 := hide (HB5.out.below hb6)
                  have hb16 := hb15.trans (hb6.mono hb15.size)
                  have HS6 := hide (unhide HWS w6 _ (bs (writL xk xt)) HB6.out hb16.size (by have := HPL.out; have := HWL.out; rw [bs_size]; simp; omega))
                  rw [bs_L, ← HE.out] at HS6
                  generalize bs (writL xk xt) = wl at *
                  clear HWR HB6 hb6
                  go_wp2_with fail
                  refine (unhide HS6).mono ?_
                  rintro e w7 ⟨rfl, hB7, hb7, _⟩
                  have HB7 := hide hB7
                  have hb17 := hb16.trans hb7
                  have HL7 := hide (unhide HLE w7 _ HB7.out)
                  clear hB7 hb7 HS6
                  go_wp2_with fail
                  refine (unhide HL7).mono ?_
                  rintro e w8 ⟨rfl, hw8⟩
                  obtain rfl := hw8.symm
                  clear hw8
                  by_cases hbig : 65536 < (pAcc l (i + 1)).length
                  · have HV : Hid (q = (noText, 2)) := by
                      show _ = _
                      rw [HQ.out, if_pos (Nat.lt_of_lt_of_le hbig (pAcc_le l (i + 1)))]
                    have jb : (65536 : Int) < ((pAcc l (i + 1)).length : Int) := by omega
                    generalize (pAcc l (i + 1)).length = pl at *
                    clear hbig
                    go_wp2
                    try rw [Exit.noGoto_ret]
                    go_ret2
                    exact ⟨by rw [HV.out]; rfl, hb1.trans (hb17.mono hb1.size)⟩
                  · have jb : ¬ (65536 : Int) < ((pAcc l (i + 1)).length : Int) := by omega
                    have HLL : Hid ((pAcc l (i + 1)).length ≤ 65536) := by show _ ≤ _; omega
                    generalize hpl : (pAcc l (i + 1)).length = pl at *
                    have HPP := hide hpl
                    clear hbig hpl
                    go_wp2
                    go_roundw
                    case rel => exact ⟨i + 1, by omega, by go_num, ⟨HB7.out, by rw [HPP.out]; exact HLL.out⟩, hb17⟩
                    case measure => simp [intOf]; omega
      · have hI : ¬ (i : Int) < (n : Int) := by omega
        have hie : i = n := by omega
        have HE : Hid (pAcc l i = printL l false) := by show _ = _; rw [hie, ← HN.out, pAcc_all]
        have HV : Hid (q = (bs (pAcc l i), 0)) := by
          show _ = _
          rw [HQ.out, ← HE.out, if_neg (by have := HB.out.2; omega)]
        have HS := hide (unhide HST w3 _ HB.out.1 hbw.size)
        clear hie
        generalize bs (pAcc l i) = pb at *
        go_wp2_with fail
        refine (unhide HS).mono ?_
        rintro e w4 ⟨rfl, hb4⟩
        have hb14 := hbw.trans hb4
        go_wp2
        try rw [Exit.noGoto_ret]
        go_ret2
        exact ⟨by rw [HV.out]; rfl, hb1.trans (hb14.mono hb1.size)⟩
end Go.Proofs.Ytcdilcjgmcamcab
