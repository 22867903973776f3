/- The document's task: a task behind other bytes. -/
import Derived.Test.YtfhfobikbfbajaaGreatDoorTAU
import Derived.Test.YtfhfobikbfbajaaGreatDoorTAV
import Derived.Test.YtfhfobikbfbajaaGreatDoorTAR
namespace Go.Proofs.YtfhfobikbfbajaaGreatDoor
open Go.RowKit Go.Maps

theorem IsS.pre {w : World} {a : Option Addr} {n c : Nat} {l : List ByteArray} (h : IsS w (.slice a n c) l) {j : Nat} (hj : j ≤ n) : IsS w (.slice a j c) (l.take j) := by
  have hn := h.lenEq
  obtain ⟨a', c', hv, h1, h2, h3, h4⟩ := h
  cases hv
  refine ⟨a, c, by rw [List.length_take]; congr 1; omega, by rw [List.length_take]; omega, h2, h3, fun hp => ?_⟩
  rw [List.length_take] at hp
  obtain ⟨b, o, ha, hc⟩ := h4 (by omega)
  refine ⟨b, o, ha, fun i hi => ?_⟩
  rw [List.length_take] at hi
  rw [hc i (by omega), List.getD_eq_getElem?_getD, List.getD_eq_getElem?_getD, List.getElem?_take_of_lt (by omega)]
theorem wrong_size {s : ByteArray} (h : wrongB s = false) : s.size ≤ 255 := by
  have := ((pl_ok (toL s)).1 (by rw [← wrong_pl]; exact h)).2.2
  rw [toL_len] at this
  exact this
theorem tsC_arr {w : World} {g : Nat} {nm : ByteArray} {bd : Int} {vi vo : Value} (h : Arr w g 25 (tsC nm bd vi vo)) : w.cell? ⟨g, 0, none⟩ = some (.string nm) ∧ w.cell? ⟨g, 1, none⟩ = some (.int .i64 bd) ∧ w.cell? ⟨g, 2, none⟩ = some vi ∧ w.cell? ⟨g, 3, none⟩ = some vo :=
  ⟨h.cell 0, h.cell 1, h.cell 2, h.cell 3⟩
theorem u8s_ts : ¬ U8S 25 := by unfold U8S; decide
theorem pwres3 {fn : Func} {p q r : Tmp} {tmps : Array Value} {w : World} (h : fn.results = #[.tmp p, .tmp q, .tmp r]) : (results fn tmps).run Tryz.prog w = .ok (.tuple #[tmps.getD p undef, tmps.getD q undef, tmps.getD r undef]) w := by
  simp [results, h]
theorem IsOu.at {W : World} {d : Nat} {os : List (ByteArray × Tm)} {v : Value} (h : IsOu W d v os) {j : Nat} (hj : j < os.length) : ∃ b o c u, v = .slice (some ⟨b, o, none⟩) os.length c ∧ W.rangeAt b (o + j * 6) (ouC (os.getD j ou0).1 (os.getD j ou0).2 u) ∧ IsTr W anyB d (os.getD j ou0).2.args u := by
  obtain ⟨a, c, rfl, _, _, _, h4⟩ := h
  obtain ⟨b, o, rfl, he⟩ := h4 (by omega)
  obtain ⟨u, h5, h6⟩ := he j hj
  exact ⟨b, o, c, u, rfl, h5, h6⟩
theorem ouC_cells {w : World} {b o : Nat} {p : ByteArray} {t : Tm} {u : Value} (h : w.rangeAt b o (ouC p t u)) : w.cell? ⟨b, o, none⟩ = some (.string p) ∧ w.rangeAt b (o + 1) (tmC t u) := by
  refine ⟨?_, fun k x hx => ?_⟩
  · have := h 0 (.string p) rfl
    rw [Nat.add_zero] at this
    exact this
  · have := h (k + 1) x (by show (Value.string p :: tmC t u)[k + 1]? = _; rw [List.getElem?_cons_succ]; exact hx)
    rw [show o + 1 + k = o + (k + 1) by omega]
    exact this
theorem inB_len (l : List ByteArray) (i : Nat) : (inB l i).length ≤ 2 + insW (l.take i) := by
  have h : ∀ m : List ByteArray, (m.flatMap (fun s => 32 :: byL s)).length = insW m := fun m => by
    induction m with
    | nil => rfl
    | cons s m ih => rw [List.flatMap_cons, List.length_append, ih]; unfold insW; rw [List.map_cons, List.sum_cons, List.length_cons, byL_len]; omega
  unfold inB
  rw [List.length_append, h]
  split
  · simp
  · have : (byL wIn).length = 2 := rfl
    omega
theorem insBy_len (l : List ByteArray) : (insBy l).length ≤ 3 + insW l := by
  have := inB_len l l.length
  rw [List.take_length] at this
  rw [inB_end, List.length_append]
  split
  · simp; omega
  · simp; omega
theorem outBy_len (o : ByteArray × Tm) : (outBy o).length = 8 + o.1.size + (tmB o.2).length := by
  unfold outBy
  have : (byL wOut).length = 3 := rfl
  simp only [List.length_append, List.length_cons, List.length_nil, byL_len] at this ⊢
  omega
theorem ousB_len : ∀ (md : List ByteArray) (os : List (ByteArray × Tm)), outsO nameB ptW clB md os = true → (os.flatMap outBy).length ≤ ousW os
  | _, [], _ => Nat.zero_le _
  | md, o :: os, h => by
    rw [outsO, Bool.and_eq_true, Bool.and_eq_true, Bool.and_eq_true] at h
    have h1 := ousB_len _ os h.2.2.2
    have h2 := tmB_len 64 o.2 h.2.2.1
    rw [List.flatMap_cons, List.length_append, outBy_len]
    show _ ≤ (((o :: os).map fun o => 20 + o.1.size + tmW o.2)).sum
    rw [List.map_cons, List.sum_cons]
    show _ ≤ _ + ousW os
    omega
/-- What a task's writing leaves. -/
def TkW (w W0 : World) (vo : Value) (t : Tsk) (md : List ByteArray) (l : List UInt8) (e : Ending) (W' : World) : Prop := ∃ vb' vo' l' md', e = .returned (.tuple #[vb', vo', .bool (tskO nameB ptW clB md t)]) ∧ Hid (Bo w W0 W' vb' vo' l' md' vo ∧ (tskO nameB ptW clB md t = true → l' = l ++ skBy t ∧ md' = md ++ outsOf t) ∧ l'.length ≤ l.length + tskW t ∧ ShS md' ∧ md'.length ≤ md.length + 8)
set_option maxRecDepth 100000 in
set_option maxHeartbeats 4000000 in
theorem dtask_calls {w W : World} {t : Tsk} {D : Nat} {v vb vo : Value} {l : List UInt8} {md : List ByteArray} (hT : IsTa w D v t) (hs : smK t) (hb : Below w.heap.size w W) (ho : Own8 W w.heap.size vb (iL l)) (hr : Row W w.heap.size 9 vo (sV md)) (hmd : ShS md) (hml : md.length ≤ 10000000) (hl : l.length + tskW t ≤ 10000000000) :
    Calls Tryz.prog 43 #[vb, v, vo] W (TkW w W vo t md l) := by
  have HBO := hide (Bo.start hb ho hr)
  obtain ⟨vi, vq, rfl, hvi, hvq⟩ := hT
  obtain ⟨nm, bd, ins, outs⟩ := t
  obtain ⟨ai, ci, rfl, hi1, hi2⟩ : ∃ a c, vi = .slice a ins.length c ∧ ins.length ≤ c ∧ c ≤ 9223372036854775807 := by obtain ⟨a, c, e, h1, h2, _⟩ := id hvi; exact ⟨a, c, e, h1, h2⟩
  obtain ⟨ao, co, rfl, ho1, ho2⟩ := hvq.shape
  have HVI := hide hvi
  have HVQ := hide hvq
  have HMD := hide hmd
  have HML := hide hml
  have HSM := hide hs
  have HL : Hid (l.length + (64 + nm.size + insW ins + ousW outs) ≤ 10000000000) := hide hl
  have HNM : Hid (∀ W2, Calls Tryz.prog 65 #[.string nm] W2 fun e w' => e = .returned (.bool (nameB nm)) ∧ w' = W2) := hide (fun W2 => rname_calls nm (by have := hs.1; have : nm.size ≤ 2000000 := this; omega) (nameB nm) (name_iff nm) W2)
  have hli : (ins.length : Int) ≤ 9223372036854775807 := by have : ins.length ≤ ci := hi1; omega
  have hlo : (outs.length : Int) ≤ 9223372036854775807 := by have : outs.length ≤ co := ho1; omega
  show Calls Tryz.prog 43 #[vb, .agg (tsC nm bd (.slice ai ins.length ci) (.slice ao outs.length co)).toArray, vo] W (TkW w W vo ⟨nm, bd, ins, outs⟩ md l)
  obtain ⟨r, hr⟩ : ∃ r, r = tskO nameB ptW clB md ⟨nm, bd, ins, outs⟩ := ⟨_, rfl⟩
  have HR : Hid (r = (nameB nm && (decide (1 ≤ bd ∧ bd ≤ 1048576 ∧ ins.length ≤ 64 ∧ 1 ≤ outs.length ∧ outs.length ≤ 8) && (insO ptW [] ins && outsO nameB ptW clB md outs)))) := hide hr
  have HRR := hide hr
  clear hr hs hb ho hl hmd hml hvi hvq hi1 hi2 ho1 ho2
  cases hnm : nameB nm with
  | false =>
    rw [hnm] at HNM
    have HV : Hid (tskO nameB ptW clB md ⟨nm, bd, ins, outs⟩ = false) := hide (by rw [← HRR.out, HR.out]; rw [hnm, Bool.false_and])
    clear hnm
    go_enter Tryz.func43, Tryz.ntmps43
    go_wp2_with (first
      | (refine wpList_boxJ rfl 25 (.tmp 1) rfl (cs := (tsC nm bd (.slice ai ins.length ci) (.slice ao outs.length co))) rfl ?_; intro w2 hA2 hb2 hs2; have c0 := (tsC_arr hA2).1; have HA2 := hide hA2; have HB2 := hide hb2; clear hA2 hb2 hs2)
      | fail)
    refine (unhide HNM _).mono ?_
    rintro e w3 ⟨rfl, rfl⟩
    go_wp2
    refine bodyPost_ret (pwres3 (p := 6) (q := 7) (r := 8) rfl) rfl ?_
    exact ⟨vb, vo, l, md, by rw [HV.out]; rfl, hide ⟨HBO.out.below HB2.out, fun e => (by rw [HV.out] at e; cases e), by omega, HMD.out, by omega⟩⟩
  | true =>
    rw [hnm] at HNM HR
    clear hnm
    by_cases h1 : 1 ≤ bd
    · have hb1 : ¬ bd < 1 := by omega
      have hb1d : decide (bd < 1) = false := decide_eq_false hb1
      by_cases h2 : bd ≤ 1048576
      · have hb2 : ¬ 1048576 < bd := by omega
        have hb2d : decide (1048576 < bd) = false := decide_eq_false hb2
        by_cases h3 : ins.length ≤ 64
        · have hb3 : ¬ (64 : Int) < (ins.length : Int) := by omega
          have hb3d : decide ((64 : Int) < (ins.length : Int)) = false := decide_eq_false hb3
          by_cases h4 : 1 ≤ outs.length
          · have hb4 : ¬ (outs.length : Int) < 1 := by omega
            have hb4d : decide ((outs.length : Int) < 1) = false := decide_eq_false hb4
            by_cases h5 : outs.length ≤ 8
            · have hb5 : ¬ (8 : Int) < (outs.length : Int) := by omega
              have hb5d : decide ((8 : Int) < (outs.length : Int)) = false := decide_eq_false hb5
              have hq0 : True := trivial
              have HDC : Hid (∀ W2 : World, Calls Tryz.prog 66 #[.int .i64 bd] W2 fun e w' => e = .returned (.string (decW bd)) ∧ Below W2.heap.size W2 w') := hide (fun W2 => by
                obtain ⟨y, rfl⟩ : ∃ y : Nat, bd = (y : Int) := ⟨bd.toNat, by omega⟩
                exact ddecimal_calls 10 y (by have : (10 : Nat) ^ 10 = 10000000000 := by decide
                                              omega) (by decide) (by decide) W2)
              have HDL : Hid ((decW bd).size ≤ 10) := hide (by have := decW_len (n := bd) (by omega) (by omega); rw [byL_len] at this; exact this)
              obtain ⟨dc, hdc⟩ : ∃ b, b = decW bd := ⟨_, rfl⟩
              rw [← hdc] at HDC HDL
              have HDE := hide hdc
              have HRT : Hid (tskO nameB ptW clB md ⟨nm, bd, ins, outs⟩ = (insO ptW [] ins && outsO nameB ptW clB md outs)) := hide (by rw [← HRR.out, HR.out, decide_eq_true ⟨h1, h2, h3, h4, h5⟩, Bool.true_and, Bool.true_and])
              have H5 := hide h5
              clear h1 h2 h3 h4 h5 hdc HR HRR
              go_enter Tryz.func43, Tryz.ntmps43
              go_wp2_with (first
                | (refine wpList_boxJ rfl 25 (.tmp 1) rfl (cs := (tsC nm bd (.slice ai ins.length ci) (.slice ao outs.length co))) rfl ?_; intro w2 hA2 hb2 hs2; have c0 := (tsC_arr hA2).1; have HA2 := hide hA2; have HB2 := hide hb2; clear hA2 hb2 hs2)
                | fail)
              refine (unhide HNM _).mono ?_
              rintro e w3 ⟨rfl, rfl⟩
              obtain ⟨c0, c1, c2, c3⟩ := tsC_arr HA2.out
              have HBR := hide ((HBO.out.below HB2.out).rebase)
              have HARR : Hid (∀ (W2 : World) (v2 vo2 : Value) (l2 : List UInt8) (md2 : List ByteArray), Bo w w3 W2 v2 vo2 l2 md2 vo → Arr W2 W.heap.size 25 (tsC nm bd (.slice ai ins.length ci) (.slice ao outs.length co))) := hide (fun W2 v2 vo2 l2 md2 h => HA2.out.ch h.ch u8s_ts)
              have HJOIN : Hid (∀ (W2 : World) (v2 vo2 : Value) (l2 : List UInt8) (md2 : List ByteArray), Bo w w3 W2 v2 vo2 l2 md2 vo → Bo w W W2 v2 vo2 l2 md2 vo) := hide (fun W2 v2 vo2 l2 md2 h => (HBO.out.below HB2.out).join h)
              have HN1 : Hid (l.length + (⟨#[116, 97, 115, 107, 32]⟩ : ByteArray).size ≤ 100000000000) := hide (by have h1 := HL.out; have h2 : (⟨#[116, 97, 115, 107, 32]⟩ : ByteArray).size = 5 := rfl; omega)
              obtain ⟨la, hla⟩ : ∃ x, x = l ++ byL ⟨#[116, 97, 115, 107, 32]⟩ := ⟨_, rfl⟩
              have HLA : Hid (la.length = l.length + 5) := hide (by rw [hla, List.length_append, byL_len]; rfl)
              have HLAE := hide hla
              have HN2 : Hid (la.length + nm.size ≤ 100000000000) := hide (by have h1 := HL.out; have h2 := HLA.out; omega)
              have HN3 : Hid ((la ++ byL nm).length ≤ 100000000000) := hide (by have h1 := HN2.out; rw [List.length_append, byL_len]; exact h1)
              have HN4 : Hid ((la ++ byL nm ++ [(32 : UInt8)]).length + dc.size ≤ 100000000000) := hide (by have h1 := HL.out; have h2 := HDL.out; have h3 := HLA.out; simp only [List.length_append, List.length_cons, List.length_nil, byL_len]; omega)
              have HN5 : Hid ((la ++ byL nm ++ [(32 : UInt8)] ++ byL dc).length ≤ 100000000000) := hide (by have h1 := HN4.out; simp only [List.length_append, List.length_cons, List.length_nil, byL_len] at h1 ⊢; omega)
              obtain ⟨lh, hlh⟩ : ∃ x, x = la ++ byL nm ++ [(32 : UInt8)] ++ byL dc ++ [(10 : UInt8)] := ⟨_, rfl⟩
              have HLH : Hid (lh.length ≤ l.length + 17 + nm.size) := hide (by have h2 := HDL.out; have h3 := HLA.out; rw [hlh]; simp only [List.length_append, List.length_cons, List.length_nil, byL_len]; omega)
              have HLHE : Hid (lh = l ++ hdB ⟨nm, bd, ins, outs⟩) := hide (by rw [hlh, HLAE.out, HDE.out]; unfold hdB; have : byL ⟨#[116, 97, 115, 107, 32]⟩ = byL wTask ++ [32] := rfl; rw [this]; simp only [List.append_assoc, List.cons_append, List.nil_append])
              have HN6 : Hid (lh.length + 2 ≤ 100000000000) := hide (by have h1 := HLH.out; have h2 := HL.out; omega)
              clear hla
              go_wp2_with (first
                | (at_builtin; refine wpList_boS rfl (.tmp 50) (.const (.string ⟨#[116, 97, 115, 107, 32]⟩)) rfl rfl HBR.out rfl HN1.out ?_; intro v4 w4 hB4; rw [← HLAE.out] at hB4; have c0 := (tsC_arr (HARR.out _ _ _ _ _ hB4)).1; have HB4 := hide hB4; clear hB4)
                | (at_builtin; refine wpList_boS rfl (.tmp 52) (.tmp 54) rfl rfl HB4.out rfl HN2.out ?_; intro v5 w5 hB5; have HB5 := hide hB5; clear hB5)
                | (at_builtin; refine wpList_boC 32 rfl (.tmp 56) (.tmp 57) rfl rfl rfl HB5.out rfl HN3.out ?_; intro v6 w6 hB6; have c1 := (tsC_arr (HARR.out _ _ _ _ _ hB6)).2.1; have HB6 := hide hB6; clear hB6)
                | fail)
              refine (unhide HDC _).mono ?_
              rintro e w7 ⟨rfl, hb7⟩
              have HB7 := hide (HB6.out.below hb7)
              clear hb7 c0 c1 c2 c3 hb1 hb1d hb2 hb2d hb3 hb3d hb4 hb4d hb5 hb5d
              go_upto_if 70 with (first
                | (at_builtin; refine wpList_boS rfl (.tmp 59) (.tmp 62) rfl rfl HB7.out rfl HN4.out ?_; intro v8 w8 hB8; have HB8 := hide hB8; clear hB8)
                | (at_builtin; refine wpList_boC 10 rfl (.tmp 64) (.tmp 65) rfl rfl rfl HB8.out rfl HN5.out ?_; intro v9 w9 hB9; rw [← hlh] at hB9; have c2 := (tsC_arr (HARR.out _ _ _ _ _ hB9)).2.2.1; have HB9 := hide hB9; clear hB9)
                | fail)
              have HHT := hide hlh
              clear hlh
              go_cut [0] from 70 (fun bv wc => Hid (Bo w w3 wc bv vo (lh ++ inB ins 0) md vo))
              case first =>
                by_cases hin : ins = []
                · have hz : ¬ (0 : Int) < (ins.length : Int) := by rw [hin]; simp
                  have HE : Hid (inB ins 0 = []) := hide (by unfold inB; rw [if_pos hin]; rfl)
                  clear hin
                  go_wp2
                  go_meet
                  exact hide (by rw [HE.out, List.append_nil]; exact HB9.out)
                · have hz : (0 : Int) < (ins.length : Int) := by have := List.length_pos_iff.2 hin; omega
                  have HE : Hid (inB ins 0 = byL wIn) := hide (by unfold inB; rw [if_neg hin]; simp)
                  clear hin
                  go_wp2_with (first
                    | (at_builtin; refine wpList_boS rfl (.tmp 71) (.const (.string wIn)) rfl rfl HB9.out rfl HN6.out ?_; intro v10 w10 hB10; have HB10 := hide hB10; clear hB10)
                    | fail)
                  go_meet
                  exact hide (by rw [HE.out]; exact HB10.out)
              case rest =>
              rename World => w10
              have HB10 := hide hcut.out
              clear hcut HB9 HB8 HB7 HB6 HB5 HB4 HN1 HN2 HN3 HN4 HN5
              go_wp2_with fail
              go_loopw [0, 9, 10, 11] (fun bv iv _ _ wr => ∃ j : Nat, iv = .int .i64 (j : Int) ∧ j ≤ ins.length ∧ Hid (Bo w w3 wr bv vo (lh ++ inB ins j) md vo ∧ insO ptW [] (ins.take j) = true)) (fun _ iv _ _ _ => ins.length - (intOf iv).toNat)
              case atStart => exact ⟨0, rfl, Nat.zero_le _, HB10.out, rfl⟩
              case round =>
                obtain ⟨j, rfl, hjq, HJ⟩ := hrel
                obtain ⟨c0, c1, c2, c3⟩ := tsC_arr (HARR.out _ _ _ _ _ HJ.out.1)
                clear c0 c1 c3
                have HIL := hide (inB_len ins j)
                by_cases hlt : j < ins.length
                · have hlti : (j : Int) < (ins.length : Int) := by omega
                  have HTK := hide (insW_take hlt)
                  have HLE := hide (insW_le ins (j + 1))
                  have HST := hide (inB_step hlt)
                  have HIT := hide (insO_take (pt := ptW) hlt)
                  have HIF := hide (insO_false (pt := ptW) (l := ins) (i := j + 1))
                  obtain ⟨b, o, hab, hcel⟩ : ∃ b o, ai = some ⟨b, o, none⟩ ∧ ∀ k, k < ins.length → w.cell? ⟨b, o + k, none⟩ = some (.string (ins.getD k default)) := by
                    obtain ⟨a', c', hv, _, _, _, hc⟩ := HVI.out
                    cases hv
                    exact hc (by omega)
                  subst hab
                  have hxw := hcel j hlt
                  have HXB : Hid (∀ W2, Below w.heap.size w W2 → W2.cell? ⟨b, o + j, none⟩ = some (.string (ins.getD j default))) := hide (fun W2 h => (h.cell (p := ⟨b, o + j, none⟩) (World.block_lt_of_cell? w _ hxw)).trans hxw)
                  have hps : (ins.getD j default).size ≤ 2000000 := HSM.out.2.1 _ (getS hlt)
                  have HPA := hide (fun W2 => dparse_any (ins.getD j default) hps W2)
                  have HJC : Hid (∀ (W2 : World) (p : ByteArray), Below w.heap.size w W2 → Calls Tryz.prog 42 #[.slice (some ⟨b, o, none⟩) j ci, .string p] W2 fun e w' => e = .returned (.bool (hasB (ins.take j) p)) ∧ Below W2.heap.size W2 w') := hide (fun W2 p h => dhas_calls ((HVI.out.below h).pre (by omega)) p)
                  have hci : 0 < ci := by
                    obtain ⟨a', c', hv, h1, _⟩ := HVI.out
                    cases hv
                    omega
                  have hjc : j ≤ ci := by
                    obtain ⟨a', c', hv, h1, _⟩ := HVI.out
                    cases hv
                    omega
                  have HSL : Hid (∀ W2, (Instr.sliceAt 22 (.slice (some ⟨b, o, none⟩) ins.length ci) none (some (.int .i64 (j : Int))) none).run Tryz.prog W2 = .ok (.slice (some ⟨b, o, none⟩) j ci) W2) := hide (fun W2 => by
                    have := slice_hS (some ⟨b, o, none⟩) ins.length ci j hjc W2
                    rw [this]
                    congr 1
                    unfold subAx
                    rw [if_neg (by omega), Option.map_some, Addr.add_lit]
                    rfl)
                  have hx := HXB.out _ HJ.out.1.base
                  obtain ⟨p, hpe⟩ : ∃ p, p = ins.getD j default := ⟨_, rfl⟩
                  rw [← hpe] at hx HXB HPA HST HIT HTK hps
                  have hwj : IntKind.i64.wrap ((j : Int) + 1) = ((j + 1 : Nat) : Int) := by rw [IntKind.wrap_i64]; omega
                  clear hxw hcel hpe hci hjc
                  have HPS := hide hps
                  clear hps
                  cases hwb : wrongB p with
                  | true =>
                    rw [hwb] at HPA
                    have HV : Hid (tskO nameB ptW clB md ⟨nm, bd, ins, outs⟩ = false) := hide (by rw [HRT.out, HIF.out (by rw [HIT.out]; unfold ptW; rw [hwb]; simp), Bool.false_and])
                    clear hwb
                    go_wp2_with fail
                    refine (unhide HPA _).mono ?_
                    rintro e w5 ⟨pv, y, rfl, ⟨pa, pn, pc, rfl⟩, hy, hb5⟩
                    have hy1 : ¬ y < 0 := of_decide_eq_false hy
                    have hy2 : (0 : Int) ≤ y := by omega
                    have HB5 := hide (HJ.out.1.below hb5)
                    clear hy hb5 c2 hx
                    go_wp2_with fail
                    go_quiet (fail)
                    have HB6 := hide (HB5.out.below (kdrewn_below w5 nq))
                    go_wp2
                    refine bodyPost_ret (pwres3 (p := 6) (q := 7) (r := 8) rfl) rfl ?_
                    exact ⟨_, _, _, _, by rw [HV.out]; rfl, hide ⟨HJOIN.out _ _ _ _ _ HB6.out, fun e => (by rw [HV.out] at e; cases e), (by have h1 := HIL.out; have h2 := HLH.out; have h3 := insW_le ins j; show _ ≤ l.length + (64 + nm.size + insW ins + ousW outs); rw [List.length_append]; omega), HMD.out, (by omega)⟩⟩
                  | false =>
                    rw [hwb] at HPA
                    have HPW : Hid (ptW p = true) := hide (by unfold ptW; rw [hwb]; rfl)
                    clear hwb
                    go_wp2_with fail
                    refine (unhide HPA _).mono ?_
                    rintro e w5 ⟨pv, y, rfl, ⟨pa, pn, pc, rfl⟩, hy, hb5⟩
                    have hy1 : y < 0 := of_decide_eq_true hy
                    have hy2 : ¬ (0 : Int) ≤ y := by omega
                    have hy3 : decide ((0 : Int) ≤ y) = false := decide_eq_false hy2
                    have HB5 := hide (HJ.out.1.below hb5)
                    clear hy hb5 c2 hx
                    have HSS : Hid (∀ W2, Below w5.heap.size w5 W2 → Below w5.heap.size w5 W2 ∧ W2.cell? ⟨W.heap.size, 2, none⟩ = some (.slice (some ⟨b, o, none⟩) ins.length ci) ∧ W2.cell? ⟨b, o + j, none⟩ = some (.string p)) := hide (fun W2 h => ⟨h, (tsC_arr (HARR.out _ _ _ _ _ (HB5.out.below h))).2.2.1, HXB.out W2 (HB5.out.below h).base⟩)
                    have HHS : Hid (∀ W2, Below w5.heap.size w5 W2 → Calls Tryz.prog 42 #[.slice (some ⟨b, o, none⟩) j ci, .string p] W2 fun e w' => e = .returned (.bool (hasB (ins.take j) p)) ∧ Below w5.heap.size w5 w') := hide (fun W2 h => (HJC.out W2 p (HB5.out.below h).base).mono fun e w' ⟨h1, h2⟩ => ⟨h1, h.trans (h2.mono h.size)⟩)
                    have hsl := HSL.out
                    obtain ⟨hb, hhb⟩ : ∃ x, x = hasB (ins.take j) p := ⟨_, rfl⟩
                    rw [← hhb] at HHS HIT
                    clear hhb HJC
                    go_wp2_with fail
                    focus (go_region_held3 (fun W2 => Below w5.heap.size w5 W2 ∧ W2.cell? ⟨W.heap.size, 2, none⟩ = some (.slice (some ⟨b, o, none⟩) ins.length ci) ∧ W2.cell? ⟨b, o + j, none⟩ = some (.string p))
                      ((refine unhide HSS _ ?_; repeat (first | assumption | exact Below.refl _ _ | refine Below.drew ?_)))
                      (first
                        | (go_at_call 42; refine (unhide HHS _ (by first | assumption | exact (Below.refl _ _).drew)).mono ?_; rintro e w6 ⟨rfl, hb6⟩)))
                    have HB6 := hide (HB5.out.below hb6)
                    clear hb6 hsl
                    cases hb with
                    | true =>
                      have HV : Hid (tskO nameB ptW clB md ⟨nm, bd, ins, outs⟩ = false) := hide (by rw [HRT.out, HIF.out (by rw [HIT.out]; simp), Bool.false_and])
                      go_wp2
                      refine bodyPost_ret (pwres3 (p := 6) (q := 7) (r := 8) rfl) rfl ?_
                      exact ⟨_, _, _, _, by rw [HV.out]; rfl, hide ⟨HJOIN.out _ _ _ _ _ HB6.out, fun e => (by rw [HV.out] at e; cases e), (by have h1 := HIL.out; have h2 := HLH.out; have h3 := insW_le ins j; show _ ≤ l.length + (64 + nm.size + insW ins + ousW outs); rw [List.length_append]; omega), HMD.out, (by omega)⟩⟩
                    | false =>
                      have HM1 : Hid ((lh ++ inB ins j).length ≤ 100000000000) := hide (by have h1 := HIL.out; have h2 := HLH.out; have h3 := insW_le ins j; have h4 := HL.out; rw [List.length_append]; omega)
                      have HM2 : Hid ((lh ++ inB ins j ++ [(32 : UInt8)]).length + p.size ≤ 100000000000) := hide (by have h1 := HIL.out; have h2 := HLH.out; have h3 := HTK.out; have h5 := HLE.out; have h4 := HL.out; simp only [List.length_append, List.length_cons, List.length_nil]; omega)
                      go_wp2_with (first
                        | (at_builtin; refine wpList_boC 32 rfl (.tmp 105) (.tmp 106) rfl rfl rfl HB6.out rfl HM1.out ?_; intro v7 w7 hB7; have c2 := (tsC_arr (HARR.out _ _ _ _ _ hB7)).2.2.1; have hx := HXB.out _ hB7.base; have HB7 := hide hB7; clear hB7)
                        | (at_builtin; refine wpList_boS rfl (.tmp 108) (.tmp 113) rfl rfl HB7.out rfl HM2.out ?_; intro v8 w8 hB8; have HB8 := hide hB8; clear hB8)
                        | fail)
                      go_roundw
                      case rel => exact ⟨j + 1, by go_num, by omega, by rw [HST.out]; have := HB8.out; simp only [List.append_assoc, List.cons_append, List.nil_append] at this ⊢; exact this, by rw [HIT.out, HJ.out.2, HPW.out]; rfl⟩
                      case measure => simp [intOf]; omega
                · have HIO : Hid (insO ptW [] ins = true) := hide (by have := HJ.out.2; rw [show j = ins.length by omega, List.take_length] at this; exact this)
                  have HB11 : Hid (Bo w w3 wr u0 vo (lh ++ inB ins ins.length) md vo) := hide (by have := HJ.out.1; rw [show j = ins.length by omega] at this; exact this)
                  have hlti : ¬ (j : Int) < (ins.length : Int) := by omega
                  have hltd : decide ((j : Int) < (ins.length : Int)) = false := decide_eq_false hlti
                  go_upto_if 118 with fail
                  go_cut [0] from 118 (fun bv wc => Hid (Bo w w3 wc bv vo (lh ++ insBy ins) md vo))
                  case first =>
                    by_cases hin : ins = []
                    · have hz : ¬ (0 : Int) < (ins.length : Int) := by rw [hin]; simp
                      have HE : Hid (insBy ins = inB ins ins.length) := hide (by rw [inB_end, if_pos hin, List.append_nil])
                      clear hin
                      go_wp2
                      go_meet
                      exact hide (by rw [HE.out]; exact HB11.out)
                    · have hz : (0 : Int) < (ins.length : Int) := by have := List.length_pos_iff.2 hin; omega
                      have HE : Hid (insBy ins = inB ins ins.length ++ [10]) := hide (by rw [inB_end, if_neg hin])
                      clear hin
                      have HM3 : Hid ((lh ++ inB ins ins.length).length ≤ 100000000000) := hide (by have h1 := inB_len ins ins.length; have h2 := HLH.out; have h3 := insW_le ins ins.length; have h4 := HL.out; rw [List.length_append]; omega)
                      go_wp2_with (first
                        | (at_builtin; refine wpList_boC 10 rfl (.tmp 119) (.tmp 120) rfl rfl rfl HB11.out rfl HM3.out ?_; intro v12 w12 hB12; have HB12 := hide hB12; clear hB12)
                        | fail)
                      go_meet
                      exact hide (by rw [HE.out, ← List.append_assoc]; exact HB12.out)
                  case rest =>
                  clear c2 hlti hltd HIL HJ HB11 HB10
                  rename World => w13
                  have HB13 := hide hcut.out
                  clear hcut
                  have HBL := hide (insBy_len ins)
                  go_wp2_with fail
                  go_loopw [0, 2, 12, 13, 14, 15] (fun bv ov iv _ _ _ wr => ∃ j : Nat, iv = .int .i64 (j : Int) ∧ j ≤ outs.length ∧ Hid (Bo w w3 wr bv ov (lh ++ insBy ins ++ (outs.take j).flatMap outBy) (md ++ (outs.take j).map (·.1)) vo ∧ outsO nameB ptW clB md (outs.take j) = true ∧ ShS (md ++ (outs.take j).map (·.1)))) (fun _ _ iv _ _ _ _ => outs.length - (intOf iv).toNat)
                  case atStart => exact ⟨0, rfl, Nat.zero_le _, by simpa using HB13.out, rfl, by simpa using HMD.out⟩
                  case round =>
                    obtain ⟨j, rfl, hjq, HJ⟩ := hrel
                    obtain ⟨c0, c1, c2, c3⟩ := tsC_arr (HARR.out _ _ _ _ _ HJ.out.1)
                    clear c0 c1 c2
                    have HOL := hide (ousB_len md (outs.take j) HJ.out.2.1)
                    by_cases hlt : j < outs.length
                    · have hlti : (j : Int) < (outs.length : Int) := by omega
                      have HTK := hide (ousW_take hlt)
                      have HLE := hide (ousW_le outs (j + 1))
                      have HST := hide (ouB_step (z := ou0) hlt)
                      have HMS := hide (map_take1 (z := ou0) hlt)
                      have HIT := hide (outsO_take (nm := nameB) (pt := ptW) (cl := clB) (md := md) (z := ou0) hlt)
                      have HIF := hide (outsO_false (nm := nameB) (pt := ptW) (cl := clB) (md := md) (l := outs) (i := j + 1))
                      obtain ⟨b, o, c', u, hv, hrg, htm⟩ := HVQ.out.at hlt
                      cases hv
                      obtain ⟨hpw, hrw⟩ := ouC_cells hrg
                      have HXB : Hid (∀ W2, Below w.heap.size w W2 → W2.cell? ⟨b, o + j * 6, none⟩ = some (.string (outs.getD j ou0).1)) := hide (fun W2 h => (h.cell (p := ⟨b, o + j * 6, none⟩) (World.block_lt_of_cell? w _ hpw)).trans hpw)
                      have HXR : Hid (∀ W2, Below w.heap.size w W2 → W2.rangeAt b (o + j * 6 + 1) (tmC (outs.getD j ou0).2 u)) := hide (fun W2 h => rangeAt_below hrw h)
                      have hsm := HSM.out.2.2 _ (getOu (z := ou0) hlt)
                      have HPA := hide (fun W2 => dparse_any (outs.getD j ou0).1 hsm.1 W2)
                      have HWR := hide (fun W2 v2 l2 => dwritten_calls 64 1 (by omega) (by omega) w (outs.getD j ou0).2 D u htm hsm.2 W2 v2 l2)
                      obtain ⟨O, hO⟩ : ∃ x, x = outs.getD j ou0 := ⟨_, rfl⟩
                      rw [← hO] at HTK HST HMS HIT HXB HXR HPA HWR
                      have HWS := hide (fun (h : wrongB O.1 = false) => wrong_size h)
                      obtain ⟨p, tm⟩ := O
                      have hx : wr.cell? ⟨b, o + j * 6, none⟩ = some (.string p) := HXB.out _ HJ.out.1.base
                      have HPA : Hid (∀ W2, Calls Tryz.prog 67 #[.string p] W2 fun e w' => ∃ v x, e = .returned (.tuple #[v, .int .i64 x]) ∧ (∃ a n c, v = .slice a n c) ∧ decide (x < 0) = !(wrongB p) ∧ Below W2.heap.size W2 w') := HPA
                      have HWS : Hid (wrongB p = false → p.size ≤ 255) := HWS
                      have HXB : Hid (∀ W2, Below w.heap.size w W2 → W2.cell? ⟨b, o + j * 6, none⟩ = some (.string p)) := HXB
                      have HXR : Hid (∀ W2, Below w.heap.size w W2 → W2.rangeAt b (o + j * 6 + 1) (tmC tm u)) := HXR
                      have HWR : Hid (∀ (W2 : World) (v2 : Value) (l2 : List UInt8), Below w.heap.size w W2 → Own8 W2 w.heap.size v2 (iL l2) → l2.length + tmW tm ≤ 10000000000 → Calls Tryz.prog 69 #[v2, .agg (tmC tm u).toArray, .int .i64 1] W2 (WrP w W2 (fitT nameB ptW 64 tm) l2 (tmB tm) (tmW tm))) := HWR
                      have HIT : Hid (outsO nameB ptW clB md (outs.take (j + 1)) = (outsO nameB ptW clB md (outs.take j) && (ptW p && (!clB (md ++ (outs.take j).map (·.1)) p && fitT nameB ptW 64 tm)))) := HIT
                      have HMS : Hid ((outs.take (j + 1)).map (·.1) = (outs.take j).map (·.1) ++ [p]) := HMS
                      have HTK : Hid (ousW (outs.take (j + 1)) = ousW (outs.take j) + (20 + p.size + tmW tm)) := HTK
                      have hwj : IntKind.i64.wrap ((j : Int) + 1) = ((j + 1 : Nat) : Int) := by rw [IntKind.wrap_i64]; omega
                      obtain ⟨mj, hmj⟩ : ∃ m, m = md ++ (outs.take j).map (·.1) := ⟨_, rfl⟩
                      obtain ⟨lj, hlj⟩ : ∃ m, m = lh ++ insBy ins ++ (outs.take j).flatMap outBy := ⟨_, rfl⟩
                      have HLJ : Hid (lj.length ≤ l.length + 20 + nm.size + insW ins + ousW (outs.take j)) := hide (by rw [hlj]; have h1 := HOL.out; have h2 := HLH.out; have h4 := HBL.out; simp only [List.length_append] at *; omega)
                      rw [← hmj, ← hlj] at HJ
                      rw [← hmj] at HIT
                      have HML2 : Hid (mj.length ≤ md.length + j) := hide (by rw [hmj, List.length_append, List.length_map, List.length_take]; omega)
                      have HMJ := hide hmj
                      have HLJE := hide hlj
                      clear hpw hrw hrg htm hsm hO hmj hlj
                      cases hwb : wrongB p with
                      | true =>
                        rw [hwb] at HPA
                        have HV : Hid (tskO nameB ptW clB md ⟨nm, bd, ins, outs⟩ = false) := hide (by rw [HRT.out, HIF.out (by rw [HIT.out]; unfold ptW; rw [hwb]; simp), Bool.and_false])
                        clear hwb
                        go_wp2_with fail
                        refine (unhide HPA _).mono ?_
                        rintro e w5 ⟨pv, y, rfl, ⟨pa, pn, pc, rfl⟩, hy, hb5⟩
                        have hy1 : ¬ y < 0 := of_decide_eq_false hy
                        have hy2 : (0 : Int) ≤ y := by omega
                        have HB5 := hide (HJ.out.1.below hb5)
                        clear hy hb5 c3 hx
                        go_wp2
                        refine bodyPost_ret (pwres3 (p := 6) (q := 7) (r := 8) rfl) rfl ?_
                        exact ⟨_, _, _, _, by rw [HV.out]; rfl, hide ⟨HJOIN.out _ _ _ _ _ HB5.out, fun e => (by rw [HV.out] at e; cases e), (by have h1 := HLJ.out; have h3 := ousW_le outs j; show _ ≤ l.length + (64 + nm.size + insW ins + ousW outs); omega), HJ.out.2.2, (by have h1 := HML2.out; have h2 := H5.out; omega)⟩⟩
                      | false =>
                        rw [hwb] at HPA
                        have HPW : Hid (ptW p = true) := hide (by unfold ptW; rw [hwb]; rfl)
                        have HPS := hide (HWS.out hwb)
                        clear hwb
                        go_wp2_with fail
                        refine (unhide HPA _).mono ?_
                        rintro e w5 ⟨pv, y, rfl, ⟨pa, pn, pc, rfl⟩, hy, hb5⟩
                        have hy1 : y < 0 := of_decide_eq_true hy
                        have hy2 : ¬ (0 : Int) ≤ y := by omega
                        have hy3 : decide ((0 : Int) ≤ y) = false := decide_eq_false hy2
                        have HB5 := hide (HJ.out.1.below hb5)
                        clear hy hb5 c3 hx
                        have c3 := (tsC_arr (HARR.out _ _ _ _ _ HB5.out)).2.2.2
                        have hx := HXB.out _ HB5.out.base
                        have HCL := hide (dclash_calls HB5.out.row.isS HJ.out.2.2 p (by have := HPS.out; omega))
                        obtain ⟨cb, hcb⟩ : ∃ x, x = clB mj p := ⟨_, rfl⟩
                        rw [← hcb] at HCL HIT
                        clear hcb
                        go_wp2_with fail
                        refine (unhide HCL).mono ?_
                        rintro e w6 ⟨rfl, hb6⟩
                        have HB6 := hide (HB5.out.below hb6)
                        clear hb6 c3 hx
                        cases cb with
                        | true =>
                          have HV : Hid (tskO nameB ptW clB md ⟨nm, bd, ins, outs⟩ = false) := hide (by rw [HRT.out, HIF.out (by rw [HIT.out]; simp), Bool.and_false])
                          go_wp2
                          refine bodyPost_ret (pwres3 (p := 6) (q := 7) (r := 8) rfl) rfl ?_
                          exact ⟨_, _, _, _, by rw [HV.out]; rfl, hide ⟨HJOIN.out _ _ _ _ _ HB6.out, fun e => (by rw [HV.out] at e; cases e), (by have h1 := HLJ.out; have h3 := ousW_le outs j; show _ ≤ l.length + (64 + nm.size + insW ins + ousW outs); omega), HJ.out.2.2, (by have h1 := HML2.out; have h2 := H5.out; omega)⟩⟩
                        | false =>
                          have HSH : Hid (ShS (mj ++ [p])) := hide (fun x hx => by
                            rcases List.mem_append.1 hx with h | h
                            · exact HJ.out.2.2 x h
                            · rw [List.mem_singleton.1 h]; have := HPS.out; omega)
                          have c3 := (tsC_arr (HARR.out _ _ _ _ _ HB6.out)).2.2.2
                          have hx := HXB.out _ HB6.out.base
                          have HM0 : Hid (mj.length ≤ 100000000) := hide (by have := HML2.out; have := HML.out; have := H5.out; omega)
                          have HT1 : Hid (lj.length + (20 + p.size + tmW tm) ≤ 10000000000) := hide (by have h1 := HLJ.out; have h2 := HL.out; have h3 := HTK.out; have h4 := HLE.out; omega)
                          have HM1 : Hid (lj.length + (⟨#[111, 117, 116, 32]⟩ : ByteArray).size ≤ 100000000000) := hide (by have h1 := HT1.out; have : (⟨#[111, 117, 116, 32]⟩ : ByteArray).size = 4 := rfl; omega)
                          obtain ⟨k1, hk1⟩ : ∃ x, x = lj ++ byL ⟨#[111, 117, 116, 32]⟩ := ⟨_, rfl⟩
                          have HK1 : Hid (k1.length = lj.length + 4) := hide (by rw [hk1, List.length_append, byL_len]; rfl)
                          have HM2 : Hid (k1.length + p.size ≤ 100000000000) := hide (by have h1 := HT1.out; have h2 := HK1.out; omega)
                          have HM3 : Hid ((k1 ++ byL p).length + (⟨#[32, 61, 32]⟩ : ByteArray).size ≤ 100000000000) := hide (by have h1 := HT1.out; have h2 := HK1.out; have : (⟨#[32, 61, 32]⟩ : ByteArray).size = 3 := rfl; rw [List.length_append, byL_len]; omega)
                          obtain ⟨k3, hk3⟩ : ∃ x, x = k1 ++ byL p ++ byL ⟨#[32, 61, 32]⟩ := ⟨_, rfl⟩
                          have HK3 : Hid (k3.length = lj.length + 7 + p.size) := hide (by rw [hk3, List.length_append, List.length_append, byL_len, byL_len]; have h2 := HK1.out; have : (⟨#[32, 61, 32]⟩ : ByteArray).size = 3 := rfl; omega)
                          have HKE : Hid (k3 = lj ++ (byL wOut ++ (32 :: (byL p ++ [32, 61, 32])))) := hide (by rw [hk3, hk1]; have e1 : byL ⟨#[111, 117, 116, 32]⟩ = byL wOut ++ [32] := rfl; have e2 : byL ⟨#[32, 61, 32]⟩ = [32, 61, 32] := rfl; rw [e1, e2]; simp only [List.append_assoc, List.cons_append, List.nil_append])
                          have HM4 : Hid (k3.length + tmW tm ≤ 10000000000) := hide (by have h1 := HT1.out; have h2 := HK3.out; omega)
                          have H1E := hide hk1
                          have H3E := hide hk3
                          clear hk1 hk3
                          go_wp2_with (first
                            | (at_builtin; refine wpList_boM rfl (.tmp 153) (.tmp 160) rfl rfl HB6.out rfl HM0.out ?_; intro v7 w7 hB7; have HB7 := hide hB7; clear hB7)
                            | (at_builtin; refine wpList_boS rfl (.tmp 162) (.const (.string ⟨#[111, 117, 116, 32]⟩)) rfl rfl HB7.out rfl HM1.out ?_; intro v8 w8 hB8; rw [← H1E.out] at hB8; have c3 := (tsC_arr (HARR.out _ _ _ _ _ hB8)).2.2.2; have hx := HXB.out _ hB8.base; have HB8 := hide hB8; clear hB8)
                            | (at_builtin; refine wpList_boS rfl (.tmp 164) (.tmp 170) rfl rfl HB8.out rfl HM2.out ?_; intro v9 w9 hB9; have HB9 := hide hB9; clear hB9)
                            | (at_builtin; refine wpList_boS rfl (.tmp 172) (.const (.string ⟨#[32, 61, 32]⟩)) rfl rfl HB9.out rfl HM3.out ?_; intro v10 w11 hB10; rw [← H3E.out] at hB10; have c3 := (tsC_arr (HARR.out _ _ _ _ _ hB10)).2.2.2; have hrr := HXR.out _ hB10.base; have HB10 := hide hB10; clear hB10)
                            | (refine wpList_loadJ rfl 52 (.tmp 180) rfl b (o + j * 6 + 1) rfl (tmC tm u) _ hrr Tryz.underlying52 rfl (infoTms _ _) ?_)
                            | fail)
                          refine (HWR.out w11 v10 k3 HB10.out.base HB10.out.own HM4.out).mono ?_
                          rintro e w12 ⟨v12, l12, rfl, HX⟩
                          have HB12 := hide (HB10.out.bytes HX.out.1)
                          obtain ⟨fb, hfb⟩ : ∃ x, x = fitT nameB ptW 64 tm := ⟨_, rfl⟩
                          rw [← hfb] at HX HIT
                          rw [← hfb]
                          clear hfb
                          cases fb with
                          | false =>
                            have HV : Hid (tskO nameB ptW clB md ⟨nm, bd, ins, outs⟩ = false) := hide (by rw [HRT.out, HIF.out (by rw [HIT.out]; simp), Bool.and_false])
                            go_wp2
                            refine bodyPost_ret (pwres3 (p := 6) (q := 7) (r := 8) rfl) rfl ?_
                            exact ⟨_, _, _, _, by rw [HV.out]; rfl, hide ⟨HJOIN.out _ _ _ _ _ HB12.out, fun e => (by rw [HV.out] at e; cases e), (by have h1 := HLJ.out; have h3 := HLE.out; have h4 := HTK.out; have h5 := HX.out.2.2; have h6 := HK3.out; show _ ≤ l.length + (64 + nm.size + insW ins + ousW outs); omega), HSH.out, (by have h1 := HML2.out; have h2 := H5.out; rw [List.length_append, List.length_singleton]; omega)⟩⟩
                          | true =>
                            have HE12 := hide (HX.out.2.1 rfl)
                            have HM5 : Hid (l12.length ≤ 100000000000) := hide (by have h1 := HX.out.2.2; have h2 := HM4.out; omega)
                            go_wp2_with (first
                              | (at_builtin; refine wpList_boC 10 rfl (.tmp 189) (.tmp 190) rfl rfl rfl HB12.out rfl HM5.out ?_; intro v14 w14 hB14; have HB14 := hide hB14; clear hB14)
                              | fail)
                            go_roundw
                            case rel => exact ⟨j + 1, by go_num, by omega, by
                              have h := HB14.out
                              rw [HE12.out, HKE.out, HLJE.out, HMJ.out] at h
                              rw [HST.out, HMS.out]
                              unfold outBy
                              simp only [List.append_assoc, List.cons_append, List.nil_append] at h ⊢
                              exact h, by rw [HIT.out, HJ.out.2.1, HPW.out]; rfl, by
                              have h := HSH.out
                              rw [HMJ.out] at h
                              rw [HMS.out, ← List.append_assoc]
                              exact h⟩
                            case measure => simp [intOf]; omega
                    · have HOO : Hid (outsO nameB ptW clB md outs = true) := hide (by have := HJ.out.2.1; rw [show j = outs.length by omega, List.take_length] at this; exact this)
                      have HBE : Hid (Bo w w3 wr u0 u2 (lh ++ insBy ins ++ outs.flatMap outBy) (md ++ outs.map (·.1)) vo) := hide (by have := HJ.out.1; rw [show j = outs.length by omega, List.take_length] at this; exact this)
                      have HSE : Hid (ShS (md ++ outs.map (·.1))) := hide (by have := HJ.out.2.2; rw [show j = outs.length by omega, List.take_length] at this; exact this)
                      have HV : Hid (tskO nameB ptW clB md ⟨nm, bd, ins, outs⟩ = true) := hide (by rw [HRT.out, HIO.out, HOO.out]; rfl)
                      have HLO := hide (ousB_len md outs HOO.out)
                      have HM6 : Hid ((lh ++ insBy ins ++ outs.flatMap outBy).length + (⟨#[101, 110, 100, 10]⟩ : ByteArray).size ≤ 100000000000) := hide (by have h1 := HLO.out; have h2 := HLH.out; have h3 := HBL.out; have h4 := HL.out; have : (⟨#[101, 110, 100, 10]⟩ : ByteArray).size = 4 := rfl; simp only [List.length_append]; omega)
                      have hlti : ¬ (j : Int) < (outs.length : Int) := by omega
                      have hltd : decide ((j : Int) < (outs.length : Int)) = false := decide_eq_false hlti
                      go_wp2_with (first
                        | (at_builtin; refine wpList_boS rfl (.tmp 192) (.const (.string ⟨#[101, 110, 100, 10]⟩)) rfl rfl HBE.out rfl HM6.out ?_; intro v15 w15 hB15; have HB15 := hide hB15; clear hB15)
                        | fail)
                      refine bodyPost_ret (pwres3 (p := 6) (q := 7) (r := 8) rfl) rfl ?_
                      refine ⟨_, _, _, _, by rw [HV.out]; rfl, hide ⟨HJOIN.out _ _ _ _ _ HB15.out, fun _ => ⟨?_, rfl⟩, ?_, HSE.out, ?_⟩⟩
                      · rw [HLHE.out, skBy_parts]
                        have e1 : byL ⟨#[101, 110, 100, 10]⟩ = byL wEnd ++ [10] := rfl
                        rw [e1]
                        simp only [List.append_assoc]
                      · have h1 := HLO.out
                        have h2 := HLH.out
                        have h3 := HBL.out
                        have e1 : (byL ⟨#[101, 110, 100, 10]⟩).length = 4 := rfl
                        show _ ≤ l.length + (64 + nm.size + insW ins + ousW outs)
                        simp only [List.length_append] at *
                        omega
                      · rw [List.length_append, List.length_map]; have := H5.out; omega
            · have HV : Hid (tskO nameB ptW clB md ⟨nm, bd, ins, outs⟩ = false) := hide (by rw [← HRR.out, HR.out]; rw [decide_eq_false (fun e => h5 e.2.2.2.2), Bool.false_and, Bool.and_false])
              have hx : (8 : Int) < (outs.length : Int) := by omega
              clear h1 h2 h3 h4 h5
              go_enter Tryz.func43, Tryz.ntmps43
              go_wp2_with (first
                | (refine wpList_boxJ rfl 25 (.tmp 1) rfl (cs := (tsC nm bd (.slice ai ins.length ci) (.slice ao outs.length co))) rfl ?_; intro w2 hA2 hb2 hs2; have c0 := (tsC_arr hA2).1; have HA2 := hide hA2; have HB2 := hide hb2; clear hA2 hb2 hs2)
                | fail)
              refine (unhide HNM _).mono ?_
              rintro e w3 ⟨rfl, rfl⟩
              obtain ⟨c0, c1, c2, c3⟩ := tsC_arr HA2.out
              go_wp2
              refine bodyPost_ret (pwres3 (p := 6) (q := 7) (r := 8) rfl) rfl ?_
              exact ⟨vb, vo, l, md, by rw [HV.out]; rfl, hide ⟨HBO.out.below HB2.out, fun e => (by rw [HV.out] at e; cases e), by omega, HMD.out, by omega⟩⟩
          · have HV : Hid (tskO nameB ptW clB md ⟨nm, bd, ins, outs⟩ = false) := hide (by rw [← HRR.out, HR.out]; rw [decide_eq_false (fun e => h4 e.2.2.2.1), Bool.false_and, Bool.and_false])
            have hx : (outs.length : Int) < 1 := by omega
            clear h1 h2 h3 h4
            go_enter Tryz.func43, Tryz.ntmps43
            go_wp2_with (first
              | (refine wpList_boxJ rfl 25 (.tmp 1) rfl (cs := (tsC nm bd (.slice ai ins.length ci) (.slice ao outs.length co))) rfl ?_; intro w2 hA2 hb2 hs2; have c0 := (tsC_arr hA2).1; have HA2 := hide hA2; have HB2 := hide hb2; clear hA2 hb2 hs2)
              | fail)
            refine (unhide HNM _).mono ?_
            rintro e w3 ⟨rfl, rfl⟩
            obtain ⟨c0, c1, c2, c3⟩ := tsC_arr HA2.out
            go_wp2
            refine bodyPost_ret (pwres3 (p := 6) (q := 7) (r := 8) rfl) rfl ?_
            exact ⟨vb, vo, l, md, by rw [HV.out]; rfl, hide ⟨HBO.out.below HB2.out, fun e => (by rw [HV.out] at e; cases e), by omega, HMD.out, by omega⟩⟩
        · have HV : Hid (tskO nameB ptW clB md ⟨nm, bd, ins, outs⟩ = false) := hide (by rw [← HRR.out, HR.out]; rw [decide_eq_false (fun e => h3 e.2.2.1), Bool.false_and, Bool.and_false])
          have hx : (64 : Int) < (ins.length : Int) := by omega
          clear h1 h2 h3
          go_enter Tryz.func43, Tryz.ntmps43
          go_wp2_with (first
            | (refine wpList_boxJ rfl 25 (.tmp 1) rfl (cs := (tsC nm bd (.slice ai ins.length ci) (.slice ao outs.length co))) rfl ?_; intro w2 hA2 hb2 hs2; have c0 := (tsC_arr hA2).1; have HA2 := hide hA2; have HB2 := hide hb2; clear hA2 hb2 hs2)
            | fail)
          refine (unhide HNM _).mono ?_
          rintro e w3 ⟨rfl, rfl⟩
          obtain ⟨c0, c1, c2, c3⟩ := tsC_arr HA2.out
          go_wp2
          refine bodyPost_ret (pwres3 (p := 6) (q := 7) (r := 8) rfl) rfl ?_
          exact ⟨vb, vo, l, md, by rw [HV.out]; rfl, hide ⟨HBO.out.below HB2.out, fun e => (by rw [HV.out] at e; cases e), by omega, HMD.out, by omega⟩⟩
      · have HV : Hid (tskO nameB ptW clB md ⟨nm, bd, ins, outs⟩ = false) := hide (by rw [← HRR.out, HR.out]; rw [decide_eq_false (fun e => h2 e.2.1), Bool.false_and, Bool.and_false])
        have hx : 1048576 < bd := by omega
        clear h1 h2
        go_enter Tryz.func43, Tryz.ntmps43
        go_wp2_with (first
          | (refine wpList_boxJ rfl 25 (.tmp 1) rfl (cs := (tsC nm bd (.slice ai ins.length ci) (.slice ao outs.length co))) rfl ?_; intro w2 hA2 hb2 hs2; have c0 := (tsC_arr hA2).1; have HA2 := hide hA2; have HB2 := hide hb2; clear hA2 hb2 hs2)
          | fail)
        refine (unhide HNM _).mono ?_
        rintro e w3 ⟨rfl, rfl⟩
        obtain ⟨c0, c1, c2, c3⟩ := tsC_arr HA2.out
        go_wp2
        refine bodyPost_ret (pwres3 (p := 6) (q := 7) (r := 8) rfl) rfl ?_
        exact ⟨vb, vo, l, md, by rw [HV.out]; rfl, hide ⟨HBO.out.below HB2.out, fun e => (by rw [HV.out] at e; cases e), by omega, HMD.out, by omega⟩⟩
    · have HV : Hid (tskO nameB ptW clB md ⟨nm, bd, ins, outs⟩ = false) := hide (by rw [← HRR.out, HR.out]; rw [decide_eq_false (fun e => h1 e.1), Bool.false_and, Bool.and_false])
      have hx : bd < 1 := by omega
      clear h1
      go_enter Tryz.func43, Tryz.ntmps43
      go_wp2_with (first
        | (refine wpList_boxJ rfl 25 (.tmp 1) rfl (cs := (tsC nm bd (.slice ai ins.length ci) (.slice ao outs.length co))) rfl ?_; intro w2 hA2 hb2 hs2; have c0 := (tsC_arr hA2).1; have HA2 := hide hA2; have HB2 := hide hb2; clear hA2 hb2 hs2)
        | fail)
      refine (unhide HNM _).mono ?_
      rintro e w3 ⟨rfl, rfl⟩
      obtain ⟨c0, c1, c2, c3⟩ := tsC_arr HA2.out
      go_wp2
      refine bodyPost_ret (pwres3 (p := 6) (q := 7) (r := 8) rfl) rfl ?_
      exact ⟨vb, vo, l, md, by rw [HV.out]; rfl, hide ⟨HBO.out.below HB2.out, fun e => (by rw [HV.out] at e; cases e), by omega, HMD.out, by omega⟩⟩
end Go.Proofs.YtfhfobikbfbajaaGreatDoor
