/- The program's writing of a term, whole. strings.Join by the library's own contract: its layout. -/
import Derived.Test.YtfhfobikbfbajaaGreatDoorTBE
import Derived.Test.YtfhfobikbfbajaaGreatDoorTAX
import Derived.Shelf.Strings.OnBuilder
namespace Go.Proofs.YtfhfobikbfbajaaGreatDoor
open Go.RowKit Go.Maps

set_option maxRecDepth 100000 in
set_option maxHeartbeats 4000000 in
theorem wterm_calls : ∀ (d : Nat) {w W : World} {b : Nat} {l : List UInt8} {t : Tm} {u : Value} {D : Nat}, Wt w W W b l → IsTr w anyB D t.args u → smT t → fitT nameB ptW d t = true → Pg w → 2 ≤ l.length → l.length + (tmB t).length ≤ 10000000000 →
    Calls Tryz.prog 59 #[.pointer (some ⟨b, 0, none⟩), .agg (tmC t u).toArray] W fun e W' => e = .returned (.tuple #[]) ∧ Hid (Wt w W W' b (l ++ tmB t)) := by
  intro d
  induction d with
  | zero =>
    intro w W b l t u D _ _ _ hf
    simp [fitT] at hf
  | succ d ih =>
    intro w W b l t u D hw ht hs hf hP h2 hl
    obtain ⟨a, c, hu, hlc, hmc⟩ := ht.shape
    rw [fitT_succ, Bool.and_eq_true] at hf
    obtain ⟨hf1, hfa⟩ := hf
    obtain ⟨hkr, -, -, hnu⟩ := fit1_parts hf1
    have hpe := fun h1 => pB_end t h1
    rw [smT_eq] at hs
    by_cases hk1 : t.kind = 1
    · exact wlit_calls hw hk1 hs.1 hl ⟨_, _, _, hu⟩
    · obtain ⟨k, x, n, m, ag⟩ := t
      have hk1 : ¬ k = 1 := hk1
      have hkr : 1 ≤ k ∧ k ≤ 15 := hkr
      obtain ⟨kn, rfl⟩ : ∃ kn : Nat, k = (kn : Int) := ⟨k.toNat, by omega⟩
      subst hu
      have hk16 : (kn : Int) < 16 := by omega
      have hk1d : decide ((kn : Int) = 1) = false := decide_eq_false hk1
      have HK1 := hide hk1
      have HKR := hide hkr
      have HT := hide ht
      have HW := hide hw
      have HPG := hide hP
      have HBIG := hide h2
      have HLT := hide hl
      have hmq : (ag.length : Int) ≤ 9223372036854775807 := by have : ag.length ≤ c := hlc; omega
      have HALL : Hid (∀ j, j < ag.length → fitT nameB ptW d (ag.getD j .nul) = true) := hide (fun j hj => by
        rw [List.all_eq_true] at hfa
        refine hfa _ ?_
        show ag.getD j .nul ∈ ag
        rw [List.getD_eq_getElem?_getD, List.getElem?_eq_getElem hj]
        exact List.getElem_mem hj)
      have HSM : Hid (∀ j, j < ag.length → smT (ag.getD j .nul)) := hide (fun j hj => hs.2 _ (by
        show ag.getD j .nul ∈ ag
        rw [List.getD_eq_getElem?_getD, List.getElem?_eq_getElem hj]
        exact List.getElem_mem hj))
      have HLP : Hid (∀ i, i ≤ ag.length → l.length + (pB ⟨(kn : Int), x, n, m, ag⟩ i).length ≤ 10000000000 - 1) := hide (fun i hi => by
        have h1 := pB_le (t := ⟨(kn : Int), x, n, m, ag⟩) (i := i) (n := ag.length) hi (Nat.le_refl _)
        have h2 := congrArg List.length (hpe hk1)
        simp only [List.length_append, List.length_cons, List.length_nil] at h2
        have h3 : l.length + (tmB ⟨(kn : Int), x, n, m, ag⟩).length ≤ 10000000000 := hl
        have h4 : (pB ⟨(kn : Int), x, n, m, ag⟩ ag.length).length ≤ (tmB ⟨(kn : Int), x, n, m, ag⟩).length - 1 := by rw [h2]; omega
        have h5 : 1 ≤ (tmB ⟨(kn : Int), x, n, m, ag⟩).length := by rw [h2]; omega
        omega)
      obtain ⟨Nb, hNb⟩ : ∃ q, decide ((kn : Int) = 7) = q := ⟨_, rfl⟩
      have HNB := hide hNb
      have HNN : Hid (decide ((kn : Int) = 7) = true → 0 ≤ n ∧ n ≤ 2147483647 ∧ 0 ≤ m ∧ m ≤ 2147483647) := hide (fun e => by
        have h7 := of_decide_eq_true e
        have hnu : nuF (kn : Int) n m = true := hnu
        rw [nu_sh, if_pos h7] at hnu
        simp only [Bool.and_eq_true, decide_eq_true_eq] at hnu
        exact ⟨hnu.1.1, hnu.1.2, hnu.2.1, hnu.2.2⟩)
      have HIH : Hid (∀ (W2 : World) (l2 : List UInt8) (t2 : Tm) (u2 : Value) (D2 : Nat), Wt w W2 W2 b l2 → IsTr w anyB D2 t2.args u2 → smT t2 → fitT nameB ptW d t2 = true → 2 ≤ l2.length → l2.length + (tmB t2).length ≤ 10000000000 → Calls Tryz.prog 59 #[.pointer (some ⟨b, 0, none⟩), .agg (tmC t2 u2).toArray] W2 fun e W' => e = .returned (.tuple #[]) ∧ Hid (Wt w W2 W' b (l2 ++ tmB t2))) := hide (fun W2 l2 t2 u2 D2 h1 h3 h4 h5 h6 h7 => ih h1 h3 h4 h5 hP h6 h7)
      have hmf : ∀ (fn : Fn) (first cap : Array Value) (w : World), (Instr.makeFunc fn first cap).run Tryz.prog w = .ok (.func fn first cap) w := fun _ _ _ _ => rfl
      have HL0 : Hid (l.length + (wds.getD kn noText).size ≤ 100000000000) := hide (by have := HLP.out 0 (Nat.zero_le _); unfold pB at this; simp only [List.length_append] at this; rw [byL_len] at this; have e : ((kn : Int)).toNat = kn := rfl; rw [e] at this; omega)
      clear hw ht hs hf1 hfa hkr hnu hpe hP h2 hl hlc hmc hNb ih
      go_enter Tryz.func59, Tryz.ntmps59
      go_wp2_with (first
        | (refine wpList_boxJ rfl 52 (.tmp 1) rfl (cs := (tmC ⟨(kn : Int), x, n, m, ag⟩ (.slice a ag.length c))) rfl ?_; intro w2 hA2 hb2 hs2; have hA2 : Arr w2 (W.heap.size + 1) 52 (tmC ⟨(kn : Int), x, n, m, ag⟩ (.slice a ag.length c)) := (by simpa using hA2); have c0 := (tmC_arr hA2).1; have HA2 := hide hA2; have HG2 := hide ((Arr.new W [.pointer (some ⟨b, 0, none⟩)] 112).below hb2); have HB2 := hide (below_then (jalloc_below W _) hb2); have HSR := hide (HPG.out.sh.below (HW.out.below HB2.out).base kn (by have := HKR.out.1; omega) (by have := HKR.out.2; omega)); clear hA2 hb2 hs2)
        | (refine wpList_loadJ rfl 153 (.tmp 21) rfl 1 (kn * 5) rfl (shQ (kn : Int)) _ HSR.out Tryz.underlying153 rfl (infoShs2 _) ?_)
        | (refine wpList_allocJ rfl 153 rfl infoShz2 ?_)
        | (refine wpList_storeJ rfl (.tmp 4) (.tmp 22) 153 rfl rfl rfl ((Arr.new w2 zSh 153).below (jalloc_below _ _)) (infoShs2 _) rfl (shQ_one _) ?_; intro w4 hA4 hg4; have hA5 : Arr w4 (w2.heap.size + 1) 5 [.int .u8 0] := ((by simpa using Arr.new (w2.alloc (.cells zSh.toArray 153)) [.int .u8 0] 5 : Arr _ (w2.heap.size + 1) 5 [.int .u8 0]).keep (hg4.block _ (by simp) (fun e => by injection e with e; omega))); have HA4 := hide hA4; have HA5 := hide hA5; have f5 := hA5.frozen 0; have q5 := hA5.cell 0; have HB4 := hide (jbelow_grown (below_then (jalloc_below w2 (.cells zSh.toArray 153)) (jalloc_below _ (.cells #[.int .u8 0] 5))) hg4 (by simp; omega) (Nat.le_refl _)); clear hA4 hg4 hA5 c0)
        | fail)
      have HT0 : Hid (Tw w W (w4.setCell ⟨w2.heap.size + 1, 0, none⟩ (.int .u8 40)) b (l) W.heap.size (W.heap.size + 1) w2.heap.size (w2.heap.size + 1) ⟨(kn : Int), x, n, m, ag⟩ (.slice a ag.length c) 40) := hide (by
        have hs : Wt w W w4 b l := (HW.out.below HB2.out).below HB4.out
        have h5 := hs.setu HBIG.out HA5.out (by have := HB2.out.size; omega) (.int .u8 40)
        have hk : w4.grownBy (w4.setCell ⟨w2.heap.size + 1, 0, none⟩ (.int .u8 40)) (some (w2.heap.size + 1)) := pgrown_putW w4 (w2.heap.size + 1) 0 _
        have hn : ∀ g, g ≠ w2.heap.size + 1 → ∀ {tt : TypeId} {cs : List Value}, Arr w4 g tt cs → Arr (w4.setCell ⟨w2.heap.size + 1, 0, none⟩ (.int .u8 40)) g tt cs := fun g hg tt cs ha => ha.keep (hk.block g ha.lt (fun e => hg (by injection e)))
        have hz := HB2.out.size
        exact ⟨h5, hn _ (by have := HG2.out.lt; omega) (HG2.out.below HB4.out), hn _ (by have := HA2.out.lt; omega) (HA2.out.below HB4.out), hn _ (by omega) HA4.out, HA5.out.set 0 _, by omega, HBIG.out⟩)
      clear f5 q5 HA5 HA4 HB4 HG2 HA2 HSR
      have HWS : Hid (∀ W2, Below (w4.setCell ⟨w2.heap.size + 1, 0, none⟩ (.int .u8 40)).heap.size (w4.setCell ⟨w2.heap.size + 1, 0, none⟩ (.int .u8 40)) W2 → Calls Tryz.prog 58 #[.pointer (some ⟨b, 0, none⟩), .string (wds.getD kn noText)] W2 fun e W' => e = .returned (.tuple #[.int .i64 (wds.getD kn noText).size, .nilIface]) ∧ Hid (Tw w W W' b ((l) ++ byL (wds.getD kn noText)) W.heap.size (W.heap.size + 1) w2.heap.size (w2.heap.size + 1) ⟨(kn : Int), x, n, m, ag⟩ (.slice a ag.length c) 40)) := hide (fun W2 hb => HT0.out.str (wds.getD kn noText) (HL0.out) W2 hb)
      have HSS : Hid (∀ W2, (Below (w4.setCell ⟨w2.heap.size + 1, 0, none⟩ (.int .u8 40)).heap.size (w4.setCell ⟨w2.heap.size + 1, 0, none⟩ (.int .u8 40)) W2 ∨ Tw w W W2 b ((l) ++ byL (wds.getD kn noText)) W.heap.size (W.heap.size + 1) w2.heap.size (w2.heap.size + 1) ⟨(kn : Int), x, n, m, ag⟩ (.slice a ag.length c) 40) → (fun W2 => W2.cell? ⟨W.heap.size, 0, none⟩ = some (.pointer (some ⟨b, 0, none⟩)) ∧ W2.cell? ⟨W.heap.size + 1, 1, none⟩ = some (.string x) ∧ W2.cell? ⟨W.heap.size + 1, 2, none⟩ = some (.int .i64 n) ∧ W2.cell? ⟨W.heap.size + 1, 3, none⟩ = some (.int .i64 m) ∧ W2.cell? ⟨w2.heap.size, 0, none⟩ = some (.string (wds.getD kn noText))) W2) := hide (fun W2 hh => by
        have hT : ∃ l' mk', Tw w W W2 b (l') W.heap.size (W.heap.size + 1) w2.heap.size (w2.heap.size + 1) ⟨(kn : Int), x, n, m, ag⟩ (.slice a ag.length c) mk' := by
          rcases hh with hh | hh
          · exact ⟨_, _, HT0.out.below hh⟩
          · exact ⟨_, _, hh⟩
        obtain ⟨l', mk', hT⟩ := hT
        obtain ⟨q1, q2, q3, q4, _, q5, _⟩ := hT.cells
        exact ⟨q1, q2, q3, q4, q5⟩)
      focus (go_region_held3 (fun W2 => W2.cell? ⟨W.heap.size, 0, none⟩ = some (.pointer (some ⟨b, 0, none⟩)) ∧ W2.cell? ⟨W.heap.size + 1, 1, none⟩ = some (.string x) ∧ W2.cell? ⟨W.heap.size + 1, 2, none⟩ = some (.int .i64 n) ∧ W2.cell? ⟨W.heap.size + 1, 3, none⟩ = some (.int .i64 m) ∧ W2.cell? ⟨w2.heap.size, 0, none⟩ = some (.string (wds.getD kn noText)))
        ((refine unhide HSS _ ?_; first | exact Or.inr HX.out | exact Or.inl hb6 | exact Or.inl (Below.refl _ _) | exact Or.inl (Below.refl _ _).drew))
        (first
          | (go_at_call 57; refine (unhide HIT _ (by first | assumption | exact (Below.refl _ _).drew)).mono ?_; rintro e w6 ⟨rfl, hb6⟩)
          | (go_at_call 58; refine (unhide HWS _ (by first | assumption | exact (Below.refl _ _).drew)).mono ?_; rintro e w6 ⟨rfl, HX⟩)))
      clear HWS HSS
      obtain ⟨_, _, _, _, _, _, s1, _⟩ := HX.out.cells
      by_cases hh : (kn : Int) = 2 ∨ (kn : Int) = 3 ∨ (kn : Int) = 13
      · have hT : hasT (kn : Int) = true := by unfold hasT; exact decide_eq_true hh
        have htx : ¬ txM (kn : Int) = 0 := by unfold txM; rcases hh with hh | hh | hh <;> simp [hh]
        have htxd : decide (txM (kn : Int) = 0) = false := decide_eq_false htx
        have HZ0 : Hid (pB ⟨(kn : Int), x, n, m, ag⟩ 0 = byL (wds.getD kn noText) ++ (40 :: byL x)) := hide (by unfold pB; rw [if_pos hT]; simp [argB, pjB])
        have HZK : Hid (pK ⟨(kn : Int), x, n, m, ag⟩ 0 = 44) := hide (by unfold pK; rw [if_pos (Or.inl hT)])
        clear hh hT
        go_wp2_with fail
        have HPT := hide (HX.out.part (c := 40) rfl (by have := HLP.out 0 (Nat.zero_le _); rw [HZ0.out] at this; simp only [List.length_append, List.length_cons] at this ⊢; omega))
        go_wp2_with fail
        refine (unhide HPT).mono ?_
        rintro e w8 ⟨rfl, H8⟩
        clear HPT
        have H8 := hide H8.out.1
        clear s1
        go_wp2_with fail
        have HWS : Hid (∀ W2, Below (w8).heap.size (w8) W2 → Calls Tryz.prog 58 #[.pointer (some ⟨b, 0, none⟩), .string (x)] W2 fun e W' => e = .returned (.tuple #[.int .i64 (x).size, .nilIface]) ∧ Hid (Tw w W W' b (((l ++ byL (wds.getD kn noText)) ++ [40]) ++ byL (x)) W.heap.size (W.heap.size + 1) w2.heap.size (w2.heap.size + 1) ⟨(kn : Int), x, n, m, ag⟩ (.slice a ag.length c) 44)) := hide (fun W2 hb => H8.out.str (x) (by have := HLP.out 0 (Nat.zero_le _); rw [HZ0.out] at this; rw [← byL_len x]; simp only [List.length_append, List.length_cons, List.length_nil] at this ⊢; omega) W2 hb)
        have HSS : Hid (∀ W2, (Below (w8).heap.size (w8) W2 ∨ Tw w W W2 b (((l ++ byL (wds.getD kn noText)) ++ [40]) ++ byL (x)) W.heap.size (W.heap.size + 1) w2.heap.size (w2.heap.size + 1) ⟨(kn : Int), x, n, m, ag⟩ (.slice a ag.length c) 44) → (fun W2 => W2.cell? ⟨W.heap.size, 0, none⟩ = some (.pointer (some ⟨b, 0, none⟩)) ∧ W2.cell? ⟨W.heap.size + 1, 1, none⟩ = some (.string x) ∧ W2.cell? ⟨W.heap.size + 1, 2, none⟩ = some (.int .i64 n) ∧ W2.cell? ⟨W.heap.size + 1, 3, none⟩ = some (.int .i64 m) ∧ W2.cell? ⟨w2.heap.size, 0, none⟩ = some (.string (wds.getD kn noText))) W2) := hide (fun W2 hh => by
          have hT : ∃ l' mk', Tw w W W2 b (l') W.heap.size (W.heap.size + 1) w2.heap.size (w2.heap.size + 1) ⟨(kn : Int), x, n, m, ag⟩ (.slice a ag.length c) mk' := by
            rcases hh with hh | hh
            · exact ⟨_, _, H8.out.below hh⟩
            · exact ⟨_, _, hh⟩
          obtain ⟨l', mk', hT⟩ := hT
          obtain ⟨q1, q2, q3, q4, _, q5, _⟩ := hT.cells
          exact ⟨q1, q2, q3, q4, q5⟩)
        focus (go_region_held3 (fun W2 => W2.cell? ⟨W.heap.size, 0, none⟩ = some (.pointer (some ⟨b, 0, none⟩)) ∧ W2.cell? ⟨W.heap.size + 1, 1, none⟩ = some (.string x) ∧ W2.cell? ⟨W.heap.size + 1, 2, none⟩ = some (.int .i64 n) ∧ W2.cell? ⟨W.heap.size + 1, 3, none⟩ = some (.int .i64 m) ∧ W2.cell? ⟨w2.heap.size, 0, none⟩ = some (.string (wds.getD kn noText)))
          ((refine unhide HSS _ ?_; first | exact Or.inr H9.out | exact Or.inl hb6 | exact Or.inl (Below.refl _ _) | exact Or.inl (Below.refl _ _).drew))
          (first
            | (go_at_call 57; refine (unhide HIT _ (by first | assumption | exact (Below.refl _ _).drew)).mono ?_; rintro e w6 ⟨rfl, hb6⟩)
            | (go_at_call 58; refine (unhide HWS _ (by first | assumption | exact (Below.refl _ _).drew)).mono ?_; rintro e w9 ⟨rfl, H9⟩)))
        clear HWS HSS
        have HQ : Hid (Tw w W w9 b (l ++ pB ⟨(kn : Int), x, n, m, ag⟩ 0) W.heap.size (W.heap.size + 1) w2.heap.size (w2.heap.size + 1) ⟨(kn : Int), x, n, m, ag⟩ (.slice a ag.length c) ((pK ⟨(kn : Int), x, n, m, ag⟩ 0).toNat : Int)) := hide (by have := H9.out; rw [HZ0.out, HZK.out, show l ++ (byL (wds.getD kn noText) ++ (40 :: byL x)) = ((l ++ byL (wds.getD kn noText)) ++ [40]) ++ byL x by simp]; exact this)
        clear H9 H8 HX
        obtain ⟨_, _, _, _, c4, _⟩ := HQ.out.cells
        have HQW := hide HQ.out
        clear HQ
        go_wp2_with fail
        go_loopw [44] (fun iv wr => ∃ j : Nat, iv = .int .i64 (j : Int) ∧ j ≤ ag.length ∧ Hid (Tw w W wr b (l ++ pB ⟨(kn : Int), x, n, m, ag⟩ j) W.heap.size (W.heap.size + 1) w2.heap.size (w2.heap.size + 1) ⟨(kn : Int), x, n, m, ag⟩ (.slice a ag.length c) ((pK ⟨(kn : Int), x, n, m, ag⟩ j).toNat : Int))) (fun iv _ => ag.length - (intOf iv).toNat)
        case atStart => exact ⟨0, rfl, Nat.zero_le _, HQW.out⟩
        case round =>
          obtain ⟨j, rfl, hjq, HJ⟩ := hrel
          by_cases hlt : j < ag.length
          · have hlti : (j : Int) < (ag.length : Int) := by omega
            obtain ⟨b', o, c', e, u', hv, hd, hrg, htm⟩ := IsTr.at HT.out hlt
            cases hv
            have HHT := hide htm
            have hrr := rangeAt_below hrg HJ.out.wt.base
            have hone := htm.one
            have HST := hide (pB_step (t := ⟨(kn : Int), x, n, m, ag⟩) (i := j) hlt)
            have HAJ := hide (HALL.out j hlt)
            have HSJ := hide (HSM.out j hlt)
            have HLJ := hide (HLP.out (j + 1) (by omega))
            have HST : Hid (pB ⟨(kn : Int), x, n, m, ag⟩ (j + 1) = (pB ⟨(kn : Int), x, n, m, ag⟩ j ++ [pK ⟨(kn : Int), x, n, m, ag⟩ j]) ++ tmB (ag.getD j .nul)) := HST
            obtain ⟨tj, htj⟩ : ∃ x, x = ag.getD j .nul := ⟨_, rfl⟩
            rw [← htj] at HHT hrr HST HAJ HSJ
            have hwj : IntKind.i64.wrap ((j : Int) + 1) = ((j + 1 : Nat) : Int) := by rw [IntKind.wrap_i64]; omega
            clear hrg htm htj hd c4
            go_wp2_with (first
              | (refine wpList_loadJ rfl 52 (.tmp 46) rfl b' (o + j * 5) rfl (tmC tj u') _ hrr Tryz.underlying52 rfl (infoTms _ _) ?_)
              | (refine wpList_allocJ rfl 52 rfl infoTmz ?_)
              | (refine wpList_storeJ rfl (.tmp 8) (.tmp 47) 52 rfl rfl rfl (Arr.new wr zTm 52) (infoTms _ _) rfl (tmC_one tj hone) ?_; intro w10 hA10 hg10; have HB10 := hide (jbelow_grown (jalloc_below wr (.cells zTm.toArray 52)) hg10 (by simp) (Nat.le_refl _)); have HA10 := hide hA10; have HJ10 := hide (HJ.out.below HB10.out); have HPT := hide (HJ10.out.part (c := pK ⟨(kn : Int), x, n, m, ag⟩ j) rfl (by have := HLJ.out; rw [HST.out] at this; simp only [List.length_append] at this ⊢; omega)); clear hA10 hg10)
              | fail)
            refine (unhide HPT).mono ?_
            rintro e w11 ⟨rfl, HX11⟩
            have HA11 := hide (HA10.out.ch HX11.out.2 (by unfold WtT; decide))
            obtain ⟨c2, -⟩ := HX11.out.1.cells
            have hr11 := HA11.out.rangeJ
            have HTC := hide (HIH.out w11 _ tj u' _ HX11.out.1.wt.rebase HHT.out HSJ.out HAJ.out HX11.out.1.big (by have := HLJ.out; rw [HST.out] at this; simp only [List.length_append, List.length_cons, List.length_nil] at this ⊢; omega))
            clear HPT hrr
            go_wp2_with (first
              | (refine wpList_loadJ rfl 52 (.tmp 8) rfl wr.heap.size 0 rfl (tmC tj u') _ hr11 Tryz.underlying52 rfl (infoTms _ _) ?_)
              | fail)
            refine (unhide HTC).mono ?_
            rintro e w12 ⟨rfl, HX12⟩
            have HJ12 := hide (HX11.out.1.to HX12.out (by simp))
            clear HTC
            go_wp2
            go_roundw
            case rel => exact ⟨j + 1, by go_num, by omega, hide (by have := HJ12.out; rw [HST.out]; simpa [pK, ← List.append_assoc] using this)⟩
            case measure => simp [intOf]; omega
          · have hlti : ¬ (j : Int) < (ag.length : Int) := by omega
            have hltd : decide ((j : Int) < (ag.length : Int)) = false := decide_eq_false hlti
            have HE : Hid (Tw w W wr b (l ++ pB ⟨(kn : Int), x, n, m, ag⟩ ag.length) W.heap.size (W.heap.size + 1) w2.heap.size (w2.heap.size + 1) ⟨(kn : Int), x, n, m, ag⟩ (.slice a ag.length c) ((pK ⟨(kn : Int), x, n, m, ag⟩ ag.length).toNat : Int)) := hide (by have := HJ.out; rw [show j = ag.length by omega] at this; exact this)
            clear HJ c4
            obtain ⟨_, _, _, _, _, _, _, s4⟩ := HE.out.cells
            rw [show decide ((kn : Int) = 7) = Nb from HNB.out] at s4
            cases Nb with
            | false =>
              have HEQ : Hid (l ++ tmB ⟨(kn : Int), x, n, m, ag⟩ = l ++ pB ⟨(kn : Int), x, n, m, ag⟩ ag.length ++ [41]) := hide (by rw [pB_end _ HK1.out, if_neg (of_decide_eq_false HNB.out), List.nil_append, List.append_assoc])
              obtain ⟨c2, -⟩ := HE.out.cells
              have HBT := hide (HE.out.byt 41 (z := 41) rfl (by have := HLP.out ag.length (Nat.le_refl _); simp only [List.length_append]; omega))
              go_wp2_with fail
              refine (unhide HBT).mono ?_
              rintro e wz ⟨rfl, HZ⟩
              go_wp2
              refine bodyPost_end (results_none rfl _ _ _) rfl ?_
              exact ⟨rfl, hide (by rw [HEQ.out]; exact HZ.out.wt)⟩
            | true =>
              have HEQ : Hid (l ++ tmB ⟨(kn : Int), x, n, m, ag⟩ = ((((l ++ pB ⟨(kn : Int), x, n, m, ag⟩ ag.length ++ [pK ⟨(kn : Int), x, n, m, ag⟩ ag.length]) ++ byL (decW n)) ++ [44]) ++ byL (decW m)) ++ [41]) := hide (by rw [pB_end _ HK1.out, if_pos (of_decide_eq_true HNB.out)]; simp)
              have HLQ : Hid ((l ++ pB ⟨(kn : Int), x, n, m, ag⟩ ag.length).length + 3 + (byL (decW n)).length + (byL (decW m)).length ≤ 10000000000) := hide (by have h1 := HLT.out; have h2 := congrArg List.length HEQ.out; simp only [List.length_append, List.length_cons, List.length_nil] at h1 h2 ⊢; omega)
              have HPT := hide (HE.out.part (c := pK ⟨(kn : Int), x, n, m, ag⟩ ag.length) rfl (by have := HLQ.out; omega))
              go_wp2_with fail
              refine (unhide HPT).mono ?_
              rintro e wa ⟨rfl, HA⟩
              clear HPT
              have HA := hide HA.out.1
              have HIT : Hid (∀ W2, Below wa.heap.size wa W2 → Calls Tryz.prog 57 #[.int .i64 n] W2 fun e w' => e = .returned (.string (decW n)) ∧ Below wa.heap.size wa w') := hide (fun W2 hb => by have := itoa_callsY n (by have := (HNN.out HNB.out).1; omega) (by have := (HNN.out HNB.out).2.1; omega) W2 ((HA.out.below hb).pg HPG.out).nx; rw [itoa_dec (HNN.out HNB.out).1] at this; exact this.mono fun e w' ⟨e1, e2⟩ => ⟨e1, below_then hb e2⟩)
              go_wp2_with fail
              have HWS : Hid (∀ W2, Below (wa).heap.size (wa) W2 → Calls Tryz.prog 58 #[.pointer (some ⟨b, 0, none⟩), .string (decW n)] W2 fun e W' => e = .returned (.tuple #[.int .i64 (decW n).size, .nilIface]) ∧ Hid (Tw w W W' b ((l ++ pB ⟨(kn : Int), x, n, m, ag⟩ ag.length ++ [pK ⟨(kn : Int), x, n, m, ag⟩ ag.length]) ++ byL (decW n)) W.heap.size (W.heap.size + 1) w2.heap.size (w2.heap.size + 1) ⟨(kn : Int), x, n, m, ag⟩ (.slice a ag.length c) 44)) := hide (fun W2 hb => HA.out.str (decW n) (by have := HLQ.out; rw [← byL_len]; simp only [List.length_append, List.length_cons, List.length_nil] at this ⊢; omega) W2 hb)
              have HSS : Hid (∀ W2, (Below (wa).heap.size (wa) W2 ∨ Tw w W W2 b ((l ++ pB ⟨(kn : Int), x, n, m, ag⟩ ag.length ++ [pK ⟨(kn : Int), x, n, m, ag⟩ ag.length]) ++ byL (decW n)) W.heap.size (W.heap.size + 1) w2.heap.size (w2.heap.size + 1) ⟨(kn : Int), x, n, m, ag⟩ (.slice a ag.length c) 44) → (fun W2 => W2.cell? ⟨W.heap.size, 0, none⟩ = some (.pointer (some ⟨b, 0, none⟩)) ∧ W2.cell? ⟨W.heap.size + 1, 1, none⟩ = some (.string x) ∧ W2.cell? ⟨W.heap.size + 1, 2, none⟩ = some (.int .i64 n) ∧ W2.cell? ⟨W.heap.size + 1, 3, none⟩ = some (.int .i64 m) ∧ W2.cell? ⟨w2.heap.size, 0, none⟩ = some (.string (wds.getD kn noText))) W2) := hide (fun W2 hh => by
                have hT : ∃ l' mk', Tw w W W2 b (l') W.heap.size (W.heap.size + 1) w2.heap.size (w2.heap.size + 1) ⟨(kn : Int), x, n, m, ag⟩ (.slice a ag.length c) mk' := by
                  rcases hh with hh | hh
                  · exact ⟨_, _, HA.out.below hh⟩
                  · exact ⟨_, _, hh⟩
                obtain ⟨l', mk', hT⟩ := hT
                obtain ⟨q1, q2, q3, q4, _, q5, _⟩ := hT.cells
                exact ⟨q1, q2, q3, q4, q5⟩)
              focus (go_region_held3 (fun W2 => W2.cell? ⟨W.heap.size, 0, none⟩ = some (.pointer (some ⟨b, 0, none⟩)) ∧ W2.cell? ⟨W.heap.size + 1, 1, none⟩ = some (.string x) ∧ W2.cell? ⟨W.heap.size + 1, 2, none⟩ = some (.int .i64 n) ∧ W2.cell? ⟨W.heap.size + 1, 3, none⟩ = some (.int .i64 m) ∧ W2.cell? ⟨w2.heap.size, 0, none⟩ = some (.string (wds.getD kn noText)))
                ((refine unhide HSS _ ?_; first | exact Or.inr HB.out | exact Or.inl hb6 | exact Or.inl (Below.refl _ _) | exact Or.inl (Below.refl _ _).drew))
                (first
                  | (go_at_call 57; refine (unhide HIT _ (by first | assumption | exact (Below.refl _ _).drew)).mono ?_; rintro e w6 ⟨rfl, hb6⟩)
                  | (go_at_call 58; refine (unhide HWS _ (by first | assumption | exact (Below.refl _ _).drew)).mono ?_; rintro e wb ⟨rfl, HB⟩)))
              clear HWS HSS
              clear HIT
              have HPT := hide (HB.out.part (c := 44) rfl (by have := HLQ.out; simp only [List.length_append, List.length_cons, List.length_nil] at this ⊢; omega))
              go_wp2_with fail
              refine (unhide HPT).mono ?_
              rintro e wc ⟨rfl, HC⟩
              clear HPT
              have HC := hide HC.out.1
              have HIT : Hid (∀ W2, Below wc.heap.size wc W2 → Calls Tryz.prog 57 #[.int .i64 m] W2 fun e w' => e = .returned (.string (decW m)) ∧ Below wc.heap.size wc w') := hide (fun W2 hb => by have := itoa_callsY m (by have := (HNN.out HNB.out).2.2.1; omega) (by have := (HNN.out HNB.out).2.2.2; omega) W2 ((HC.out.below hb).pg HPG.out).nx; rw [itoa_dec (HNN.out HNB.out).2.2.1] at this; exact this.mono fun e w' ⟨e1, e2⟩ => ⟨e1, below_then hb e2⟩)
              go_wp2_with fail
              have HWS : Hid (∀ W2, Below (wc).heap.size (wc) W2 → Calls Tryz.prog 58 #[.pointer (some ⟨b, 0, none⟩), .string (decW m)] W2 fun e W' => e = .returned (.tuple #[.int .i64 (decW m).size, .nilIface]) ∧ Hid (Tw w W W' b ((((l ++ pB ⟨(kn : Int), x, n, m, ag⟩ ag.length ++ [pK ⟨(kn : Int), x, n, m, ag⟩ ag.length]) ++ byL (decW n)) ++ [44]) ++ byL (decW m)) W.heap.size (W.heap.size + 1) w2.heap.size (w2.heap.size + 1) ⟨(kn : Int), x, n, m, ag⟩ (.slice a ag.length c) 44)) := hide (fun W2 hb => HC.out.str (decW m) (by have := HLQ.out; rw [← byL_len (decW m)]; simp only [List.length_append, List.length_cons, List.length_nil] at this ⊢; omega) W2 hb)
              have HSS : Hid (∀ W2, (Below (wc).heap.size (wc) W2 ∨ Tw w W W2 b ((((l ++ pB ⟨(kn : Int), x, n, m, ag⟩ ag.length ++ [pK ⟨(kn : Int), x, n, m, ag⟩ ag.length]) ++ byL (decW n)) ++ [44]) ++ byL (decW m)) W.heap.size (W.heap.size + 1) w2.heap.size (w2.heap.size + 1) ⟨(kn : Int), x, n, m, ag⟩ (.slice a ag.length c) 44) → (fun W2 => W2.cell? ⟨W.heap.size, 0, none⟩ = some (.pointer (some ⟨b, 0, none⟩)) ∧ W2.cell? ⟨W.heap.size + 1, 1, none⟩ = some (.string x) ∧ W2.cell? ⟨W.heap.size + 1, 2, none⟩ = some (.int .i64 n) ∧ W2.cell? ⟨W.heap.size + 1, 3, none⟩ = some (.int .i64 m) ∧ W2.cell? ⟨w2.heap.size, 0, none⟩ = some (.string (wds.getD kn noText))) W2) := hide (fun W2 hh => by
                have hT : ∃ l' mk', Tw w W W2 b (l') W.heap.size (W.heap.size + 1) w2.heap.size (w2.heap.size + 1) ⟨(kn : Int), x, n, m, ag⟩ (.slice a ag.length c) mk' := by
                  rcases hh with hh | hh
                  · exact ⟨_, _, HC.out.below hh⟩
                  · exact ⟨_, _, hh⟩
                obtain ⟨l', mk', hT⟩ := hT
                obtain ⟨q1, q2, q3, q4, _, q5, _⟩ := hT.cells
                exact ⟨q1, q2, q3, q4, q5⟩)
              focus (go_region_held3 (fun W2 => W2.cell? ⟨W.heap.size, 0, none⟩ = some (.pointer (some ⟨b, 0, none⟩)) ∧ W2.cell? ⟨W.heap.size + 1, 1, none⟩ = some (.string x) ∧ W2.cell? ⟨W.heap.size + 1, 2, none⟩ = some (.int .i64 n) ∧ W2.cell? ⟨W.heap.size + 1, 3, none⟩ = some (.int .i64 m) ∧ W2.cell? ⟨w2.heap.size, 0, none⟩ = some (.string (wds.getD kn noText)))
                ((refine unhide HSS _ ?_; first | exact Or.inr HD.out | exact Or.inl hb6 | exact Or.inl (Below.refl _ _) | exact Or.inl (Below.refl _ _).drew))
                (first
                  | (go_at_call 57; refine (unhide HIT _ (by first | assumption | exact (Below.refl _ _).drew)).mono ?_; rintro e w6 ⟨rfl, hb6⟩)
                  | (go_at_call 58; refine (unhide HWS _ (by first | assumption | exact (Below.refl _ _).drew)).mono ?_; rintro e wd ⟨rfl, HD⟩)))
              clear HWS HSS
              obtain ⟨c2, -⟩ := HD.out.cells
              have HBT := hide (HD.out.byt 41 (z := 41) rfl (by have := HLQ.out; simp only [List.length_append, List.length_cons, List.length_nil] at this ⊢; omega))
              go_wp2_with fail
              refine (unhide HBT).mono ?_
              rintro e wz ⟨rfl, HZ⟩
              go_wp2
              refine bodyPost_end (results_none rfl _ _ _) rfl ?_
              exact ⟨rfl, hide (by rw [HEQ.out]; exact HZ.out.wt)⟩
      · have hT : ¬ hasT (kn : Int) = true := by unfold hasT; intro q; exact hh (of_decide_eq_true q)
        have htx : txM (kn : Int) = 0 := by unfold txM; rw [if_neg HK1.out, if_neg (fun q => hh (Or.inl q)), if_neg (fun q => hh (Or.inr q))]
        have HZ0 : Hid (pB ⟨(kn : Int), x, n, m, ag⟩ 0 = byL (wds.getD kn noText)) := hide (by unfold pB; rw [if_neg hT]; simp [argB, pjB])
        have HZK : Hid (pK ⟨(kn : Int), x, n, m, ag⟩ 0 = 40) := hide (by unfold pK; rw [if_neg]; rintro (q | q); exact hT q; omega)
        have HQ : Hid (Tw w W w6 b (l ++ pB ⟨(kn : Int), x, n, m, ag⟩ 0) W.heap.size (W.heap.size + 1) w2.heap.size (w2.heap.size + 1) ⟨(kn : Int), x, n, m, ag⟩ (.slice a ag.length c) ((pK ⟨(kn : Int), x, n, m, ag⟩ 0).toNat : Int)) := hide (by have := HX.out; rw [HZ0.out, HZK.out]; simpa using this)
        rw [htx] at s1
        clear hh hT HX
        obtain ⟨_, _, _, _, c4, _⟩ := HQ.out.cells
        have HQW := hide HQ.out
        clear HQ
        go_wp2_with fail
        go_loopw [44] (fun iv wr => ∃ j : Nat, iv = .int .i64 (j : Int) ∧ j ≤ ag.length ∧ Hid (Tw w W wr b (l ++ pB ⟨(kn : Int), x, n, m, ag⟩ j) W.heap.size (W.heap.size + 1) w2.heap.size (w2.heap.size + 1) ⟨(kn : Int), x, n, m, ag⟩ (.slice a ag.length c) ((pK ⟨(kn : Int), x, n, m, ag⟩ j).toNat : Int))) (fun iv _ => ag.length - (intOf iv).toNat)
        case atStart => exact ⟨0, rfl, Nat.zero_le _, HQW.out⟩
        case round =>
          obtain ⟨j, rfl, hjq, HJ⟩ := hrel
          by_cases hlt : j < ag.length
          · have hlti : (j : Int) < (ag.length : Int) := by omega
            obtain ⟨b', o, c', e, u', hv, hd, hrg, htm⟩ := IsTr.at HT.out hlt
            cases hv
            have HHT := hide htm
            have hrr := rangeAt_below hrg HJ.out.wt.base
            have hone := htm.one
            have HST := hide (pB_step (t := ⟨(kn : Int), x, n, m, ag⟩) (i := j) hlt)
            have HAJ := hide (HALL.out j hlt)
            have HSJ := hide (HSM.out j hlt)
            have HLJ := hide (HLP.out (j + 1) (by omega))
            have HST : Hid (pB ⟨(kn : Int), x, n, m, ag⟩ (j + 1) = (pB ⟨(kn : Int), x, n, m, ag⟩ j ++ [pK ⟨(kn : Int), x, n, m, ag⟩ j]) ++ tmB (ag.getD j .nul)) := HST
            obtain ⟨tj, htj⟩ : ∃ x, x = ag.getD j .nul := ⟨_, rfl⟩
            rw [← htj] at HHT hrr HST HAJ HSJ
            have hwj : IntKind.i64.wrap ((j : Int) + 1) = ((j + 1 : Nat) : Int) := by rw [IntKind.wrap_i64]; omega
            clear hrg htm htj hd c4
            go_wp2_with (first
              | (refine wpList_loadJ rfl 52 (.tmp 46) rfl b' (o + j * 5) rfl (tmC tj u') _ hrr Tryz.underlying52 rfl (infoTms _ _) ?_)
              | (refine wpList_allocJ rfl 52 rfl infoTmz ?_)
              | (refine wpList_storeJ rfl (.tmp 8) (.tmp 47) 52 rfl rfl rfl (Arr.new wr zTm 52) (infoTms _ _) rfl (tmC_one tj hone) ?_; intro w10 hA10 hg10; have HB10 := hide (jbelow_grown (jalloc_below wr (.cells zTm.toArray 52)) hg10 (by simp) (Nat.le_refl _)); have HA10 := hide hA10; have HJ10 := hide (HJ.out.below HB10.out); have HPT := hide (HJ10.out.part (c := pK ⟨(kn : Int), x, n, m, ag⟩ j) rfl (by have := HLJ.out; rw [HST.out] at this; simp only [List.length_append] at this ⊢; omega)); clear hA10 hg10)
              | fail)
            refine (unhide HPT).mono ?_
            rintro e w11 ⟨rfl, HX11⟩
            have HA11 := hide (HA10.out.ch HX11.out.2 (by unfold WtT; decide))
            obtain ⟨c2, -⟩ := HX11.out.1.cells
            have hr11 := HA11.out.rangeJ
            have HTC := hide (HIH.out w11 _ tj u' _ HX11.out.1.wt.rebase HHT.out HSJ.out HAJ.out HX11.out.1.big (by have := HLJ.out; rw [HST.out] at this; simp only [List.length_append, List.length_cons, List.length_nil] at this ⊢; omega))
            clear HPT hrr
            go_wp2_with (first
              | (refine wpList_loadJ rfl 52 (.tmp 8) rfl wr.heap.size 0 rfl (tmC tj u') _ hr11 Tryz.underlying52 rfl (infoTms _ _) ?_)
              | fail)
            refine (unhide HTC).mono ?_
            rintro e w12 ⟨rfl, HX12⟩
            have HJ12 := hide (HX11.out.1.to HX12.out (by simp))
            clear HTC
            go_wp2
            go_roundw
            case rel => exact ⟨j + 1, by go_num, by omega, hide (by have := HJ12.out; rw [HST.out]; simpa [pK, ← List.append_assoc] using this)⟩
            case measure => simp [intOf]; omega
          · have hlti : ¬ (j : Int) < (ag.length : Int) := by omega
            have hltd : decide ((j : Int) < (ag.length : Int)) = false := decide_eq_false hlti
            have HE : Hid (Tw w W wr b (l ++ pB ⟨(kn : Int), x, n, m, ag⟩ ag.length) W.heap.size (W.heap.size + 1) w2.heap.size (w2.heap.size + 1) ⟨(kn : Int), x, n, m, ag⟩ (.slice a ag.length c) ((pK ⟨(kn : Int), x, n, m, ag⟩ ag.length).toNat : Int)) := hide (by have := HJ.out; rw [show j = ag.length by omega] at this; exact this)
            clear HJ c4
            obtain ⟨_, _, _, _, _, _, _, s4⟩ := HE.out.cells
            rw [show decide ((kn : Int) = 7) = Nb from HNB.out] at s4
            cases Nb with
            | false =>
              have HEQ : Hid (l ++ tmB ⟨(kn : Int), x, n, m, ag⟩ = l ++ pB ⟨(kn : Int), x, n, m, ag⟩ ag.length ++ [41]) := hide (by rw [pB_end _ HK1.out, if_neg (of_decide_eq_false HNB.out), List.nil_append, List.append_assoc])
              obtain ⟨c2, -⟩ := HE.out.cells
              have HBT := hide (HE.out.byt 41 (z := 41) rfl (by have := HLP.out ag.length (Nat.le_refl _); simp only [List.length_append]; omega))
              go_wp2_with fail
              refine (unhide HBT).mono ?_
              rintro e wz ⟨rfl, HZ⟩
              go_wp2
              refine bodyPost_end (results_none rfl _ _ _) rfl ?_
              exact ⟨rfl, hide (by rw [HEQ.out]; exact HZ.out.wt)⟩
            | true =>
              have HEQ : Hid (l ++ tmB ⟨(kn : Int), x, n, m, ag⟩ = ((((l ++ pB ⟨(kn : Int), x, n, m, ag⟩ ag.length ++ [pK ⟨(kn : Int), x, n, m, ag⟩ ag.length]) ++ byL (decW n)) ++ [44]) ++ byL (decW m)) ++ [41]) := hide (by rw [pB_end _ HK1.out, if_pos (of_decide_eq_true HNB.out)]; simp)
              have HLQ : Hid ((l ++ pB ⟨(kn : Int), x, n, m, ag⟩ ag.length).length + 3 + (byL (decW n)).length + (byL (decW m)).length ≤ 10000000000) := hide (by have h1 := HLT.out; have h2 := congrArg List.length HEQ.out; simp only [List.length_append, List.length_cons, List.length_nil] at h1 h2 ⊢; omega)
              have HPT := hide (HE.out.part (c := pK ⟨(kn : Int), x, n, m, ag⟩ ag.length) rfl (by have := HLQ.out; omega))
              go_wp2_with fail
              refine (unhide HPT).mono ?_
              rintro e wa ⟨rfl, HA⟩
              clear HPT
              have HA := hide HA.out.1
              have HIT : Hid (∀ W2, Below wa.heap.size wa W2 → Calls Tryz.prog 57 #[.int .i64 n] W2 fun e w' => e = .returned (.string (decW n)) ∧ Below wa.heap.size wa w') := hide (fun W2 hb => by have := itoa_callsY n (by have := (HNN.out HNB.out).1; omega) (by have := (HNN.out HNB.out).2.1; omega) W2 ((HA.out.below hb).pg HPG.out).nx; rw [itoa_dec (HNN.out HNB.out).1] at this; exact this.mono fun e w' ⟨e1, e2⟩ => ⟨e1, below_then hb e2⟩)
              go_wp2_with fail
              have HWS : Hid (∀ W2, Below (wa).heap.size (wa) W2 → Calls Tryz.prog 58 #[.pointer (some ⟨b, 0, none⟩), .string (decW n)] W2 fun e W' => e = .returned (.tuple #[.int .i64 (decW n).size, .nilIface]) ∧ Hid (Tw w W W' b ((l ++ pB ⟨(kn : Int), x, n, m, ag⟩ ag.length ++ [pK ⟨(kn : Int), x, n, m, ag⟩ ag.length]) ++ byL (decW n)) W.heap.size (W.heap.size + 1) w2.heap.size (w2.heap.size + 1) ⟨(kn : Int), x, n, m, ag⟩ (.slice a ag.length c) 44)) := hide (fun W2 hb => HA.out.str (decW n) (by have := HLQ.out; rw [← byL_len]; simp only [List.length_append, List.length_cons, List.length_nil] at this ⊢; omega) W2 hb)
              have HSS : Hid (∀ W2, (Below (wa).heap.size (wa) W2 ∨ Tw w W W2 b ((l ++ pB ⟨(kn : Int), x, n, m, ag⟩ ag.length ++ [pK ⟨(kn : Int), x, n, m, ag⟩ ag.length]) ++ byL (decW n)) W.heap.size (W.heap.size + 1) w2.heap.size (w2.heap.size + 1) ⟨(kn : Int), x, n, m, ag⟩ (.slice a ag.length c) 44) → (fun W2 => W2.cell? ⟨W.heap.size, 0, none⟩ = some (.pointer (some ⟨b, 0, none⟩)) ∧ W2.cell? ⟨W.heap.size + 1, 1, none⟩ = some (.string x) ∧ W2.cell? ⟨W.heap.size + 1, 2, none⟩ = some (.int .i64 n) ∧ W2.cell? ⟨W.heap.size + 1, 3, none⟩ = some (.int .i64 m) ∧ W2.cell? ⟨w2.heap.size, 0, none⟩ = some (.string (wds.getD kn noText))) W2) := hide (fun W2 hh => by
                have hT : ∃ l' mk', Tw w W W2 b (l') W.heap.size (W.heap.size + 1) w2.heap.size (w2.heap.size + 1) ⟨(kn : Int), x, n, m, ag⟩ (.slice a ag.length c) mk' := by
                  rcases hh with hh | hh
                  · exact ⟨_, _, HA.out.below hh⟩
                  · exact ⟨_, _, hh⟩
                obtain ⟨l', mk', hT⟩ := hT
                obtain ⟨q1, q2, q3, q4, _, q5, _⟩ := hT.cells
                exact ⟨q1, q2, q3, q4, q5⟩)
              focus (go_region_held3 (fun W2 => W2.cell? ⟨W.heap.size, 0, none⟩ = some (.pointer (some ⟨b, 0, none⟩)) ∧ W2.cell? ⟨W.heap.size + 1, 1, none⟩ = some (.string x) ∧ W2.cell? ⟨W.heap.size + 1, 2, none⟩ = some (.int .i64 n) ∧ W2.cell? ⟨W.heap.size + 1, 3, none⟩ = some (.int .i64 m) ∧ W2.cell? ⟨w2.heap.size, 0, none⟩ = some (.string (wds.getD kn noText)))
                ((refine unhide HSS _ ?_; first | exact Or.inr HB.out | exact Or.inl hb6 | exact Or.inl (Below.refl _ _) | exact Or.inl (Below.refl _ _).drew))
                (first
                  | (go_at_call 57; refine (unhide HIT _ (by first | assumption | exact (Below.refl _ _).drew)).mono ?_; rintro e w6 ⟨rfl, hb6⟩)
                  | (go_at_call 58; refine (unhide HWS _ (by first | assumption | exact (Below.refl _ _).drew)).mono ?_; rintro e wb ⟨rfl, HB⟩)))
              clear HWS HSS
              clear HIT
              have HPT := hide (HB.out.part (c := 44) rfl (by have := HLQ.out; simp only [List.length_append, List.length_cons, List.length_nil] at this ⊢; omega))
              go_wp2_with fail
              refine (unhide HPT).mono ?_
              rintro e wc ⟨rfl, HC⟩
              clear HPT
              have HC := hide HC.out.1
              have HIT : Hid (∀ W2, Below wc.heap.size wc W2 → Calls Tryz.prog 57 #[.int .i64 m] W2 fun e w' => e = .returned (.string (decW m)) ∧ Below wc.heap.size wc w') := hide (fun W2 hb => by have := itoa_callsY m (by have := (HNN.out HNB.out).2.2.1; omega) (by have := (HNN.out HNB.out).2.2.2; omega) W2 ((HC.out.below hb).pg HPG.out).nx; rw [itoa_dec (HNN.out HNB.out).2.2.1] at this; exact this.mono fun e w' ⟨e1, e2⟩ => ⟨e1, below_then hb e2⟩)
              go_wp2_with fail
              have HWS : Hid (∀ W2, Below (wc).heap.size (wc) W2 → Calls Tryz.prog 58 #[.pointer (some ⟨b, 0, none⟩), .string (decW m)] W2 fun e W' => e = .returned (.tuple #[.int .i64 (decW m).size, .nilIface]) ∧ Hid (Tw w W W' b ((((l ++ pB ⟨(kn : Int), x, n, m, ag⟩ ag.length ++ [pK ⟨(kn : Int), x, n, m, ag⟩ ag.length]) ++ byL (decW n)) ++ [44]) ++ byL (decW m)) W.heap.size (W.heap.size + 1) w2.heap.size (w2.heap.size + 1) ⟨(kn : Int), x, n, m, ag⟩ (.slice a ag.length c) 44)) := hide (fun W2 hb => HC.out.str (decW m) (by have := HLQ.out; rw [← byL_len (decW m)]; simp only [List.length_append, List.length_cons, List.length_nil] at this ⊢; omega) W2 hb)
              have HSS : Hid (∀ W2, (Below (wc).heap.size (wc) W2 ∨ Tw w W W2 b ((((l ++ pB ⟨(kn : Int), x, n, m, ag⟩ ag.length ++ [pK ⟨(kn : Int), x, n, m, ag⟩ ag.length]) ++ byL (decW n)) ++ [44]) ++ byL (decW m)) W.heap.size (W.heap.size + 1) w2.heap.size (w2.heap.size + 1) ⟨(kn : Int), x, n, m, ag⟩ (.slice a ag.length c) 44) → (fun W2 => W2.cell? ⟨W.heap.size, 0, none⟩ = some (.pointer (some ⟨b, 0, none⟩)) ∧ W2.cell? ⟨W.heap.size + 1, 1, none⟩ = some (.string x) ∧ W2.cell? ⟨W.heap.size + 1, 2, none⟩ = some (.int .i64 n) ∧ W2.cell? ⟨W.heap.size + 1, 3, none⟩ = some (.int .i64 m) ∧ W2.cell? ⟨w2.heap.size, 0, none⟩ = some (.string (wds.getD kn noText))) W2) := hide (fun W2 hh => by
                have hT : ∃ l' mk', Tw w W W2 b (l') W.heap.size (W.heap.size + 1) w2.heap.size (w2.heap.size + 1) ⟨(kn : Int), x, n, m, ag⟩ (.slice a ag.length c) mk' := by
                  rcases hh with hh | hh
                  · exact ⟨_, _, HC.out.below hh⟩
                  · exact ⟨_, _, hh⟩
                obtain ⟨l', mk', hT⟩ := hT
                obtain ⟨q1, q2, q3, q4, _, q5, _⟩ := hT.cells
                exact ⟨q1, q2, q3, q4, q5⟩)
              focus (go_region_held3 (fun W2 => W2.cell? ⟨W.heap.size, 0, none⟩ = some (.pointer (some ⟨b, 0, none⟩)) ∧ W2.cell? ⟨W.heap.size + 1, 1, none⟩ = some (.string x) ∧ W2.cell? ⟨W.heap.size + 1, 2, none⟩ = some (.int .i64 n) ∧ W2.cell? ⟨W.heap.size + 1, 3, none⟩ = some (.int .i64 m) ∧ W2.cell? ⟨w2.heap.size, 0, none⟩ = some (.string (wds.getD kn noText)))
                ((refine unhide HSS _ ?_; first | exact Or.inr HD.out | exact Or.inl hb6 | exact Or.inl (Below.refl _ _) | exact Or.inl (Below.refl _ _).drew))
                (first
                  | (go_at_call 57; refine (unhide HIT _ (by first | assumption | exact (Below.refl _ _).drew)).mono ?_; rintro e w6 ⟨rfl, hb6⟩)
                  | (go_at_call 58; refine (unhide HWS _ (by first | assumption | exact (Below.refl _ _).drew)).mono ?_; rintro e wd ⟨rfl, HD⟩)))
              clear HWS HSS
              obtain ⟨c2, -⟩ := HD.out.cells
              have HBT := hide (HD.out.byt 41 (z := 41) rfl (by have := HLQ.out; simp only [List.length_append, List.length_cons, List.length_nil] at this ⊢; omega))
              go_wp2_with fail
              refine (unhide HBT).mono ?_
              rintro e wz ⟨rfl, HZ⟩
              go_wp2
              refine bodyPost_end (results_none rfl _ _ _) rfl ?_
              exact ⟨rfl, hide (by rw [HEQ.out]; exact HZ.out.wt)⟩
end Go.Proofs.YtfhfobikbfbajaaGreatDoor

namespace Go.Proofs.YtfhfobikbfbajaaGreatDoor
open Go.RowKit Go.Shelf

def renJ : Ren := ⟨fun n => if n = 156 then 97 else if n = 165 then 131 else if n = 166 then 58 else if n = 169 then 35 else if n = 240 then 99 else if n = 241 then 151 else if n = 276 then 133 else if n = 277 then 170 else 0,
  fun n => if n = 0 then 0 else if n = 3 then 3 else if n = 4 then 4 else if n = 5 then 5 else if n = 9 then 9 else if n = 20 then 20 else if n = 31 then 22 else if n = 37 then 65 else if n = 70 then 79 else if n = 72 then 81 else if n = 75 then 116 else if n = 76 then 117 else if n = 80 then 85 else if n = 127 then 121 else if n = 164 then 176 else 0,
  fun n => n⟩
theorem laysJ : Lays.n156 Tryz.prog renJ := by
  constructor
  all_goals first | kernel_rfl | (intro w; kernel_rfl)
theorem extraJ : Builder.Extra Tryz.prog renJ := by
  refine { sizeBuilder := ?_, liesBuilder := ?_, t5 := ?_, a5 := ?_, z5 := ?_, v5 := ?_, infoByte := ?_, cellsByte := ?_, sizeByte := ?_, neB5 := ?_ }
  all_goals first | kernel_rfl | (intro w; kernel_rfl) | decide
end Go.Proofs.YtfhfobikbfbajaaGreatDoor
