/- The program's inputsFit, outputsFit. -/
import Derived.Test.YtfhfobikbfbajaaGreatDoorTBA
import Derived.Test.YtfhfobikbfbajaaGreatDoorTBB
namespace Go.Proofs.YtfhfobikbfbajaaGreatDoor
open Go.RowKit Go.Maps

set_option maxRecDepth 100000 in
set_option maxHeartbeats 4000000 in
theorem pinputs_calls {w : World} {v : Value} {l : List ByteArray} (hS : IsS w v l) (hz : ∀ s ∈ l, s.size ≤ 2000000) (hP : Pg w) : Calls Tryz.prog 54 #[v] w fun e w' => e = .returned (.bool (decide (l.length ≤ 64) && insO ptW [] l)) ∧ Below w.heap.size w w' := by
  have HS := hide hS
  obtain ⟨a, c, rfl, hlc, hmc, _, hcc⟩ := hS
  have HC := hide hcc
  have HZ := hide hz
  have HP := hide hP
  have hli : (l.length : Int) ≤ 9223372036854775807 := by omega
  have HLC := hide hlc
  obtain ⟨r, hr⟩ : ∃ r, r = (decide (l.length ≤ 64) && insO ptW [] l) := ⟨_, rfl⟩
  rw [← hr]
  have HR := hide hr
  clear hr hcc hz hP hlc hmc
  by_cases h64 : 64 < l.length
  · have hx : (64 : Int) < (l.length : Int) := by omega
    have HV : Hid (r = false) := hide (by rw [HR.out, decide_eq_false (by omega)]; rfl)
    clear h64
    go_enter Tryz.func54, Tryz.ntmps54
    go_wp2
    go_ret
    exact ⟨by rw [HV.out]; rfl, Below.refl _ _⟩
  · have hx : ¬ (64 : Int) < (l.length : Int) := by omega
    have hxd : decide ((64 : Int) < (l.length : Int)) = false := decide_eq_false hx
    have HN : Hid (l.length ≤ 64) := hide (by omega)
    clear h64
    go_enter Tryz.func54, Tryz.ntmps54
    go_wp2_with fail
    go_loopw [10] (fun iv wr => ∃ j : Nat, iv = .int .i64 (j : Int) ∧ j ≤ l.length ∧ Hid (Below w.heap.size w wr ∧ insO ptW [] (l.take j) = true)) (fun iv _ => l.length - (intOf iv).toNat)
    case atStart => exact ⟨0, rfl, Nat.zero_le _, Below.refl _ _, rfl⟩
    case round =>
      obtain ⟨j, rfl, hjq, HJ⟩ := hrel
      by_cases hlt : j < l.length
      · have hlti : (j : Int) < (l.length : Int) := by omega
        obtain ⟨b, o, rfl, hcl⟩ := HC.out (by omega)
        have hx := (HJ.out.1.cell (p := ⟨b, o + j, none⟩) (World.block_lt_of_cell? w _ (hcl j hlt))).trans (hcl j hlt)
        have HIT := hide (insO_take (pt := ptW) hlt)
        have HIF := hide (insO_false (pt := ptW) (l := l) (i := j + 1))
        have hjc : j ≤ c := by have := HLC.out; omega
        have hsl : ∀ W2, (Instr.sliceAt 22 (.slice (some ⟨b, o, none⟩) l.length c) none (some (.int .i64 (j : Int))) none).run Tryz.prog W2 = .ok (.slice (some ⟨b, o, none⟩) j c) W2 := fun W2 => by
          have := slice_hS (some ⟨b, o, none⟩) l.length c j hjc W2
          rw [this]
          congr 1
          unfold subAx
          rw [if_neg (by have := HLC.out; omega), Option.map_some, Addr.add_lit]
          rfl
        have HIP := hide (isPath_calls (l.getD j default) (HZ.out _ (getS hlt)) wr (HP.out.mx.below HJ.out.1))
        have HHS := hide (fun (W2 : World) (h : Below w.heap.size w W2) => pscontains_calls ((HS.out.below h).pre (j := j) (by omega)) (l.getD j default))
        obtain ⟨p, hp⟩ : ∃ p, p = l.getD j default := ⟨_, rfl⟩
        rw [← hp] at hx HIP HHS HIT
        have hwj : IntKind.i64.wrap ((j : Int) + 1) = ((j + 1 : Nat) : Int) := by rw [IntKind.wrap_i64]; omega
        obtain ⟨pb, hpb⟩ : ∃ x, x = ptW p := ⟨_, rfl⟩
        have HIP : Hid (Calls Tryz.prog 93 #[.string p] wr fun e w' => e = .returned (.bool pb) ∧ Below wr.heap.size wr w') := hide (by rw [hpb]; exact HIP.out)
        obtain ⟨hb, hhb⟩ : ∃ x, x = hasB (l.take j) p := ⟨_, rfl⟩
        rw [← hhb] at HHS HIT
        rw [← hpb] at HIT
        clear hcl hp hjc hpb hhb
        cases pb with
        | false =>
          have HV : Hid (r = false) := hide (by rw [HR.out, HIF.out (by rw [HIT.out]; simp), Bool.and_false])
          go_wp2_with fail
          refine (unhide HIP).mono ?_
          rintro e w5 ⟨rfl, hb5⟩
          have HB5 := hide (HJ.out.1.trans (hb5.mono HJ.out.1.size))
          clear hb5
          go_wp2
          go_ret
          exact ⟨by rw [HV.out]; rfl, HB5.out⟩
        | true =>
          go_wp2_with fail
          refine (unhide HIP).mono ?_
          rintro e w5 ⟨rfl, hb5⟩
          have HB5 := hide (HJ.out.1.trans (hb5.mono HJ.out.1.size))
          clear hb5
          go_wp2_with fail
          refine (HHS.out _ HB5.out).mono ?_
          rintro e w6 ⟨rfl, hb6⟩
          have HB6 := hide (HB5.out.trans (hb6.mono HB5.out.size))
          clear hb6
          cases hb with
          | true =>
            have HV : Hid (r = false) := hide (by rw [HR.out, HIF.out (by rw [HIT.out]; simp), Bool.and_false])
            go_wp2
            go_ret
            exact ⟨by rw [HV.out]; rfl, HB6.out⟩
          | false =>
            go_wp2
            go_roundw
            case rel => exact ⟨j + 1, by go_num, by omega, HB6.out, by rw [HIT.out, HJ.out.2]; rfl⟩
            case measure => simp [intOf]; omega
      · have hlti : ¬ (j : Int) < (l.length : Int) := by omega
        have hltd : decide ((j : Int) < (l.length : Int)) = false := decide_eq_false hlti
        have HV : Hid (r = true) := hide (by have := HJ.out.2; rw [show j = l.length by omega, List.take_length] at this; rw [HR.out, this, decide_eq_true HN.out]; rfl)
        go_wp2
        go_ret
        exact ⟨by rw [HV.out]; rfl, HJ.out.1⟩
theorem ouC_arr {w : World} {g : Nat} {p : ByteArray} {t : Tm} {u : Value} (h : Arr w g 54 (ouC p t u)) : w.cell? ⟨g, 0, none⟩ = some (.string p) ∧ w.rangeAt g 1 (tmC t u) := by
  refine ⟨h.cell 0, fun k x hx => ?_⟩
  have := h.cell (1 + k)
  rw [this, Nat.add_comm]
  show (Value.string p :: tmC t u)[k + 1]? = _
  rw [List.getElem?_cons_succ]
  exact hx
set_option maxRecDepth 100000 in
set_option maxHeartbeats 4000000 in
theorem poutputs_calls {w W : World} {d g : Nat} {v vm : Value} {os : List (ByteArray × Tm)} {md : List ByteArray} (hO : IsOu w d v os) (hs : ∀ o ∈ os, o.1.size ≤ 2000000 ∧ smT o.2) (hP : Pg w) (hM : Ma w W g vm md) (hl : md.length ≤ 10000000) :
    Calls Tryz.prog 55 #[v, .pointer (some ⟨g, 0, none⟩)] W fun e W' => e = .returned (.bool (decide (1 ≤ os.length ∧ os.length ≤ 8) && outsO nameB ptW clB md os)) ∧ Hid (Below w.heap.size w W' ∧ ((decide (1 ≤ os.length ∧ os.length ≤ 8) && outsO nameB ptW clB md os) = true → ∃ vm', Ma w W' g vm' (md ++ os.map (·.1))) ∧ Ch w.heap.size MaT W W') := by
  obtain ⟨a, c, rfl, hlc, hmc⟩ := hO.shape
  have HO := hide hO
  have HS := hide hs
  have HP := hide hP
  have HM := hide hM
  have HL := hide hl
  have hli : (os.length : Int) ≤ 9223372036854775807 := by omega
  obtain ⟨r, hr⟩ : ∃ r, r = (decide (1 ≤ os.length ∧ os.length ≤ 8) && outsO nameB ptW clB md os) := ⟨_, rfl⟩
  rw [← hr]
  have HR := hide hr
  obtain ⟨lb, hlb⟩ : ∃ x, x = decide (1 ≤ os.length ∧ os.length ≤ 8) := ⟨_, rfl⟩
  have HW8 : Hid (∀ W2 : World, Calls Tryz.prog 53 #[.int .i64 (os.length : Int), .int .i64 1, .int .i64 8] W2 fun e w' => e = .returned (.bool lb) ∧ W2 = w') := hide (fun W2 => by
    have := rwithin_calls (os.length : Int) 1 8 W2
    rw [show (decide ((1 : Int) ≤ (os.length : Int)) && decide ((os.length : Int) ≤ 8)) = lb from by
      rw [hlb, ← Bool.decide_and]
      exact decide_eq_decide.2 ⟨fun h => by omega, fun h => by omega⟩] at this
    exact this)
  have HLB := hide hlb
  clear hr hlb hO hs hP hM hl hlc hmc
  cases lb with
  | false =>
    have HV : Hid (r = false) := hide (by rw [HR.out, ← HLB.out]; rfl)
    go_enter Tryz.func55, Tryz.ntmps55
    go_wp2_with fail
    refine (HW8.out _).mono ?_
    rintro e w3 ⟨rfl, hw3⟩
    subst hw3
    go_wp2
    go_ret
    exact ⟨by rw [HV.out]; rfl, hide ⟨HM.out.old, (fun e => by rw [HV.out] at e; cases e), Ch.refl _ _ _⟩⟩
  | true =>
    have HN := hide (of_decide_eq_true HLB.out.symm)
    go_enter Tryz.func55, Tryz.ntmps55
    go_wp2_with fail
    refine (HW8.out _).mono ?_
    rintro e w3 ⟨rfl, hw3⟩
    subst hw3
    go_wp2_with fail
    go_loopw [13] (fun iv wr => ∃ j : Nat, iv = .int .i64 (j : Int) ∧ j ≤ os.length ∧ Hid (Below w.heap.size w wr ∧ outsO nameB ptW clB md (os.take j) = true ∧ (∃ vm', Ma w wr g vm' (md ++ (os.take j).map (·.1))) ∧ Ch w.heap.size MaT W wr)) (fun iv _ => os.length - (intOf iv).toNat)
    case atStart => exact ⟨0, rfl, Nat.zero_le _, HM.out.old, rfl, ⟨vm, by simpa using HM.out⟩, Ch.refl _ _ _⟩
    case round =>
      obtain ⟨j, rfl, hjq, HJ⟩ := hrel
      by_cases hlt : j < os.length
      · have hlti : (j : Int) < (os.length : Int) := by omega
        have HIT := hide (outsO_take (nm := nameB) (pt := ptW) (cl := clB) (md := md) (z := ou0) hlt)
        have HIF := hide (outsO_false (nm := nameB) (pt := ptW) (cl := clB) (md := md) (l := os) (i := j + 1))
        have HMS := hide (map_take1 (z := ou0) hlt)
        obtain ⟨b, o, c', u, hv, hrg, htm⟩ := HO.out.at hlt
        cases hv
        have hrr := rangeAt_below hrg HJ.out.1
        have hsm := HS.out _ (getOu (z := ou0) hlt)
        have HIP := hide (fun (W2 : World) (h : Below w.heap.size w W2) => isPath_calls (os.getD j ou0).1 hsm.1 W2 (HP.out.mx.below h))
        have HTF := hide (fun (W2 : World) (h : Below w.heap.size w W2) => ptfits_calls 64 1 (by omega) (by omega) W2 (os.getD j ou0).2 d u (htm.below h) hsm.2 (HP.out.below h))
        have hone := htm.one
        obtain ⟨vj, hvj⟩ := HJ.out.2.2.1
        have HMJ := hide hvj
        have HMLJ : Hid ((md ++ (os.take j).map (·.1)).length ≤ 100000000) := hide (by rw [List.length_append, List.length_map, List.length_take]; have := HL.out; have := HN.out; omega)
        obtain ⟨O, hO⟩ : ∃ x, x = os.getD j ou0 := ⟨_, rfl⟩
        rw [← hO] at HIT HMS hrr HIP HTF
        obtain ⟨p, tm⟩ := O
        have hrr : wr.rangeAt b (o + j * 6) (ouC p tm u) := hrr
        have HIP : Hid (∀ W2, Below w.heap.size w W2 → Calls Tryz.prog 93 #[.string p] W2 fun e w' => e = .returned (.bool (ptW p)) ∧ Below W2.heap.size W2 w') := HIP
        have HTF : Hid (∀ W2, Below w.heap.size w W2 → Calls Tryz.prog 96 #[.agg (tmC tm u).toArray, .int .i64 1] W2 fun e w' => e = .returned (.bool (fitT nameB ptW 64 tm)) ∧ Below W2.heap.size W2 w') := HTF
        obtain ⟨mj, hmj⟩ : ∃ m, m = md ++ (os.take j).map (·.1) := ⟨_, rfl⟩
        rw [← hmj] at HMJ HMLJ
        have HIT : Hid (outsO nameB ptW clB md (os.take (j + 1)) = (outsO nameB ptW clB md (os.take j) && (ptW p && (!clB mj p && fitT nameB ptW 64 tm)))) := hide (by rw [hmj]; exact HIT.out)
        have HMS : Hid (md ++ (os.take (j + 1)).map (·.1) = mj ++ [p]) := hide (by rw [HMS.out, hmj, List.append_assoc])
        have hwj : IntKind.i64.wrap ((j : Int) + 1) = ((j + 1 : Nat) : Int) := by rw [IntKind.wrap_i64]; omega
        clear hrg htm hsm hO hvj hmj
        obtain ⟨pb, hpb⟩ : ∃ x, x = ptW p := ⟨_, rfl⟩
        rw [← hpb] at HIP HIT
        have HPB := hide hpb
        clear hpb
        cases pb with
        | false =>
          have HV : Hid (r = false) := hide (by rw [HR.out, HIF.out (by rw [HIT.out]; simp), Bool.and_false])
          go_wp2_with (first
            | (refine wpList_loadJ rfl 54 (.tmp 15) rfl b (o + j * 6) rfl (ouC p tm u) _ hrr Tryz.underlying54 rfl (infoOus _ _ _) ?_)
            | (refine wpList_allocJ rfl 54 rfl infoOuz ?_)
            | (refine wpList_storeJ rfl (.tmp 6) (.tmp 16) 54 rfl rfl rfl (Arr.new wr zOu 54) (infoOus _ _ _) rfl (ouC_one tm hone) ?_; intro w6 hA6 hg6; have HX6 := hide (jbelow_grown (jalloc_below wr (.cells zOu.toArray 54)) hg6 (by simp) (Nat.le_refl _)); have HB6 := hide (below_then HJ.out.1 HX6.out); have c0 := (ouC_arr hA6).1; have HA6 := hide hA6; clear hA6 hg6)
            | fail)
          refine (HIP.out w6 HB6.out).mono ?_
          rintro e w7 ⟨rfl, hb7⟩
          have HB7 := hide (HB6.out.trans (hb7.mono HB6.out.size))
          have HX7 := hide (below_then HX6.out hb7)
          have HA7 := hide (HA6.out.below hb7)
          have c0 := (ouC_arr HA7.out).1
          have HC7 : Hid (Ch w.heap.size MaT W w7) := hide (HJ.out.2.2.2.trans (Ch.of_below HX7.out))
          clear hb7
          go_wp2
          go_ret
          exact ⟨by rw [HV.out]; rfl, hide ⟨HB7.out, (fun e => by rw [HV.out] at e; cases e), HC7.out⟩⟩
        | true =>
          have HWB : Hid (wrongB p = false) := hide (by have := HPB.out; unfold ptW at this; cases h : wrongB p with | false => rfl | true => rw [h] at this; cases this)
          go_wp2_with (first
            | (refine wpList_loadJ rfl 54 (.tmp 15) rfl b (o + j * 6) rfl (ouC p tm u) _ hrr Tryz.underlying54 rfl (infoOus _ _ _) ?_)
            | (refine wpList_allocJ rfl 54 rfl infoOuz ?_)
            | (refine wpList_storeJ rfl (.tmp 6) (.tmp 16) 54 rfl rfl rfl (Arr.new wr zOu 54) (infoOus _ _ _) rfl (ouC_one tm hone) ?_; intro w6 hA6 hg6; have HX6 := hide (jbelow_grown (jalloc_below wr (.cells zOu.toArray 54)) hg6 (by simp) (Nat.le_refl _)); have HB6 := hide (below_then HJ.out.1 HX6.out); have c0 := (ouC_arr hA6).1; have HA6 := hide hA6; clear hA6 hg6)
            | fail)
          refine (HIP.out w6 HB6.out).mono ?_
          rintro e w7 ⟨rfl, hb7⟩
          have HB7 := hide (HB6.out.trans (hb7.mono HB6.out.size))
          have HX7 := hide (below_then HX6.out hb7)
          have HA7 := hide (HA6.out.below hb7)
          have c0 := (ouC_arr HA7.out).1
          have HC7 : Hid (Ch w.heap.size MaT W w7) := hide (HJ.out.2.2.2.trans (Ch.of_below HX7.out))
          clear hb7
          have HM7 := hide (HMJ.out.below HX7.out)
          have HJN := hide (join_calls1 HM7.out HMLJ.out p HWB.out)
          obtain ⟨cb, hcb⟩ : ∃ x, x = clB mj p := ⟨_, rfl⟩
          rw [← hcb] at HJN HIT
          clear hcb
          go_wp2_with fail
          refine (unhide HJN).mono ?_
          rintro e w8 ⟨rfl, HX8⟩
          have HC8 := hide (HC7.out.trans HX8.out.2)
          cases cb with
          | true =>
            have HV : Hid (r = false) := hide (by rw [HR.out, HIF.out (by rw [HIT.out]; simp), Bool.and_false])
            have HB8 := hide HX8.out.1.choose_spec.old
            go_wp2
            go_ret
            exact ⟨by rw [HV.out]; rfl, hide ⟨HB8.out, (fun e => by rw [HV.out] at e; cases e), HC8.out⟩⟩
          | false =>
            have HM8 : Hid (∃ vm', Ma w w8 g vm' (mj ++ [p])) := hide HX8.out.1
            have HB8 := hide HX8.out.1.choose_spec.old
            have HA8 := hide (HA7.out.ch HX8.out.2 (by unfold MaT; decide))
            have hrt := (ouC_arr HA8.out).2
            obtain ⟨fb, hfb⟩ : ∃ x, x = fitT nameB ptW 64 tm := ⟨_, rfl⟩
            rw [← hfb] at HTF HIT
            clear hfb c0
            go_wp2_with (first
              | (refine wpList_loadJ rfl 52 (.tmp 29) rfl wr.heap.size 1 rfl (tmC tm u) _ hrt Tryz.underlying52 rfl (infoTms _ _) ?_)
              | fail)
            refine (HTF.out _ HB8.out).mono ?_
            rintro e w9 ⟨rfl, hb9⟩
            have HB9 := hide (HB8.out.trans (hb9.mono HB8.out.size))
            have HM9 : Hid (∃ vm', Ma w w9 g vm' (mj ++ [p])) := hide (by obtain ⟨v9, h9⟩ := HM8.out; exact ⟨v9, h9.below hb9⟩)
            have HC9 : Hid (Ch w.heap.size MaT W w9) := hide (HC8.out.trans (Ch.of_below hb9))
            clear hb9 hrt
            cases fb with
            | false =>
              have HV : Hid (r = false) := hide (by rw [HR.out, HIF.out (by rw [HIT.out]; simp), Bool.and_false])
              go_wp2
              go_ret
              exact ⟨by rw [HV.out]; rfl, hide ⟨HB9.out, (fun e => by rw [HV.out] at e; cases e), HC9.out⟩⟩
            | true =>
              go_wp2
              go_roundw
              case rel => exact ⟨j + 1, by go_num, by omega, HB9.out, by rw [HIT.out, HJ.out.2.1]; rfl, by rw [HMS.out]; exact HM9.out, HC9.out⟩
              case measure => simp [intOf]; omega
      · have hlti : ¬ (j : Int) < (os.length : Int) := by omega
        have hltd : decide ((j : Int) < (os.length : Int)) = false := decide_eq_false hlti
        have HV : Hid (r = true) := hide (by have := HJ.out.2.1; rw [show j = os.length by omega, List.take_length] at this; rw [HR.out, this, ← HLB.out]; rfl)
        have HMM : Hid (∃ vm', Ma w wr g vm' (md ++ os.map (·.1))) := hide (by have := HJ.out.2.2.1; rw [show j = os.length by omega, List.take_length] at this; exact this)
        go_wp2
        go_ret
        exact ⟨by rw [HV.out]; rfl, hide ⟨HJ.out.1, (fun _ => HMM.out), HJ.out.2.2.2⟩⟩
end Go.Proofs.YtfhfobikbfbajaaGreatDoor
