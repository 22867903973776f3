/- How many nodes a term has: that it ends; the same terms. -/
import Derived.Test.YtfhfobikbfbajaaGreatDoorTBO
namespace Go.Proofs.YtfhfobikbfbajaaGreatDoor
open Go.RowKit Go.Maps

set_option maxRecDepth 100000 in
set_option maxHeartbeats 4000000 in
theorem nodes_calls : ∀ (d : Nat) (w : World) (t : Tm) (u : Value) (mo : Int), IsTr w anyB d t.args u → Calls Tryz.prog 22 #[.agg (tmC t u).toArray, .int .i64 mo] w fun e w' => (∃ n : Int, e = .returned (.int .i64 n)) ∧ Below w.heap.size w w' := by
  intro d
  induction d using Nat.strongRecOn with
  | ind d ih =>
    intro w t u mo ht
    obtain ⟨a, c, hu, hlc, hmc⟩ := ht.shape
    have HT := hide ht
    have HIH := hide ih
    obtain ⟨k, x, n, m, ag⟩ := t
    subst hu
    have hmq : (ag.length : Int) ≤ 9223372036854775807 := by have : ag.length ≤ c := hlc; omega
    clear ih ht hlc hmc
    show Calls Tryz.prog 22 #[.agg (tmC ⟨k, x, n, m, ag⟩ (.slice a ag.length c)).toArray, .int .i64 mo] w _
    go_enter Tryz.func22, Tryz.ntmps22
    go_wp2_with (first
      | (refine wpList_boxJ rfl 52 (.tmp 0) rfl (cs := (tmC ⟨k, x, n, m, ag⟩ (.slice a ag.length c))) rfl ?_; intro w2 hA2 hb2 hs2; have HA2 := hide hA2; have HB2 := hide hb2; clear hA2 hb2 hs2)
      | fail)
    go_loopw [5, 6] (fun nv iv wr => ∃ (q : Int) (j : Nat), nv = .int .i64 q ∧ iv = .int .i64 (j : Int) ∧ j ≤ ag.length ∧ Hid (Below w2.heap.size w2 wr)) (fun _ iv _ => ag.length - (intOf iv).toNat)
    case atStart => exact ⟨1, 0, rfl, rfl, Nat.zero_le _, Below.refl _ _⟩
    case round =>
      obtain ⟨q, j, rfl, rfl, hjq, HJ⟩ := hrel
      have c4 := (tmC_arr (HA2.out.below HJ.out)).2.2.2.2
      by_cases hlt : j < ag.length
      · have hlti : (j : Int) < (ag.length : Int) := by omega
        by_cases hq : q < mo
        · obtain ⟨b, o, c', e0, u2, hv, hD, hr, hi⟩ := HT.out.at hlt
          cases hv
          have HB4 := hide (below_then HB2.out HJ.out)
          have hrr := rangeAt_below hr HB4.out
          have HIC := hide (fun W2 (mo2 : Int) (h : Below w.heap.size w W2) => HIH.out e0 (by omega) W2 (ag.getD j .nul) u2 mo2 (hi.below h))
          obtain ⟨T2, hT2⟩ : ∃ t2, t2 = ag.getD j .nul := ⟨_, rfl⟩
          rw [← hT2] at hrr HIC
          have hwj : IntKind.i64.wrap ((j : Int) + 1) = ((j + 1 : Nat) : Int) := by rw [IntKind.wrap_i64]; omega
          clear hr hi hT2 hD HIH HT
          go_wp2_with (first
            | (refine wpList_loadJ rfl 52 (.tmp 23) rfl b (o + j * 5) rfl (tmC T2 u2) _ hrr Tryz.underlying52 rfl (infoTms _ _) ?_)
            | fail)
          refine (HIC.out _ _ HB4.out).mono ?_
          rintro e w7 ⟨⟨n7, rfl⟩, hb7⟩
          have HB7 := hide (below_then HJ.out hb7)
          clear hb7 hrr HIC c4
          go_wp2
          go_roundw
          case rel => exact ⟨_, j + 1, rfl, by go_num, by omega, HB7.out⟩
          case measure => simp [intOf]; omega
        · go_wp2
          go_ret
          exact ⟨⟨_, rfl⟩, below_then HB2.out HJ.out⟩
      · have hlti : ¬ (j : Int) < (ag.length : Int) := by omega
        go_wp2
        go_ret
        exact ⟨⟨_, rfl⟩, below_then HB2.out HJ.out⟩
theorem tm_ext {k k' n n' m m' : Int} {x x' : ByteArray} {ts bs : List Tm} (h : (⟨k, x, n, m, ts⟩ : Tm) = ⟨k', x', n', m', bs⟩) : k = k' ∧ x = x' ∧ n = n' ∧ m = m' ∧ ts = bs := by
  cases h
  exact ⟨rfl, rfl, rfl, rfl, rfl⟩
theorem tms_all {ts bs : List Tm} (hl : ts.length = bs.length) (h : ∀ j, j < ts.length → ts.getD j .nul = bs.getD j .nul) : ts = bs := by
  refine List.ext_getElem hl fun j h1 h2 => ?_
  have := h j h1
  rw [List.getD_eq_getElem?_getD, List.getD_eq_getElem?_getD, List.getElem?_eq_getElem h1, List.getElem?_eq_getElem h2] at this
  exact this
theorem strI_t {x y : ByteArray} (h : x = y) : (x.toList == y.toList) = true := by rw [str_eq, decide_eq_true h]
theorem strI_f {x y : ByteArray} (h : ¬ x = y) : (x.toList == y.toList) = false := by rw [str_eq, decide_eq_false h]
theorem int_t {x y : Int} (h : x = y) : (x != y) = false := by rw [h]; simp
theorem int_f {x y : Int} (h : ¬ x = y) : (x != y) = true := by simpa using h
def SmT (s t : Tm) (e : Ending) : Prop := ∃ r : Bool, e = .returned (.bool r) ∧ (r = true ↔ s = t)
set_option maxRecDepth 100000 in
set_option maxHeartbeats 4000000 in
/-- The same terms? -/
theorem sterm_calls : ∀ (d D : Nat) (w : World) (s t : Tm) (u v : Value), IsTr w anyB d s.args u → IsTr w anyB D t.args v → Calls Tryz.prog 26 #[.agg (tmC s u).toArray, .agg (tmC t v).toArray] w fun e w' => SmT s t e ∧ Below w.heap.size w w' := by
  intro d
  induction d using Nat.strongRecOn with
  | ind d ih =>
    intro D w s t u v hs ht
    obtain ⟨a, c, hu, hlc, hmc⟩ := hs.shape
    obtain ⟨a', c', hu', hlc', hmc'⟩ := ht.shape
    have HS := hide hs
    have HT := hide ht
    have HIH := hide ih
    obtain ⟨k, x, n, m, ts⟩ := s
    obtain ⟨k', x', n', m', bs⟩ := t
    subst hu
    subst hu'
    have hmq : (ts.length : Int) ≤ 9223372036854775807 := by have : ts.length ≤ c := hlc; omega
    clear ih hs ht hlc hmc hlc' hmc'
    show Calls Tryz.prog 26 #[.agg (tmC ⟨k, x, n, m, ts⟩ (.slice a ts.length c)).toArray, .agg (tmC ⟨k', x', n', m', bs⟩ (.slice a' bs.length c')).toArray] w _
    by_cases hk : k = k'
    · have f1 := int_t hk
      by_cases hx : x = x'
      · have f2 := strI_t hx
        by_cases hn : n = n'
        · have f3 := int_t hn
          by_cases hm : m = m'
          · have f4 := int_t hm
            by_cases hl : ts.length = bs.length
            · have f5 : ((ts.length : Int) != (bs.length : Int)) = false := int_t (by rw [hl])
              have HEQ := hide (show k = k' ∧ x = x' ∧ n = n' ∧ m = m' from ⟨hk, hx, hn, hm⟩)
              have HLN := hide hl
              clear hk hx hn hm hl
              go_enter Tryz.func26, Tryz.ntmps26
              go_wp2_with (first
                | ((fail_if_success clear HA3); refine wpList_boxJ rfl 52 _ rfl rfl ?_; first | (have hq := HA2.out; clear hq; intro w3 hA3 hb3 hs3; have HA3 := hide hA3; have HB3 := hide (below_then HB2.out hb3); have HB23 := hide hb3; have p0 := (tmC_arr (HA2.out.below hb3)).1; have q0 := (tmC_arr HA3.out).1; have p1 := (tmC_arr (HA2.out.below hb3)).2.1; have q1 := (tmC_arr HA3.out).2.1; have p2 := (tmC_arr (HA2.out.below hb3)).2.2.1; have q2 := (tmC_arr HA3.out).2.2.1; have p3 := (tmC_arr (HA2.out.below hb3)).2.2.2.1; have q3 := (tmC_arr HA3.out).2.2.2.1; have p4 := (tmC_arr (HA2.out.below hb3)).2.2.2.2; have q4 := (tmC_arr HA3.out).2.2.2.2; clear hA3 hb3 hs3) | (intro w2 hA2 hb2 hs2; have HA2 := hide hA2; have HB2 := hide hb2; clear hA2 hb2 hs2))
                | fail)
              go_loopw [5] (fun iv wr => ∃ j : Nat, iv = .int .i64 (j : Int) ∧ j ≤ ts.length ∧ Hid (Below w3.heap.size w3 wr ∧ ∀ i, i < j → ts.getD i .nul = bs.getD i .nul)) (fun iv _ => ts.length - (intOf iv).toNat)
              case atStart => exact ⟨0, rfl, Nat.zero_le _, Below.refl _ _, fun i hi => absurd hi (by omega)⟩
              case round =>
                obtain ⟨j, rfl, hjq, HJ⟩ := hrel
                have hp4 := (tmC_arr ((HA2.out.below HB23.out).below HJ.out.1)).2.2.2.2
                have hq4 := (tmC_arr (HA3.out.below HJ.out.1)).2.2.2.2
                by_cases hlt : j < ts.length
                · have hlti : (j : Int) < (ts.length : Int) := by omega
                  have hlt2 : (j : Int) < (bs.length : Int) := by rw [HLN.out] at hlti; exact hlti
                  obtain ⟨b, o, c, e0, u, hv, hD, hr, hi⟩ := HS.out.at hlt
                  cases hv
                  obtain ⟨b', o', c', e0', u', hv', hD', hr', hi'⟩ := HT.out.at (j := j) (by rw [← HLN.out]; exact hlt)
                  cases hv'
                  have HB4 := hide (below_then HB3.out HJ.out.1)
                  have HIC := hide (fun W2 (h : Below w.heap.size w W2) => HIH.out e0 (by omega) e0' W2 (ts.getD j .nul) (bs.getD j .nul) u u' (hi.below h) (hi'.below h))
                  obtain ⟨T1, hT1⟩ : ∃ t2, t2 = ts.getD j .nul := ⟨_, rfl⟩
                  obtain ⟨T2, hT2⟩ : ∃ t2, t2 = bs.getD j .nul := ⟨_, rfl⟩
                  rw [← hT1] at hr HIC
                  rw [← hT2] at hr' HIC
                  have HT1 := hide hT1
                  have HT2 := hide hT2
                  have hwj : IntKind.i64.wrap ((j : Int) + 1) = ((j + 1 : Nat) : Int) := by rw [IntKind.wrap_i64]; omega
                  have HSS : Hid (∀ W2, Below wr.heap.size wr W2 → W2.cell? ⟨w.heap.size, 4, none⟩ = some (.slice (some ⟨b, o, none⟩) ts.length c) ∧ W2.cell? ⟨w2.heap.size, 4, none⟩ = some (.slice (some ⟨b', o', none⟩) bs.length c') ∧ W2.rangeAt b (o + j * 5) (tmC T1 u) ∧ W2.rangeAt b' (o' + j * 5) (tmC T2 u')) := hide (fun W2 h => ⟨(tmC_arr (((HA2.out.below HB23.out).below HJ.out.1).below h)).2.2.2.2, (tmC_arr ((HA3.out.below HJ.out.1).below h)).2.2.2.2, rangeAt_below (rangeAt_below hr HB4.out) h, rangeAt_below (rangeAt_below hr' HB4.out) h⟩)
                  have HIC2 : Hid (∀ W2, Below wr.heap.size wr W2 → Calls Tryz.prog 26 #[.agg (tmC T1 u).toArray, .agg (tmC T2 u').toArray] W2 fun e w' => SmT T1 T2 e ∧ Below W2.heap.size W2 w') := hide (fun W2 h => HIC.out W2 (below_then HB4.out h))
                  clear hr hi hT1 hT2 hD hr' hi' hD' HIC HIH HS HT p0 p1 p2 p3 p4 q0 q1 q2 q3 q4
                  go_wp2_with fail
                  refine wp_region_held_drew (S := fun W2 => W2.cell? ⟨w.heap.size, 4, none⟩ = some (.slice (some ⟨b, o, none⟩) ts.length c) ∧ W2.cell? ⟨w2.heap.size, 4, none⟩ = some (.slice (some ⟨b', o', none⟩) bs.length c') ∧ W2.rangeAt b (o + j * 5) (tmC T1 u) ∧ W2.rangeAt b' (o' + j * 5) (tmC T2 u')) (by kernel_rfl) (unhide HSS _ (Below.refl _ _).drew) (fun hHeld => ?_)
                  refine wpAnyH_take (i := 0) (v := .pointer (some ⟨w.heap.size, 4, none⟩)) rfl (by kernel_rfl) (by kernel_rfl) (by kernel_rfl) (fun _ _ _ h => h) (Or.inl ⟨by rfl, fun w hSw => by obtain ⟨g1, g2, _, _⟩ := hSw; go_simp⟩) (by assumption) ?_
                  simp only [List.getElem_toArray, List.getElem_cons_zero, Act.put, List.setIfInBounds_toArray, List.set_cons_zero, List.set_cons_succ]
                  refine wpAnyH_take (i := 1) (v := .slice (some ⟨b, o, none⟩) ts.length c) rfl (by kernel_rfl) (by kernel_rfl) (by kernel_rfl) (fun _ _ _ h => h) (Or.inl ⟨by rfl, fun w hSw => by obtain ⟨g1, g2, _, _⟩ := hSw; go_simp⟩) (by assumption) ?_
                  simp only [List.getElem_toArray, List.getElem_cons_succ, List.getElem_cons_zero, Act.put, List.setIfInBounds_toArray, List.set_cons_zero, List.set_cons_succ]
                  refine wpAnyH_take (i := 2) (v := .int .i64 (j : Int)) rfl (by kernel_rfl) (by kernel_rfl) (by kernel_rfl) (fun _ _ _ h => h) (Or.inl ⟨by rfl, fun w hSw => by obtain ⟨g1, g2, _, _⟩ := hSw; go_simp⟩) (by assumption) ?_
                  simp only [List.getElem_toArray, List.getElem_cons_succ, List.getElem_cons_zero, Act.put, List.setIfInBounds_toArray, List.set_cons_zero, List.set_cons_succ]
                  refine wpAnyH_take (i := 3) (v := .pointer (some ⟨b, o + j * 5, none⟩)) rfl (by kernel_rfl) (by kernel_rfl) (by kernel_rfl) (fun _ _ _ h => h) (Or.inl ⟨by rfl, fun w hSw => by obtain ⟨g1, g2, _, _⟩ := hSw; go_simp⟩) (by assumption) ?_
                  simp only [List.getElem_toArray, List.getElem_cons_succ, List.getElem_cons_zero, Act.put, List.setIfInBounds_toArray, List.set_cons_zero, List.set_cons_succ]
                  refine wpAnyH_take (i := 4) (v := .agg (tmC T1 u).toArray) rfl (by kernel_rfl) (by kernel_rfl) (by kernel_rfl) (fun _ _ _ h => h) (yieldsIf_load_mid (by rfl) _ _ rfl _ _ rfl _ _ (fun w hSw => hSw.2.2.1) Tryz.underlying52 rfl (infoTms _ _)) (by assumption) ?_
                  simp only [List.getElem_toArray, List.getElem_cons_succ, List.getElem_cons_zero, Act.put, List.setIfInBounds_toArray, List.set_cons_zero, List.set_cons_succ]
                  refine wpAnyH_take (i := 5) (v := .pointer (some ⟨w2.heap.size, 4, none⟩)) rfl (by kernel_rfl) (by kernel_rfl) (by kernel_rfl) (fun _ _ _ h => h) (Or.inl ⟨by rfl, fun w hSw => by obtain ⟨g1, g2, _, _⟩ := hSw; go_simp⟩) (by assumption) ?_
                  simp only [List.getElem_toArray, List.getElem_cons_succ, List.getElem_cons_zero, Act.put, List.setIfInBounds_toArray, List.set_cons_zero, List.set_cons_succ]
                  refine wpAnyH_take (i := 6) (v := .slice (some ⟨b', o', none⟩) bs.length c') rfl (by kernel_rfl) (by kernel_rfl) (by kernel_rfl) (fun _ _ _ h => h) (Or.inl ⟨by rfl, fun w hSw => by obtain ⟨g1, g2, _, _⟩ := hSw; go_simp⟩) (by assumption) ?_
                  simp only [List.getElem_toArray, List.getElem_cons_succ, List.getElem_cons_zero, Act.put, List.setIfInBounds_toArray, List.set_cons_zero, List.set_cons_succ]
                  refine wpAnyH_take (i := 7) (v := .int .i64 (j : Int)) rfl (by kernel_rfl) (by kernel_rfl) (by kernel_rfl) (fun _ _ _ h => h) (Or.inl ⟨by rfl, fun w hSw => by obtain ⟨g1, g2, _, _⟩ := hSw; go_simp⟩) (by assumption) ?_
                  simp only [List.getElem_toArray, List.getElem_cons_succ, List.getElem_cons_zero, Act.put, List.setIfInBounds_toArray, List.set_cons_zero, List.set_cons_succ]
                  refine wpAnyH_take (i := 8) (v := .pointer (some ⟨b', o' + j * 5, none⟩)) rfl (by kernel_rfl) (by kernel_rfl) (by kernel_rfl) (fun _ _ _ h => h) (Or.inl ⟨by rfl, fun w hSw => by obtain ⟨g1, g2, _, _⟩ := hSw; go_simp⟩) (by assumption) ?_
                  simp only [List.getElem_toArray, List.getElem_cons_succ, List.getElem_cons_zero, Act.put, List.setIfInBounds_toArray, List.set_cons_zero, List.set_cons_succ]
                  refine wpAnyH_take (i := 9) (v := .agg (tmC T2 u').toArray) rfl (by kernel_rfl) (by kernel_rfl) (by kernel_rfl) (fun _ _ _ h => h) (yieldsIf_load_mid (by rfl) _ _ rfl _ _ rfl _ _ (fun w hSw => hSw.2.2.2) Tryz.underlying52 rfl (infoTms _ _)) (by assumption) ?_
                  simp only [List.getElem_toArray, List.getElem_cons_succ, List.getElem_cons_zero, Act.put, List.setIfInBounds_toArray, List.set_cons_zero, List.set_cons_succ]
                  refine wpAnyH_ready (rs := [10]) (by kernel_rfl) (by simp) (AllReadyH.cons rfl (fun K hK => ?_) AllReadyH.nil)
                  refine step_call2W (by rfl) 26 (fun v u W => by kernel_rfl) (.tmp 52) (.tmp 57) _ rfl rfl rfl (unhide HIC2 _ (Below.refl _ _).drew) ?_
                  rintro e w7 ⟨HR, hb7⟩
                  obtain ⟨r, rfl, hR⟩ := HR
                  have HR := hide hR
                  clear hR
                  refine ⟨_, rfl, ?_⟩
                  refine hK.out _ _ (unhide HSS _ (below_then (Below.refl _ _).drew hb7)) (fun hH2 => ?_)
                  clear hK K
                  simp only [List.getElem_toArray, List.getElem_cons_succ, List.getElem_cons_zero, Act.put, List.setIfInBounds_toArray, List.set_cons_zero, List.set_cons_succ]
                  have HB7 := hide (below_then (below_then HJ.out.1 (Below.refl _ _).drew) hb7)
                  have HB8 := hide (below_then HB3.out HB7.out)
                  clear hb7 HSS HIC2 hp4 hq4 hHeld
                  cases r with
                  | true =>
                    have HE : Hid (ts.getD j .nul = bs.getD j .nul) := hide (by rw [← HT1.out, ← HT2.out]; exact HR.out.1 rfl)
                    refine wpAnyH_take (i := 11) (v := .bool false) rfl (by kernel_rfl) (by kernel_rfl) (by kernel_rfl) (fun _ _ _ h => h) (Or.inl ⟨by rfl, fun w hSw => by obtain ⟨g1, g2, _, _⟩ := hSw; go_simp⟩) (by assumption) ?_
                    simp only [List.getElem_toArray, List.getElem_cons_succ, List.getElem_cons_zero, Act.put, List.setIfInBounds_toArray, List.set_cons_zero, List.set_cons_succ]
                    refine wpAnyH_done (by kernel_rfl) ?_ _
                    go_wp2
                    go_roundw
                    case rel => exact ⟨j + 1, by go_num, by omega, HB7.out, fun i hi => by
                      by_cases e : i = j
                      · rw [e]; exact HE.out
                      · exact HJ.out.2 i (by omega)⟩
                    case measure => simp [intOf]; omega
                  | false =>
                    refine wpAnyH_take (i := 11) (v := .bool true) rfl (by kernel_rfl) (by kernel_rfl) (by kernel_rfl) (fun _ _ _ h => h) (Or.inl ⟨by rfl, fun w hSw => by obtain ⟨g1, g2, _, _⟩ := hSw; go_simp⟩) (by assumption) ?_
                    simp only [List.getElem_toArray, List.getElem_cons_succ, List.getElem_cons_zero, Act.put, List.setIfInBounds_toArray, List.set_cons_zero, List.set_cons_succ]
                    refine wpAnyH_done (by kernel_rfl) ?_ _
                    go_wp2
                    go_ret
                    exact ⟨⟨false, rfl, fun e => (by cases e), fun e => absurd ((tm_ext e).2.2.2.2) (fun e => by have := HR.out.2 (by rw [HT1.out, HT2.out, e]); cases this)⟩, HB8.out⟩
                · have hlti : ¬ (j : Int) < (ts.length : Int) := by omega
                  go_wp2
                  go_ret
                  exact ⟨⟨true, rfl, fun _ => (by obtain ⟨e1, e2, e3, e4⟩ := HEQ.out; rw [e1, e2, e3, e4, tms_all HLN.out (fun i hi => HJ.out.2 i (by omega))]), fun _ => rfl⟩, below_then HB3.out HJ.out.1⟩
            · have f5 : ((ts.length : Int) != (bs.length : Int)) = true := int_f (by omega)
              go_enter Tryz.func26, Tryz.ntmps26
              go_wp2_with (first
                | ((fail_if_success clear HA3); refine wpList_boxJ rfl 52 _ rfl rfl ?_; first | (have hq := HA2.out; clear hq; intro w3 hA3 hb3 hs3; have HA3 := hide hA3; have HB3 := hide (below_then HB2.out hb3); have HB23 := hide hb3; have p0 := (tmC_arr (HA2.out.below hb3)).1; have q0 := (tmC_arr HA3.out).1; have p1 := (tmC_arr (HA2.out.below hb3)).2.1; have q1 := (tmC_arr HA3.out).2.1; have p2 := (tmC_arr (HA2.out.below hb3)).2.2.1; have q2 := (tmC_arr HA3.out).2.2.1; have p3 := (tmC_arr (HA2.out.below hb3)).2.2.2.1; have q3 := (tmC_arr HA3.out).2.2.2.1; have p4 := (tmC_arr (HA2.out.below hb3)).2.2.2.2; have q4 := (tmC_arr HA3.out).2.2.2.2; clear hA3 hb3 hs3) | (intro w2 hA2 hb2 hs2; have HA2 := hide hA2; have HB2 := hide hb2; clear hA2 hb2 hs2))
                | fail)
              go_ret
              exact ⟨⟨false, rfl, fun e => (by cases e), fun e => absurd e (fun e => hl (by rw [(tm_ext e).2.2.2.2]))⟩, HB3.out⟩
          · have f4 := int_f hm
            go_enter Tryz.func26, Tryz.ntmps26
            go_wp2_with (first
              | ((fail_if_success clear HA3); refine wpList_boxJ rfl 52 _ rfl rfl ?_; first | (have hq := HA2.out; clear hq; intro w3 hA3 hb3 hs3; have HA3 := hide hA3; have HB3 := hide (below_then HB2.out hb3); have HB23 := hide hb3; have p0 := (tmC_arr (HA2.out.below hb3)).1; have q0 := (tmC_arr HA3.out).1; have p1 := (tmC_arr (HA2.out.below hb3)).2.1; have q1 := (tmC_arr HA3.out).2.1; have p2 := (tmC_arr (HA2.out.below hb3)).2.2.1; have q2 := (tmC_arr HA3.out).2.2.1; have p3 := (tmC_arr (HA2.out.below hb3)).2.2.2.1; have q3 := (tmC_arr HA3.out).2.2.2.1; clear hA3 hb3 hs3) | (intro w2 hA2 hb2 hs2; have HA2 := hide hA2; have HB2 := hide hb2; clear hA2 hb2 hs2))
              | fail)
            go_ret
            exact ⟨⟨false, rfl, fun e => (by cases e), fun e => absurd e (fun e => hm (tm_ext e).2.2.2.1)⟩, HB3.out⟩
        · have f3 := int_f hn
          go_enter Tryz.func26, Tryz.ntmps26
          go_wp2_with (first
            | ((fail_if_success clear HA3); refine wpList_boxJ rfl 52 _ rfl rfl ?_; first | (have hq := HA2.out; clear hq; intro w3 hA3 hb3 hs3; have HA3 := hide hA3; have HB3 := hide (below_then HB2.out hb3); have HB23 := hide hb3; have p0 := (tmC_arr (HA2.out.below hb3)).1; have q0 := (tmC_arr HA3.out).1; have p1 := (tmC_arr (HA2.out.below hb3)).2.1; have q1 := (tmC_arr HA3.out).2.1; have p2 := (tmC_arr (HA2.out.below hb3)).2.2.1; have q2 := (tmC_arr HA3.out).2.2.1; clear hA3 hb3 hs3) | (intro w2 hA2 hb2 hs2; have HA2 := hide hA2; have HB2 := hide hb2; clear hA2 hb2 hs2))
            | fail)
          go_ret
          exact ⟨⟨false, rfl, fun e => (by cases e), fun e => absurd e (fun e => hn (tm_ext e).2.2.1)⟩, HB3.out⟩
      · have f2 := strI_f hx
        go_enter Tryz.func26, Tryz.ntmps26
        go_wp2_with (first
          | ((fail_if_success clear HA3); refine wpList_boxJ rfl 52 _ rfl rfl ?_; first | (have hq := HA2.out; clear hq; intro w3 hA3 hb3 hs3; have HA3 := hide hA3; have HB3 := hide (below_then HB2.out hb3); have HB23 := hide hb3; have p0 := (tmC_arr (HA2.out.below hb3)).1; have q0 := (tmC_arr HA3.out).1; have p1 := (tmC_arr (HA2.out.below hb3)).2.1; have q1 := (tmC_arr HA3.out).2.1; clear hA3 hb3 hs3) | (intro w2 hA2 hb2 hs2; have HA2 := hide hA2; have HB2 := hide hb2; clear hA2 hb2 hs2))
          | fail)
        go_ret
        exact ⟨⟨false, rfl, fun e => (by cases e), fun e => absurd e (fun e => hx (tm_ext e).2.1)⟩, HB3.out⟩
    · have f1 := int_f hk
      go_enter Tryz.func26, Tryz.ntmps26
      go_wp2_with (first
        | ((fail_if_success clear HA3); refine wpList_boxJ rfl 52 _ rfl rfl ?_; first | (have hq := HA2.out; clear hq; intro w3 hA3 hb3 hs3; have HA3 := hide hA3; have HB3 := hide (below_then HB2.out hb3); have HB23 := hide hb3; have p0 := (tmC_arr (HA2.out.below hb3)).1; have q0 := (tmC_arr HA3.out).1; clear hA3 hb3 hs3) | (intro w2 hA2 hb2 hs2; have HA2 := hide hA2; have HB2 := hide hb2; clear hA2 hb2 hs2))
        | fail)
      go_ret
      exact ⟨⟨false, rfl, fun e => (by cases e), fun e => absurd e (fun e => hk (tm_ext e).1)⟩, HB3.out⟩
end Go.Proofs.YtfhfobikbfbajaaGreatDoor
