/- The same tasks? -/
import Derived.Test.YtfhfobikbfbajaaGreatDoorTBQ
import Derived.Test.YtfhfobikbfbajaaGreatDoorTBR
namespace Go.Proofs.YtfhfobikbfbajaaGreatDoor
open Go.RowKit Go.Maps

def SkT (s t : Tsk) (e : Ending) : Prop := ∃ r : Bool, e = .returned (.bool r) ∧ (r = true ↔ s = t)
theorem ts_ext {n n' : ByteArray} {b b' : Int} {i i' : List ByteArray} {o o' : List (ByteArray × Tm)} (h : (⟨n, b, i, o⟩ : Tsk) = ⟨n', b', i', o'⟩) : n = n' ∧ b = b' ∧ i = i' ∧ o = o' := by
  cases h
  exact ⟨rfl, rfl, rfl, rfl⟩
theorem ous_all {xs bs : List (ByteArray × Tm)} (hl : xs.length = bs.length) (h : ∀ j, j < xs.length → xs.getD j ou0 = bs.getD j ou0) : xs = bs := by
  refine List.ext_getElem hl fun j h1 h2 => ?_
  have := h j h1
  rw [List.getD_eq_getElem?_getD, List.getD_eq_getElem?_getD, List.getElem?_eq_getElem h1, List.getElem?_eq_getElem h2] at this
  exact this
set_option maxRecDepth 100000 in
set_option maxHeartbeats 4000000 in
theorem stask_calls {w : World} {d D : Nat} {s t : Tsk} {vi vo ui uo : Value} (hi : IsS w vi s.ins) (ho : IsOu w d vo s.outs) (gi : IsS w ui t.ins) (go : IsOu w D uo t.outs) :
    Calls Tryz.prog 12 #[.agg (tsC s.name s.budget vi vo).toArray, .agg (tsC t.name t.budget ui uo).toArray] w fun e w' => SkT s t e ∧ Below w.heap.size w w' := by
  have HO := hide ho
  have HO' := hide go
  have HS0 := hide (fun W2 (h : Below w.heap.size w W2) => same_calls (hi.below h) (gi.below h))
  obtain ⟨ai, ci, rfl, _⟩ := hi
  obtain ⟨ai', ci', rfl, _⟩ := gi
  obtain ⟨ao, co, rfl, hoc, hom⟩ := ho.shape
  obtain ⟨ao', co', rfl, hoc', hom'⟩ := go.shape
  obtain ⟨nm, bd, ins, outs⟩ := s
  obtain ⟨nm', bd', ins', outs'⟩ := t
  have hmq : (outs.length : Int) ≤ 9223372036854775807 := by have : outs.length ≤ co := hoc; omega
  clear ho go hoc hom hoc' hom'
  show Calls Tryz.prog 12 #[.agg (tsC nm bd (.slice ai ins.length ci) (.slice ao outs.length co)).toArray, .agg (tsC nm' bd' (.slice ai' ins'.length ci') (.slice ao' outs'.length co')).toArray] w _
  by_cases hk : nm = nm'
  · have f1 := strI_t hk
    by_cases hb : bd = bd'
    · have f2 := int_t hb
      by_cases hi : ins = ins'
      · have HSM : Hid (∀ W2, Below w.heap.size w W2 → Calls Tryz.prog 25 #[.slice ai ins.length ci, .slice ai' ins'.length ci'] W2 fun e w' => e = .returned (.bool true) ∧ Below W2.heap.size W2 w') := hide (fun W2 h => by have := HS0.out W2 h; rw [decide_eq_true hi] at this; exact this)
        by_cases hl : outs.length = outs'.length
        · have f5 : ((outs.length : Int) != (outs'.length : Int)) = false := int_t (by rw [hl])
          have HEQ := hide (show nm = nm' ∧ bd = bd' ∧ ins = ins' from ⟨hk, hb, hi⟩)
          have HLN := hide hl
          clear hk hb hi hl
          go_enter Tryz.func12, Tryz.ntmps12
          go_wp2_with (first
            | ((fail_if_success clear HA3); refine wpList_boxJ rfl 25 _ rfl rfl ?_; first | (have hq := HA2.out; clear hq; intro w3 hA3 hb3 hs3; have HA3 := hide hA3; have HB3 := hide (below_then HB2.out hb3); have HB23 := hide hb3; have p0 := (tsC_arr (HA2.out.below hb3)).1; have q0 := (tsC_arr HA3.out).1; have p1 := (tsC_arr (HA2.out.below hb3)).2.1; have q1 := (tsC_arr HA3.out).2.1; have p2 := (tsC_arr (HA2.out.below hb3)).2.2.1; have q2 := (tsC_arr HA3.out).2.2.1; have p3 := (tsC_arr (HA2.out.below hb3)).2.2.2; have q3 := (tsC_arr HA3.out).2.2.2; clear hA3 hb3 hs3) | (intro w2 hA2 hb2 hs2; have HA2 := hide hA2; have HB2 := hide hb2; clear hA2 hb2 hs2))
            | fail)
          refine (HSM.out w3 HB3.out).mono ?_
          rintro e w4 ⟨rfl, hb4⟩
          have HB4 := hide (below_then HB3.out hb4)
          have HB34 := hide hb4
          obtain ⟨_, _, p2', p3'⟩ := tsC_arr ((HA2.out.below HB23.out).below hb4)
          obtain ⟨_, _, q2', q3'⟩ := tsC_arr (HA3.out.below hb4)
          clear hb4 p0 q0 p1 q1 p2 q2 p3 q3
          go_wp2_with fail
          go_loopw [5] (fun iv wr => ∃ j : Nat, iv = .int .i64 (j : Int) ∧ j ≤ outs.length ∧ Hid (Below w4.heap.size w4 wr ∧ ∀ i, i < j → outs.getD i ou0 = outs'.getD i ou0)) (fun iv _ => outs.length - (intOf iv).toNat)
          case atStart => exact ⟨0, rfl, Nat.zero_le _, Below.refl _ _, fun i hi => absurd hi (by omega)⟩
          case round =>
            obtain ⟨j, rfl, hjq, HJ⟩ := hrel
            have hp4 := (tsC_arr (((HA2.out.below HB23.out).below HB34.out).below HJ.out.1)).2.2.2
            have hq4 := (tsC_arr ((HA3.out.below HB34.out).below HJ.out.1)).2.2.2
            by_cases hlt : j < outs.length
            · have hlti : (j : Int) < (outs.length : Int) := by omega
              have hlt2 : (j : Int) < (outs'.length : Int) := by rw [HLN.out] at hlti; exact hlti
              obtain ⟨b, o, _, u, hv, hp, hr, hi⟩ := isOu_at HO.out hlt
              cases hv
              obtain ⟨b', o', _, u', hv', hp', hr', hi'⟩ := isOu_at HO'.out (j := j) (by rw [← HLN.out]; exact hlt)
              cases hv'
              have HB5 := hide (below_then HB4.out HJ.out.1)
              have HIC0 := hide (fun W2 (h : Below w.heap.size w W2) => sterm_calls d D W2 (outs.getD j ou0).2 (outs'.getD j ou0).2 u u' (hi.below h) (hi'.below h))
              obtain ⟨ou, hou⟩ : ∃ t2, t2 = outs.getD j ou0 := ⟨_, rfl⟩
              obtain ⟨ov, hov⟩ : ∃ t2, t2 = outs'.getD j ou0 := ⟨_, rfl⟩
              rw [← hou] at hp hr HIC0
              rw [← hov] at hp' hr' HIC0
              obtain ⟨p, T1⟩ := ou
              obtain ⟨p', T2⟩ := ov
              have HT1 := hide hou
              have HT2 := hide hov
              have hwj : IntKind.i64.wrap ((j : Int) + 1) = ((j + 1 : Nat) : Int) := by rw [IntKind.wrap_i64]; omega
              have HIC : Hid (∀ W2, Below wr.heap.size wr W2 → Calls Tryz.prog 26 #[.agg (tmC T1 u).toArray, .agg (tmC T2 u').toArray] W2 fun e w' => SmT T1 T2 e ∧ Below W2.heap.size W2 w') := hide (fun W2 h => HIC0.out W2 (below_then HB5.out h))
              have HSS : Hid (∀ W2, Below wr.heap.size wr W2 → (fun W2 => W2.cell? ⟨w.heap.size, 3, none⟩ = some (.slice (some ⟨b, o, none⟩) outs.length co) ∧ W2.cell? ⟨w2.heap.size, 3, none⟩ = some (.slice (some ⟨b', o', none⟩) outs'.length co') ∧ W2.cell? ⟨b, o + j * 6, none⟩ = some (.string p) ∧ W2.cell? ⟨b', o' + j * 6, none⟩ = some (.string p') ∧ W2.rangeAt b (o + j * 6 + 1) (tmC T1 u) ∧ W2.rangeAt b' (o' + j * 6 + 1) (tmC T2 u')) W2) := hide (fun W2 h => ⟨(tsC_arr ((((HA2.out.below HB23.out).below HB34.out).below HJ.out.1).below h)).2.2.2, (tsC_arr (((HA3.out.below HB34.out).below HJ.out.1).below h)).2.2.2, ((below_then HB5.out h).cell (p := ⟨b, o + j * 6, none⟩) (World.block_lt_of_cell? w _ hp)).trans hp, ((below_then HB5.out h).cell (p := ⟨b', o' + j * 6, none⟩) (World.block_lt_of_cell? w _ hp')).trans hp', rangeAt_below hr (below_then HB5.out h), rangeAt_below hr' (below_then HB5.out h)⟩)
              clear hr hi hou hov hr' hi' hp hp' HIC0 HO HO'
              go_wp2_with fail
              by_cases hxy : p = p'
              · have hne := strI_t hxy
                have HXY := hide hxy
                clear hxy
                refine wp_region_held_drew (S := fun W2 => W2.cell? ⟨w.heap.size, 3, none⟩ = some (.slice (some ⟨b, o, none⟩) outs.length co) ∧ W2.cell? ⟨w2.heap.size, 3, none⟩ = some (.slice (some ⟨b', o', none⟩) outs'.length co') ∧ W2.cell? ⟨b, o + j * 6, none⟩ = some (.string p) ∧ W2.cell? ⟨b', o' + j * 6, none⟩ = some (.string p') ∧ W2.rangeAt b (o + j * 6 + 1) (tmC T1 u) ∧ W2.rangeAt b' (o' + j * 6 + 1) (tmC T2 u')) (by kernel_rfl) (unhide HSS _ (Below.refl _ _).drew) (fun hHeld => ?_)
                refine wpAnyH_take (i := 0) (v := .pointer (some ⟨w.heap.size, 3, none⟩)) rfl (by kernel_rfl) (by kernel_rfl) (by kernel_rfl) (fun _ _ _ h => h) (Or.inl ⟨by rfl, fun w hSw => by obtain ⟨g1, g2, g3, g4, _⟩ := hSw; go_simp⟩) (by assumption) ?_
                simp only [List.getElem_toArray, List.getElem_cons_zero, Act.put, List.setIfInBounds_toArray, List.set_cons_zero, List.set_cons_succ]
                refine wpAnyH_take (i := 1) (v := .slice (some ⟨b, o, none⟩) outs.length co) rfl (by kernel_rfl) (by kernel_rfl) (by kernel_rfl) (fun _ _ _ h => h) (Or.inl ⟨by rfl, fun w hSw => by obtain ⟨g1, g2, g3, g4, _⟩ := hSw; go_simp⟩) (by assumption) ?_
                simp only [List.getElem_toArray, List.getElem_cons_succ, List.getElem_cons_zero, Act.put, List.setIfInBounds_toArray, List.set_cons_zero, List.set_cons_succ]
                refine wpAnyH_take (i := 2) (v := .int .i64 (j : Int)) rfl (by kernel_rfl) (by kernel_rfl) (by kernel_rfl) (fun _ _ _ h => h) (Or.inl ⟨by rfl, fun w hSw => by obtain ⟨g1, g2, g3, g4, _⟩ := hSw; go_simp⟩) (by assumption) ?_
                simp only [List.getElem_toArray, List.getElem_cons_succ, List.getElem_cons_zero, Act.put, List.setIfInBounds_toArray, List.set_cons_zero, List.set_cons_succ]
                refine wpAnyH_take (i := 3) (v := .pointer (some ⟨b, o + j * 6, none⟩)) rfl (by kernel_rfl) (by kernel_rfl) (by kernel_rfl) (fun _ _ _ h => h) (Or.inl ⟨by rfl, fun w hSw => by obtain ⟨g1, g2, g3, g4, _⟩ := hSw; go_simp⟩) (by assumption) ?_
                simp only [List.getElem_toArray, List.getElem_cons_succ, List.getElem_cons_zero, Act.put, List.setIfInBounds_toArray, List.set_cons_zero, List.set_cons_succ]
                refine wpAnyH_take (i := 4) (v := .pointer (some ⟨b, o + j * 6, none⟩)) rfl (by kernel_rfl) (by kernel_rfl) (by kernel_rfl) (fun _ _ _ h => h) (Or.inl ⟨by rfl, fun w hSw => by obtain ⟨g1, g2, g3, g4, _⟩ := hSw; go_simp⟩) (by assumption) ?_
                simp only [List.getElem_toArray, List.getElem_cons_succ, List.getElem_cons_zero, Act.put, List.setIfInBounds_toArray, List.set_cons_zero, List.set_cons_succ]
                refine wpAnyH_take (i := 5) (v := .string p) rfl (by kernel_rfl) (by kernel_rfl) (by kernel_rfl) (fun _ _ _ h => h) (Or.inl ⟨by rfl, fun w hSw => by obtain ⟨g1, g2, g3, g4, _⟩ := hSw; go_simp⟩) (by assumption) ?_
                simp only [List.getElem_toArray, List.getElem_cons_succ, List.getElem_cons_zero, Act.put, List.setIfInBounds_toArray, List.set_cons_zero, List.set_cons_succ]
                refine wpAnyH_take (i := 6) (v := .pointer (some ⟨w2.heap.size, 3, none⟩)) rfl (by kernel_rfl) (by kernel_rfl) (by kernel_rfl) (fun _ _ _ h => h) (Or.inl ⟨by rfl, fun w hSw => by obtain ⟨g1, g2, g3, g4, _⟩ := hSw; go_simp⟩) (by assumption) ?_
                simp only [List.getElem_toArray, List.getElem_cons_succ, List.getElem_cons_zero, Act.put, List.setIfInBounds_toArray, List.set_cons_zero, List.set_cons_succ]
                refine wpAnyH_take (i := 7) (v := .slice (some ⟨b', o', none⟩) outs'.length co') rfl (by kernel_rfl) (by kernel_rfl) (by kernel_rfl) (fun _ _ _ h => h) (Or.inl ⟨by rfl, fun w hSw => by obtain ⟨g1, g2, g3, g4, _⟩ := hSw; go_simp⟩) (by assumption) ?_
                simp only [List.getElem_toArray, List.getElem_cons_succ, List.getElem_cons_zero, Act.put, List.setIfInBounds_toArray, List.set_cons_zero, List.set_cons_succ]
                refine wpAnyH_take (i := 8) (v := .int .i64 (j : Int)) rfl (by kernel_rfl) (by kernel_rfl) (by kernel_rfl) (fun _ _ _ h => h) (Or.inl ⟨by rfl, fun w hSw => by obtain ⟨g1, g2, g3, g4, _⟩ := hSw; go_simp⟩) (by assumption) ?_
                simp only [List.getElem_toArray, List.getElem_cons_succ, List.getElem_cons_zero, Act.put, List.setIfInBounds_toArray, List.set_cons_zero, List.set_cons_succ]
                refine wpAnyH_take (i := 9) (v := .pointer (some ⟨b', o' + j * 6, none⟩)) rfl (by kernel_rfl) (by kernel_rfl) (by kernel_rfl) (fun _ _ _ h => h) (Or.inl ⟨by rfl, fun w hSw => by obtain ⟨g1, g2, g3, g4, _⟩ := hSw; go_simp⟩) (by assumption) ?_
                simp only [List.getElem_toArray, List.getElem_cons_succ, List.getElem_cons_zero, Act.put, List.setIfInBounds_toArray, List.set_cons_zero, List.set_cons_succ]
                refine wpAnyH_take (i := 10) (v := .pointer (some ⟨b', o' + j * 6, none⟩)) rfl (by kernel_rfl) (by kernel_rfl) (by kernel_rfl) (fun _ _ _ h => h) (Or.inl ⟨by rfl, fun w hSw => by obtain ⟨g1, g2, g3, g4, _⟩ := hSw; go_simp⟩) (by assumption) ?_
                simp only [List.getElem_toArray, List.getElem_cons_succ, List.getElem_cons_zero, Act.put, List.setIfInBounds_toArray, List.set_cons_zero, List.set_cons_succ]
                refine wpAnyH_take (i := 11) (v := .string p') rfl (by kernel_rfl) (by kernel_rfl) (by kernel_rfl) (fun _ _ _ h => h) (Or.inl ⟨by rfl, fun w hSw => by obtain ⟨g1, g2, g3, g4, _⟩ := hSw; go_simp⟩) (by assumption) ?_
                simp only [List.getElem_toArray, List.getElem_cons_succ, List.getElem_cons_zero, Act.put, List.setIfInBounds_toArray, List.set_cons_zero, List.set_cons_succ]
                refine wpAnyH_take (i := 12) (v := .bool false) rfl (by kernel_rfl) (by kernel_rfl) (by kernel_rfl) (fun _ _ _ h => h) (Or.inl ⟨by rfl, fun w hSw => by obtain ⟨g1, g2, g3, g4, _⟩ := hSw; go_simp⟩) (by assumption) ?_
                simp only [List.getElem_toArray, List.getElem_cons_succ, List.getElem_cons_zero, Act.put, List.setIfInBounds_toArray, List.set_cons_zero, List.set_cons_succ]
                refine wpAnyH_take (i := 13) (v := .bool false) rfl (by kernel_rfl) (by kernel_rfl) (by kernel_rfl) (fun _ _ _ h => h) (Or.inl ⟨by rfl, fun w hSw => by obtain ⟨g1, g2, g3, g4, _⟩ := hSw; go_simp⟩) (by assumption) ?_
                simp only [List.getElem_toArray, List.getElem_cons_succ, List.getElem_cons_zero, Act.put, List.setIfInBounds_toArray, List.set_cons_zero, List.set_cons_succ]
                refine wpAnyH_take (i := 14) (v := .pointer (some ⟨w.heap.size, 3, none⟩)) rfl (by kernel_rfl) (by kernel_rfl) (by kernel_rfl) (fun _ _ _ h => h) (Or.inl ⟨by rfl, fun w hSw => by obtain ⟨g1, g2, g3, g4, _⟩ := hSw; go_simp⟩) (by assumption) ?_
                simp only [List.getElem_toArray, List.getElem_cons_succ, List.getElem_cons_zero, Act.put, List.setIfInBounds_toArray, List.set_cons_zero, List.set_cons_succ]
                refine wpAnyH_take (i := 15) (v := .slice (some ⟨b, o, none⟩) outs.length co) rfl (by kernel_rfl) (by kernel_rfl) (by kernel_rfl) (fun _ _ _ h => h) (Or.inl ⟨by rfl, fun w hSw => by obtain ⟨g1, g2, g3, g4, _⟩ := hSw; go_simp⟩) (by assumption) ?_
                simp only [List.getElem_toArray, List.getElem_cons_succ, List.getElem_cons_zero, Act.put, List.setIfInBounds_toArray, List.set_cons_zero, List.set_cons_succ]
                refine wpAnyH_take (i := 16) (v := .int .i64 (j : Int)) rfl (by kernel_rfl) (by kernel_rfl) (by kernel_rfl) (fun _ _ _ h => h) (Or.inl ⟨by rfl, fun w hSw => by obtain ⟨g1, g2, g3, g4, _⟩ := hSw; go_simp⟩) (by assumption) ?_
                simp only [List.getElem_toArray, List.getElem_cons_succ, List.getElem_cons_zero, Act.put, List.setIfInBounds_toArray, List.set_cons_zero, List.set_cons_succ]
                refine wpAnyH_take (i := 17) (v := .pointer (some ⟨b, o + j * 6, none⟩)) rfl (by kernel_rfl) (by kernel_rfl) (by kernel_rfl) (fun _ _ _ h => h) (Or.inl ⟨by rfl, fun w hSw => by obtain ⟨g1, g2, g3, g4, _⟩ := hSw; go_simp⟩) (by assumption) ?_
                simp only [List.getElem_toArray, List.getElem_cons_succ, List.getElem_cons_zero, Act.put, List.setIfInBounds_toArray, List.set_cons_zero, List.set_cons_succ]
                refine wpAnyH_take (i := 18) (v := .pointer (some ⟨b, o + j * 6 + 1, none⟩)) rfl (by kernel_rfl) (by kernel_rfl) (by kernel_rfl) (fun _ _ _ h => h) (Or.inl ⟨by rfl, fun w hSw => by obtain ⟨g1, g2, g3, g4, _⟩ := hSw; go_simp⟩) (by assumption) ?_
                simp only [List.getElem_toArray, List.getElem_cons_succ, List.getElem_cons_zero, Act.put, List.setIfInBounds_toArray, List.set_cons_zero, List.set_cons_succ]
                refine wpAnyH_take (i := 19) (v := .agg (tmC T1 u).toArray) rfl (by kernel_rfl) (by kernel_rfl) (by kernel_rfl) (fun _ _ _ h => h) (yieldsIf_load_mid (by rfl) _ _ rfl _ _ rfl _ _ (fun w hSw => hSw.2.2.2.2.1) Tryz.underlying52 rfl (infoTms _ _)) (by assumption) ?_
                simp only [List.getElem_toArray, List.getElem_cons_succ, List.getElem_cons_zero, Act.put, List.setIfInBounds_toArray, List.set_cons_zero, List.set_cons_succ]
                refine wpAnyH_take (i := 20) (v := .pointer (some ⟨w2.heap.size, 3, none⟩)) rfl (by kernel_rfl) (by kernel_rfl) (by kernel_rfl) (fun _ _ _ h => h) (Or.inl ⟨by rfl, fun w hSw => by obtain ⟨g1, g2, g3, g4, _⟩ := hSw; go_simp⟩) (by assumption) ?_
                simp only [List.getElem_toArray, List.getElem_cons_succ, List.getElem_cons_zero, Act.put, List.setIfInBounds_toArray, List.set_cons_zero, List.set_cons_succ]
                refine wpAnyH_take (i := 21) (v := .slice (some ⟨b', o', none⟩) outs'.length co') rfl (by kernel_rfl) (by kernel_rfl) (by kernel_rfl) (fun _ _ _ h => h) (Or.inl ⟨by rfl, fun w hSw => by obtain ⟨g1, g2, g3, g4, _⟩ := hSw; go_simp⟩) (by assumption) ?_
                simp only [List.getElem_toArray, List.getElem_cons_succ, List.getElem_cons_zero, Act.put, List.setIfInBounds_toArray, List.set_cons_zero, List.set_cons_succ]
                refine wpAnyH_take (i := 22) (v := .int .i64 (j : Int)) rfl (by kernel_rfl) (by kernel_rfl) (by kernel_rfl) (fun _ _ _ h => h) (Or.inl ⟨by rfl, fun w hSw => by obtain ⟨g1, g2, g3, g4, _⟩ := hSw; go_simp⟩) (by assumption) ?_
                simp only [List.getElem_toArray, List.getElem_cons_succ, List.getElem_cons_zero, Act.put, List.setIfInBounds_toArray, List.set_cons_zero, List.set_cons_succ]
                refine wpAnyH_take (i := 23) (v := .pointer (some ⟨b', o' + j * 6, none⟩)) rfl (by kernel_rfl) (by kernel_rfl) (by kernel_rfl) (fun _ _ _ h => h) (Or.inl ⟨by rfl, fun w hSw => by obtain ⟨g1, g2, g3, g4, _⟩ := hSw; go_simp⟩) (by assumption) ?_
                simp only [List.getElem_toArray, List.getElem_cons_succ, List.getElem_cons_zero, Act.put, List.setIfInBounds_toArray, List.set_cons_zero, List.set_cons_succ]
                refine wpAnyH_take (i := 24) (v := .pointer (some ⟨b', o' + j * 6 + 1, none⟩)) rfl (by kernel_rfl) (by kernel_rfl) (by kernel_rfl) (fun _ _ _ h => h) (Or.inl ⟨by rfl, fun w hSw => by obtain ⟨g1, g2, g3, g4, _⟩ := hSw; go_simp⟩) (by assumption) ?_
                simp only [List.getElem_toArray, List.getElem_cons_succ, List.getElem_cons_zero, Act.put, List.setIfInBounds_toArray, List.set_cons_zero, List.set_cons_succ]
                refine wpAnyH_take (i := 25) (v := .agg (tmC T2 u').toArray) rfl (by kernel_rfl) (by kernel_rfl) (by kernel_rfl) (fun _ _ _ h => h) (yieldsIf_load_mid (by rfl) _ _ rfl _ _ rfl _ _ (fun w hSw => hSw.2.2.2.2.2) Tryz.underlying52 rfl (infoTms _ _)) (by assumption) ?_
                simp only [List.getElem_toArray, List.getElem_cons_succ, List.getElem_cons_zero, Act.put, List.setIfInBounds_toArray, List.set_cons_zero, List.set_cons_succ]
                refine wpAnyH_ready (rs := [26]) (by kernel_rfl) (by simp) (AllReadyH.cons rfl (fun K hK => ?_) AllReadyH.nil)
                refine step_call2W (by rfl) 26 (fun v u W => by kernel_rfl) (.tmp 61) (.tmp 67) _ rfl rfl rfl (unhide HIC _ (Below.refl _ _).drew) ?_
                rintro e w7 ⟨HR, hb7⟩
                obtain ⟨r, rfl, hR⟩ := HR
                have HR := hide hR
                clear hR
                refine ⟨_, rfl, ?_⟩
                refine hK.out _ _ (unhide HSS _ (below_then (Below.refl _ _).drew hb7)) (fun hH2 => ?_)
                clear hK K
                simp only [List.getElem_toArray, List.getElem_cons_succ, List.getElem_cons_zero, Act.put, List.setIfInBounds_toArray, List.set_cons_zero, List.set_cons_succ]
                have HB7 := hide (below_then (below_then HJ.out.1 (Below.refl _ _).drew) hb7)
                have HB8 := hide (below_then HB4.out HB7.out)
                clear hb7 HSS HIC hp4 hq4 hHeld
                cases r with
                | true =>
                  have HE : Hid (outs.getD j ou0 = outs'.getD j ou0) := hide (by rw [← HT1.out, ← HT2.out, HXY.out, HR.out.1 rfl])
                  refine wpAnyH_take (i := 27) (v := .bool false) rfl (by kernel_rfl) (by kernel_rfl) (by kernel_rfl) (fun _ _ _ h => h) (Or.inl ⟨by rfl, fun w hSw => by obtain ⟨g1, g2, g3, g4, _⟩ := hSw; go_simp⟩) (by assumption) ?_
                  simp only [List.getElem_toArray, List.getElem_cons_succ, List.getElem_cons_zero, Act.put, List.setIfInBounds_toArray, List.set_cons_zero, List.set_cons_succ]
                  refine wpAnyH_take (i := 28) (v := .bool false) rfl (by kernel_rfl) (by kernel_rfl) (by kernel_rfl) (fun _ _ _ h => h) (Or.inl ⟨by rfl, fun w hSw => by obtain ⟨g1, g2, g3, g4, _⟩ := hSw; go_simp⟩) (by assumption) ?_
                  simp only [List.getElem_toArray, List.getElem_cons_succ, List.getElem_cons_zero, Act.put, List.setIfInBounds_toArray, List.set_cons_zero, List.set_cons_succ]
                  refine wpAnyH_done (by kernel_rfl) ?_ _
                  go_wp2
                  go_roundw
                  case rel => exact ⟨j + 1, by go_num, by omega, HB7.out, fun i hi => by
                    by_cases e : i = j
                    · rw [e]; exact HE.out
                    · exact HJ.out.2 i (by omega)⟩
                  case measure => simp [intOf]; omega
                | false =>
                  refine wpAnyH_take (i := 27) (v := .bool true) rfl (by kernel_rfl) (by kernel_rfl) (by kernel_rfl) (fun _ _ _ h => h) (Or.inl ⟨by rfl, fun w hSw => by obtain ⟨g1, g2, g3, g4, _⟩ := hSw; go_simp⟩) (by assumption) ?_
                  simp only [List.getElem_toArray, List.getElem_cons_succ, List.getElem_cons_zero, Act.put, List.setIfInBounds_toArray, List.set_cons_zero, List.set_cons_succ]
                  refine wpAnyH_take (i := 28) (v := .bool true) rfl (by kernel_rfl) (by kernel_rfl) (by kernel_rfl) (fun _ _ _ h => h) (Or.inl ⟨by rfl, fun w hSw => by obtain ⟨g1, g2, g3, g4, _⟩ := hSw; go_simp⟩) (by assumption) ?_
                  simp only [List.getElem_toArray, List.getElem_cons_succ, List.getElem_cons_zero, Act.put, List.setIfInBounds_toArray, List.set_cons_zero, List.set_cons_succ]
                  refine wpAnyH_done (by kernel_rfl) ?_ _
                  go_wp2
                  go_ret
                  exact ⟨⟨false, rfl, fun e => (by cases e), fun e => absurd ((ts_ext e).2.2.2) (fun e => by have h1 := HT1.out; have h2 := HT2.out; rw [e, ← h2] at h1; have := HR.out.2 (congrArg Prod.snd h1); cases this)⟩, HB8.out⟩
              · have hne := strI_f hxy
                have HB7 := hide (below_then HJ.out.1 (Below.refl _ _).drew)
                have HB8 := hide (below_then HB4.out HB7.out)
                refine wp_region_held_drew (S := fun W2 => W2.cell? ⟨w.heap.size, 3, none⟩ = some (.slice (some ⟨b, o, none⟩) outs.length co) ∧ W2.cell? ⟨w2.heap.size, 3, none⟩ = some (.slice (some ⟨b', o', none⟩) outs'.length co') ∧ W2.cell? ⟨b, o + j * 6, none⟩ = some (.string p) ∧ W2.cell? ⟨b', o' + j * 6, none⟩ = some (.string p') ∧ W2.rangeAt b (o + j * 6 + 1) (tmC T1 u) ∧ W2.rangeAt b' (o' + j * 6 + 1) (tmC T2 u')) (by kernel_rfl) (unhide HSS _ (Below.refl _ _).drew) (fun hHeld => ?_)
                refine wpAnyH_take (i := 0) (v := .pointer (some ⟨w.heap.size, 3, none⟩)) rfl (by kernel_rfl) (by kernel_rfl) (by kernel_rfl) (fun _ _ _ h => h) (Or.inl ⟨by rfl, fun w hSw => by obtain ⟨g1, g2, g3, g4, _⟩ := hSw; go_simp⟩) (by assumption) ?_
                simp only [List.getElem_toArray, List.getElem_cons_zero, Act.put, List.setIfInBounds_toArray, List.set_cons_zero, List.set_cons_succ]
                refine wpAnyH_take (i := 1) (v := .slice (some ⟨b, o, none⟩) outs.length co) rfl (by kernel_rfl) (by kernel_rfl) (by kernel_rfl) (fun _ _ _ h => h) (Or.inl ⟨by rfl, fun w hSw => by obtain ⟨g1, g2, g3, g4, _⟩ := hSw; go_simp⟩) (by assumption) ?_
                simp only [List.getElem_toArray, List.getElem_cons_succ, List.getElem_cons_zero, Act.put, List.setIfInBounds_toArray, List.set_cons_zero, List.set_cons_succ]
                refine wpAnyH_take (i := 2) (v := .int .i64 (j : Int)) rfl (by kernel_rfl) (by kernel_rfl) (by kernel_rfl) (fun _ _ _ h => h) (Or.inl ⟨by rfl, fun w hSw => by obtain ⟨g1, g2, g3, g4, _⟩ := hSw; go_simp⟩) (by assumption) ?_
                simp only [List.getElem_toArray, List.getElem_cons_succ, List.getElem_cons_zero, Act.put, List.setIfInBounds_toArray, List.set_cons_zero, List.set_cons_succ]
                refine wpAnyH_take (i := 3) (v := .pointer (some ⟨b, o + j * 6, none⟩)) rfl (by kernel_rfl) (by kernel_rfl) (by kernel_rfl) (fun _ _ _ h => h) (Or.inl ⟨by rfl, fun w hSw => by obtain ⟨g1, g2, g3, g4, _⟩ := hSw; go_simp⟩) (by assumption) ?_
                simp only [List.getElem_toArray, List.getElem_cons_succ, List.getElem_cons_zero, Act.put, List.setIfInBounds_toArray, List.set_cons_zero, List.set_cons_succ]
                refine wpAnyH_take (i := 4) (v := .pointer (some ⟨b, o + j * 6, none⟩)) rfl (by kernel_rfl) (by kernel_rfl) (by kernel_rfl) (fun _ _ _ h => h) (Or.inl ⟨by rfl, fun w hSw => by obtain ⟨g1, g2, g3, g4, _⟩ := hSw; go_simp⟩) (by assumption) ?_
                simp only [List.getElem_toArray, List.getElem_cons_succ, List.getElem_cons_zero, Act.put, List.setIfInBounds_toArray, List.set_cons_zero, List.set_cons_succ]
                refine wpAnyH_take (i := 5) (v := .string p) rfl (by kernel_rfl) (by kernel_rfl) (by kernel_rfl) (fun _ _ _ h => h) (Or.inl ⟨by rfl, fun w hSw => by obtain ⟨g1, g2, g3, g4, _⟩ := hSw; go_simp⟩) (by assumption) ?_
                simp only [List.getElem_toArray, List.getElem_cons_succ, List.getElem_cons_zero, Act.put, List.setIfInBounds_toArray, List.set_cons_zero, List.set_cons_succ]
                refine wpAnyH_take (i := 6) (v := .pointer (some ⟨w2.heap.size, 3, none⟩)) rfl (by kernel_rfl) (by kernel_rfl) (by kernel_rfl) (fun _ _ _ h => h) (Or.inl ⟨by rfl, fun w hSw => by obtain ⟨g1, g2, g3, g4, _⟩ := hSw; go_simp⟩) (by assumption) ?_
                simp only [List.getElem_toArray, List.getElem_cons_succ, List.getElem_cons_zero, Act.put, List.setIfInBounds_toArray, List.set_cons_zero, List.set_cons_succ]
                refine wpAnyH_take (i := 7) (v := .slice (some ⟨b', o', none⟩) outs'.length co') rfl (by kernel_rfl) (by kernel_rfl) (by kernel_rfl) (fun _ _ _ h => h) (Or.inl ⟨by rfl, fun w hSw => by obtain ⟨g1, g2, g3, g4, _⟩ := hSw; go_simp⟩) (by assumption) ?_
                simp only [List.getElem_toArray, List.getElem_cons_succ, List.getElem_cons_zero, Act.put, List.setIfInBounds_toArray, List.set_cons_zero, List.set_cons_succ]
                refine wpAnyH_take (i := 8) (v := .int .i64 (j : Int)) rfl (by kernel_rfl) (by kernel_rfl) (by kernel_rfl) (fun _ _ _ h => h) (Or.inl ⟨by rfl, fun w hSw => by obtain ⟨g1, g2, g3, g4, _⟩ := hSw; go_simp⟩) (by assumption) ?_
                simp only [List.getElem_toArray, List.getElem_cons_succ, List.getElem_cons_zero, Act.put, List.setIfInBounds_toArray, List.set_cons_zero, List.set_cons_succ]
                refine wpAnyH_take (i := 9) (v := .pointer (some ⟨b', o' + j * 6, none⟩)) rfl (by kernel_rfl) (by kernel_rfl) (by kernel_rfl) (fun _ _ _ h => h) (Or.inl ⟨by rfl, fun w hSw => by obtain ⟨g1, g2, g3, g4, _⟩ := hSw; go_simp⟩) (by assumption) ?_
                simp only [List.getElem_toArray, List.getElem_cons_succ, List.getElem_cons_zero, Act.put, List.setIfInBounds_toArray, List.set_cons_zero, List.set_cons_succ]
                refine wpAnyH_take (i := 10) (v := .pointer (some ⟨b', o' + j * 6, none⟩)) rfl (by kernel_rfl) (by kernel_rfl) (by kernel_rfl) (fun _ _ _ h => h) (Or.inl ⟨by rfl, fun w hSw => by obtain ⟨g1, g2, g3, g4, _⟩ := hSw; go_simp⟩) (by assumption) ?_
                simp only [List.getElem_toArray, List.getElem_cons_succ, List.getElem_cons_zero, Act.put, List.setIfInBounds_toArray, List.set_cons_zero, List.set_cons_succ]
                refine wpAnyH_take (i := 11) (v := .string p') rfl (by kernel_rfl) (by kernel_rfl) (by kernel_rfl) (fun _ _ _ h => h) (Or.inl ⟨by rfl, fun w hSw => by obtain ⟨g1, g2, g3, g4, _⟩ := hSw; go_simp⟩) (by assumption) ?_
                simp only [List.getElem_toArray, List.getElem_cons_succ, List.getElem_cons_zero, Act.put, List.setIfInBounds_toArray, List.set_cons_zero, List.set_cons_succ]
                refine wpAnyH_take (i := 12) (v := .bool true) rfl (by kernel_rfl) (by kernel_rfl) (by kernel_rfl) (fun _ _ _ h => h) (Or.inl ⟨by rfl, fun w hSw => by obtain ⟨g1, g2, g3, g4, _⟩ := hSw; go_simp⟩) (by assumption) ?_
                simp only [List.getElem_toArray, List.getElem_cons_succ, List.getElem_cons_zero, Act.put, List.setIfInBounds_toArray, List.set_cons_zero, List.set_cons_succ]
                refine wpAnyH_take (i := 13) (v := .bool true) rfl (by kernel_rfl) (by kernel_rfl) (by kernel_rfl) (fun _ _ _ h => h) (Or.inl ⟨by rfl, fun w hSw => by obtain ⟨g1, g2, g3, g4, _⟩ := hSw; go_simp⟩) (by assumption) ?_
                simp only [List.getElem_toArray, List.getElem_cons_succ, List.getElem_cons_zero, Act.put, List.setIfInBounds_toArray, List.set_cons_zero, List.set_cons_succ]
                refine wpAnyH_take (i := 14) (v := undef) rfl (by kernel_rfl) (by kernel_rfl) (by kernel_rfl) (fun _ _ _ h => h) (Or.inr ⟨by rfl, rfl⟩) (by assumption) ?_
                simp only [List.getElem_toArray, List.getElem_cons_succ, List.getElem_cons_zero, Act.put, List.setIfInBounds_toArray, List.set_cons_zero, List.set_cons_succ]
                refine wpAnyH_take (i := 15) (v := undef) rfl (by kernel_rfl) (by kernel_rfl) (by kernel_rfl) (fun _ _ _ h => h) (Or.inr ⟨by rfl, rfl⟩) (by assumption) ?_
                simp only [List.getElem_toArray, List.getElem_cons_succ, List.getElem_cons_zero, Act.put, List.setIfInBounds_toArray, List.set_cons_zero, List.set_cons_succ]
                refine wpAnyH_take (i := 16) (v := undef) rfl (by kernel_rfl) (by kernel_rfl) (by kernel_rfl) (fun _ _ _ h => h) (Or.inr ⟨by rfl, rfl⟩) (by assumption) ?_
                simp only [List.getElem_toArray, List.getElem_cons_succ, List.getElem_cons_zero, Act.put, List.setIfInBounds_toArray, List.set_cons_zero, List.set_cons_succ]
                refine wpAnyH_take (i := 17) (v := undef) rfl (by kernel_rfl) (by kernel_rfl) (by kernel_rfl) (fun _ _ _ h => h) (Or.inr ⟨by rfl, rfl⟩) (by assumption) ?_
                simp only [List.getElem_toArray, List.getElem_cons_succ, List.getElem_cons_zero, Act.put, List.setIfInBounds_toArray, List.set_cons_zero, List.set_cons_succ]
                refine wpAnyH_take (i := 18) (v := undef) rfl (by kernel_rfl) (by kernel_rfl) (by kernel_rfl) (fun _ _ _ h => h) (Or.inr ⟨by rfl, rfl⟩) (by assumption) ?_
                simp only [List.getElem_toArray, List.getElem_cons_succ, List.getElem_cons_zero, Act.put, List.setIfInBounds_toArray, List.set_cons_zero, List.set_cons_succ]
                refine wpAnyH_take (i := 19) (v := undef) rfl (by kernel_rfl) (by kernel_rfl) (by kernel_rfl) (fun _ _ _ h => h) (Or.inr ⟨by rfl, rfl⟩) (by assumption) ?_
                simp only [List.getElem_toArray, List.getElem_cons_succ, List.getElem_cons_zero, Act.put, List.setIfInBounds_toArray, List.set_cons_zero, List.set_cons_succ]
                refine wpAnyH_take (i := 20) (v := undef) rfl (by kernel_rfl) (by kernel_rfl) (by kernel_rfl) (fun _ _ _ h => h) (Or.inr ⟨by rfl, rfl⟩) (by assumption) ?_
                simp only [List.getElem_toArray, List.getElem_cons_succ, List.getElem_cons_zero, Act.put, List.setIfInBounds_toArray, List.set_cons_zero, List.set_cons_succ]
                refine wpAnyH_take (i := 21) (v := undef) rfl (by kernel_rfl) (by kernel_rfl) (by kernel_rfl) (fun _ _ _ h => h) (Or.inr ⟨by rfl, rfl⟩) (by assumption) ?_
                simp only [List.getElem_toArray, List.getElem_cons_succ, List.getElem_cons_zero, Act.put, List.setIfInBounds_toArray, List.set_cons_zero, List.set_cons_succ]
                refine wpAnyH_take (i := 22) (v := undef) rfl (by kernel_rfl) (by kernel_rfl) (by kernel_rfl) (fun _ _ _ h => h) (Or.inr ⟨by rfl, rfl⟩) (by assumption) ?_
                simp only [List.getElem_toArray, List.getElem_cons_succ, List.getElem_cons_zero, Act.put, List.setIfInBounds_toArray, List.set_cons_zero, List.set_cons_succ]
                refine wpAnyH_take (i := 23) (v := undef) rfl (by kernel_rfl) (by kernel_rfl) (by kernel_rfl) (fun _ _ _ h => h) (Or.inr ⟨by rfl, rfl⟩) (by assumption) ?_
                simp only [List.getElem_toArray, List.getElem_cons_succ, List.getElem_cons_zero, Act.put, List.setIfInBounds_toArray, List.set_cons_zero, List.set_cons_succ]
                refine wpAnyH_take (i := 24) (v := undef) rfl (by kernel_rfl) (by kernel_rfl) (by kernel_rfl) (fun _ _ _ h => h) (Or.inr ⟨by rfl, rfl⟩) (by assumption) ?_
                simp only [List.getElem_toArray, List.getElem_cons_succ, List.getElem_cons_zero, Act.put, List.setIfInBounds_toArray, List.set_cons_zero, List.set_cons_succ]
                refine wpAnyH_take (i := 25) (v := undef) rfl (by kernel_rfl) (by kernel_rfl) (by kernel_rfl) (fun _ _ _ h => h) (Or.inr ⟨by rfl, rfl⟩) (by assumption) ?_
                simp only [List.getElem_toArray, List.getElem_cons_succ, List.getElem_cons_zero, Act.put, List.setIfInBounds_toArray, List.set_cons_zero, List.set_cons_succ]
                refine wpAnyH_take (i := 26) (v := undef) rfl (by kernel_rfl) (by kernel_rfl) (by kernel_rfl) (fun _ _ _ h => h) (Or.inr ⟨by rfl, rfl⟩) (by assumption) ?_
                simp only [List.getElem_toArray, List.getElem_cons_succ, List.getElem_cons_zero, Act.put, List.setIfInBounds_toArray, List.set_cons_zero, List.set_cons_succ]
                refine wpAnyH_take (i := 27) (v := undef) rfl (by kernel_rfl) (by kernel_rfl) (by kernel_rfl) (fun _ _ _ h => h) (Or.inr ⟨by rfl, rfl⟩) (by assumption) ?_
                simp only [List.getElem_toArray, List.getElem_cons_succ, List.getElem_cons_zero, Act.put, List.setIfInBounds_toArray, List.set_cons_zero, List.set_cons_succ]
                refine wpAnyH_take (i := 28) (v := .bool true) rfl (by kernel_rfl) (by kernel_rfl) (by kernel_rfl) (fun _ _ _ h => h) (Or.inl ⟨by rfl, fun w hSw => by obtain ⟨g1, g2, g3, g4, _⟩ := hSw; go_simp⟩) (by assumption) ?_
                simp only [List.getElem_toArray, List.getElem_cons_succ, List.getElem_cons_zero, Act.put, List.setIfInBounds_toArray, List.set_cons_zero, List.set_cons_succ]
                refine wpAnyH_done (by kernel_rfl) ?_ _
                clear hHeld HSS HIC hp4 hq4
                go_wp2
                go_ret
                exact ⟨⟨false, rfl, fun e => (by cases e), fun e => absurd ((ts_ext e).2.2.2) (fun e => by have h1 := HT1.out; have h2 := HT2.out; rw [e, ← h2] at h1; exact hxy (congrArg Prod.fst h1))⟩, HB8.out⟩
            · have hlti : ¬ (j : Int) < (outs.length : Int) := by omega
              go_wp2
              go_ret
              exact ⟨⟨true, rfl, fun _ => (by obtain ⟨e1, e2, e3⟩ := HEQ.out; rw [e1, e2, e3, ous_all HLN.out (fun i hi => HJ.out.2 i (by omega))]), fun _ => rfl⟩, below_then HB4.out HJ.out.1⟩
        · have f5 : ((outs.length : Int) != (outs'.length : Int)) = true := int_f (by omega)
          have HL2 := hide hl
          clear hk hb hi hl
          go_enter Tryz.func12, Tryz.ntmps12
          go_wp2_with (first
            | ((fail_if_success clear HA3); refine wpList_boxJ rfl 25 _ rfl rfl ?_; first | (have hq := HA2.out; clear hq; intro w3 hA3 hb3 hs3; have HA3 := hide hA3; have HB3 := hide (below_then HB2.out hb3); have HB23 := hide hb3; have p0 := (tsC_arr (HA2.out.below hb3)).1; have q0 := (tsC_arr HA3.out).1; have p1 := (tsC_arr (HA2.out.below hb3)).2.1; have q1 := (tsC_arr HA3.out).2.1; have p2 := (tsC_arr (HA2.out.below hb3)).2.2.1; have q2 := (tsC_arr HA3.out).2.2.1; have p3 := (tsC_arr (HA2.out.below hb3)).2.2.2; have q3 := (tsC_arr HA3.out).2.2.2; clear hA3 hb3 hs3) | (intro w2 hA2 hb2 hs2; have HA2 := hide hA2; have HB2 := hide hb2; clear hA2 hb2 hs2))
            | fail)
          refine (HSM.out w3 HB3.out).mono ?_
          rintro e w4 ⟨rfl, hb4⟩
          have HB4 := hide (below_then HB3.out hb4)
          have HB34 := hide hb4
          obtain ⟨_, _, p2', p3'⟩ := tsC_arr ((HA2.out.below HB23.out).below hb4)
          obtain ⟨_, _, q2', q3'⟩ := tsC_arr (HA3.out.below hb4)
          clear hb4 p0 q0 p1 q1 p2 q2 p3 q3
          go_wp2
          go_ret
          exact ⟨⟨false, rfl, fun e => (by cases e), fun e => absurd e (fun e => HL2.out (by rw [(ts_ext e).2.2.2]))⟩, HB4.out⟩
      · have HSM : Hid (∀ W2, Below w.heap.size w W2 → Calls Tryz.prog 25 #[.slice ai ins.length ci, .slice ai' ins'.length ci'] W2 fun e w' => e = .returned (.bool false) ∧ Below W2.heap.size W2 w') := hide (fun W2 h => by have := HS0.out W2 h; rw [decide_eq_false hi] at this; exact this)
        have HI2 := hide hi
        clear hk hb hi
        go_enter Tryz.func12, Tryz.ntmps12
        go_wp2_with (first
          | ((fail_if_success clear HA3); refine wpList_boxJ rfl 25 _ rfl rfl ?_; first | (have hq := HA2.out; clear hq; intro w3 hA3 hb3 hs3; have HA3 := hide hA3; have HB3 := hide (below_then HB2.out hb3); have HB23 := hide hb3; have p0 := (tsC_arr (HA2.out.below hb3)).1; have q0 := (tsC_arr HA3.out).1; have p1 := (tsC_arr (HA2.out.below hb3)).2.1; have q1 := (tsC_arr HA3.out).2.1; have p2 := (tsC_arr (HA2.out.below hb3)).2.2.1; have q2 := (tsC_arr HA3.out).2.2.1; have p3 := (tsC_arr (HA2.out.below hb3)).2.2.2; have q3 := (tsC_arr HA3.out).2.2.2; clear hA3 hb3 hs3) | (intro w2 hA2 hb2 hs2; have HA2 := hide hA2; have HB2 := hide hb2; clear hA2 hb2 hs2))
          | fail)
        refine (HSM.out w3 HB3.out).mono ?_
        rintro e w4 ⟨rfl, hb4⟩
        have HB4 := hide (below_then HB3.out hb4)
        have HB34 := hide hb4
        obtain ⟨_, _, p2', p3'⟩ := tsC_arr ((HA2.out.below HB23.out).below hb4)
        obtain ⟨_, _, q2', q3'⟩ := tsC_arr (HA3.out.below hb4)
        clear hb4 p0 q0 p1 q1 p2 q2 p3 q3
        go_wp2
        go_ret
        exact ⟨⟨false, rfl, fun e => (by cases e), fun e => absurd e (fun e => HI2.out (ts_ext e).2.2.1)⟩, HB4.out⟩
    · have f2 := int_f hb
      have HB2' := hide hb
      clear hk hb
      go_enter Tryz.func12, Tryz.ntmps12
      go_wp2_with (first
        | ((fail_if_success clear HA3); refine wpList_boxJ rfl 25 _ rfl rfl ?_; first | (have hq := HA2.out; clear hq; intro w3 hA3 hb3 hs3; have HA3 := hide hA3; have HB3 := hide (below_then HB2.out hb3); have HB23 := hide hb3; have p0 := (tsC_arr (HA2.out.below hb3)).1; have q0 := (tsC_arr HA3.out).1; have p1 := (tsC_arr (HA2.out.below hb3)).2.1; have q1 := (tsC_arr HA3.out).2.1; clear hA3 hb3 hs3) | (intro w2 hA2 hb2 hs2; have HA2 := hide hA2; have HB2 := hide hb2; clear hA2 hb2 hs2))
        | fail)
      go_ret
      exact ⟨⟨false, rfl, fun e => (by cases e), fun e => absurd e (fun e => HB2'.out (ts_ext e).2.1)⟩, HB3.out⟩
  · have f1 := strI_f hk
    go_enter Tryz.func12, Tryz.ntmps12
    go_wp2_with (first
      | ((fail_if_success clear HA3); refine wpList_boxJ rfl 25 _ rfl rfl ?_; first | (have hq := HA2.out; clear hq; intro w3 hA3 hb3 hs3; have HA3 := hide hA3; have HB3 := hide (below_then HB2.out hb3); have HB23 := hide hb3; have p0 := (tsC_arr (HA2.out.below hb3)).1; have q0 := (tsC_arr HA3.out).1; clear hA3 hb3 hs3) | (intro w2 hA2 hb2 hs2; have HA2 := hide hA2; have HB2 := hide hb2; clear hA2 hb2 hs2))
      | fail)
    go_ret
    exact ⟨⟨false, rfl, fun e => (by cases e), fun e => absurd e (fun e => hk (ts_ext e).1)⟩, HB3.out⟩
end Go.Proofs.YtfhfobikbfbajaaGreatDoor
