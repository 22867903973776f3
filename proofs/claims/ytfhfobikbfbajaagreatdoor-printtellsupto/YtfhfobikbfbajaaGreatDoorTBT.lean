/- Do the marks behind a term's lists stand? Do the marks behind a task's lists stand? Keys (arrays of bytes) held against one another. Are keys with their marks as they were? -/
import Derived.Test.YtfhfobikbfbajaaGreatDoorTBP
import Derived.Test.YtfhfobikbfbajaaGreatDoorTBQ
import Derived.Test.YtfhfobikbfbajaaGreatDoorTAB
import Derived.Laws.StructEq
namespace Go.Proofs.YtfhfobikbfbajaaGreatDoor
open Go.RowKit Go.Maps

set_option maxRecDepth 100000 in
set_option maxHeartbeats 4000000 in
theorem kterm_calls : ∀ (d : Nat) (w : World) (F : Nat → Prop) (t : Tm) (v : Value), IsKt w F d t.args v → Calls Tryz.prog 37 #[.agg (tmC t v).toArray] w fun e w' => e = .returned (.bool true) ∧ Below w.heap.size w w' := by
  intro d
  induction d using Nat.strongRecOn with
  | ind d ih =>
    intro w F t v h
    have HIH := hide ih
    obtain ⟨V, h1, hn1, hn2, hF, h5⟩ := h.row
    obtain ⟨g, c, rfl, h2, h3, _, hgl, h6, _⟩ := h1.head
    obtain ⟨k, x, n, m, ag⟩ := t
    have H5 := hide h5
    have h6 : ∀ j, j < (ag.length + 2) * 5 → w.cell? ⟨g, j, none⟩ = (tmsC (ag ++ kmk2) V)[j]? := h6
    have e1 : ∀ k, k < 5 → w.cell? ⟨g, ag.length * 5 + k, none⟩ = (tmC ⟨-71, ByteArray.empty, 0, 0, []⟩ (V ag.length))[k]? := fun k hk => by rw [h6 _ (by omega), tmsC_at (by simp [kmk2]) hk, mk_at1]
    have e2 : ∀ k, k < 5 → w.cell? ⟨g, (ag.length + 1) * 5 + k, none⟩ = (tmC ⟨-72, ByteArray.empty, 0, 0, []⟩ (V (ag.length + 1)))[k]? := fun k hk => by rw [h6 _ (by omega), tmsC_at (by simp [kmk2]) hk, mk_at2]
    have HC : Hid (∀ W, Below w.heap.size w W → W.cell? ⟨g, ag.length * 5, none⟩ = some (.int .i64 (-71)) ∧ W.cell? ⟨g, (ag.length + 1) * 5, none⟩ = some (.int .i64 (-72)) ∧ W.cell? ⟨g, ag.length * 5 + 1, none⟩ = some (.string ByteArray.empty) ∧ W.cell? ⟨g, ag.length * 5 + 4, none⟩ = some (.slice none 0 0)) := hide (fun W hb => by
      have q : ∀ o v, w.cell? ⟨g, o, none⟩ = some v → W.cell? ⟨g, o, none⟩ = some v := fun o v q => (hb.cell (p := ⟨g, o, none⟩) hgl).trans q
      exact ⟨q _ _ (e1 0 (by decide)), q _ _ (e2 0 (by decide)), q _ _ (e1 1 (by decide)), q _ _ ((e1 4 (by decide)).trans (by rw [show V ag.length = .slice none 0 0 from hn1]; rfl))⟩)
    have HR : Hid (∀ j, j < ag.length → w.rangeAt g (j * 5) (tmC (ag.getD j .nul) (V j))) := hide (fun j hj q y hy => by
      have hq : q < 5 := (List.getElem?_eq_some_iff.1 hy).1
      rw [h6 _ (by omega), tmsC_at (by simp; omega) hq, mk_at hj, hy])
    have h2 : ag.length + 2 ≤ c := h2
    have hmq : (ag.length : Int) ≤ 9223372036854775807 := by omega
    have hwa : IntKind.i64.wrap ((ag.length : Int) + 2) = ((ag.length + 2 : Nat) : Int) := by rw [IntKind.wrap_i64]; omega
    have hwb : IntKind.i64.wrap ((ag.length : Int) + 1) = ((ag.length + 1 : Nat) : Int) := by rw [IntKind.wrap_i64]; omega
    have hsl : ∀ W2, (Instr.sliceAt 50 (.slice (some ⟨g, 0, none⟩) ag.length c) none (some (.int .i64 ((ag.length : Int) + 2))) none).run Tryz.prog W2 = .ok (.slice (some ⟨g, 0, none⟩) (ag.length + 2) c) W2 := fun W2 => by rw [show (ag.length : Int) + 2 = ((ag.length + 2 : Nat) : Int) by omega]; exact slice_hTm g 0 ag.length c (ag.length + 2) h2 W2 (by omega)
    clear ih h h1 hn1 hn2 hF h5 h6 e1 e2 h2 h3
    show Calls Tryz.prog 37 #[.agg (tmC ⟨k, x, n, m, ag⟩ (.slice (some ⟨g, 0, none⟩) ag.length c)).toArray] w _
    go_enter Tryz.func37, Tryz.ntmps37
    go_wp2_with (first
      | (refine wpList_boxJ rfl 52 (.tmp 0) rfl (cs := (tmC ⟨k, x, n, m, ag⟩ (.slice (some ⟨g, 0, none⟩) ag.length c))) rfl ?_; intro w2 hA2 hb2 hs2; have HA2 := hide hA2; have HB2 := hide hb2; have c4 := (tmC_arr hA2).2.2.2.2; obtain ⟨m0, m1, m2, m3⟩ := HC.out w2 hb2; clear hA2 hb2 hs2)
      | fail)
    clear m0 m1 m2 m3 hsl
    go_loopw [5] (fun iv wr => ∃ j : Nat, iv = .int .i64 (j : Int) ∧ j ≤ ag.length ∧ Hid (Below w2.heap.size w2 wr)) (fun iv _ => ag.length - (intOf iv).toNat)
    case atStart => exact ⟨0, rfl, Nat.zero_le _, Below.refl _ _⟩
    case round =>
      obtain ⟨j, rfl, hjq, HJ⟩ := hrel
      have c4 := (tmC_arr (HA2.out.below HJ.out)).2.2.2.2
      by_cases hlt : j < ag.length
      · have hlti : (j : Int) < (ag.length : Int) := by omega
        obtain ⟨e0, hD, hk⟩ := H5.out j hlt
        have HB4 := hide (below_then HB2.out HJ.out)
        have hrr := rangeAt_below (HR.out j hlt) HB4.out
        have HIC := hide (fun W2 (h : Below w.heap.size w W2) => HIH.out e0 (by omega) W2 F (ag.getD j .nul) (V j) (hk.below h))
        obtain ⟨T2, hT2⟩ : ∃ t2, t2 = ag.getD j .nul := ⟨_, rfl⟩
        rw [← hT2] at hrr HIC
        obtain ⟨u2, hu2⟩ : ∃ t2, t2 = V j := ⟨_, rfl⟩
        rw [← hu2] at hrr HIC
        have hwj : IntKind.i64.wrap ((j : Int) + 1) = ((j + 1 : Nat) : Int) := by rw [IntKind.wrap_i64]; omega
        clear hk hT2 hD hu2 HIH H5 HR HC
        go_wp2_with (first
          | (refine wpList_loadJ rfl 52 (.tmp 54) rfl g (j * 5) rfl (tmC T2 u2) _ hrr Tryz.underlying52 rfl (infoTms _ _) ?_)
          | fail)
        refine (HIC.out _ HB4.out).mono ?_
        rintro e w7 ⟨rfl, hb7⟩
        have HB7 := hide (below_then HJ.out hb7)
        clear hb7 hrr HIC c4
        go_wp2
        go_roundw
        case rel => exact ⟨j + 1, by go_num, by omega, HB7.out⟩
        case measure => simp [intOf]; omega
      · have hlti : ¬ (j : Int) < (ag.length : Int) := by omega
        go_wp2
        go_ret
        exact ⟨rfl, below_then HB2.out HJ.out⟩
end Go.Proofs.YtfhfobikbfbajaaGreatDoor

namespace Go.Proofs.YtfhfobikbfbajaaGreatDoor
open Go.RowKit Go.Maps

theorem slice_lSt2 (g n c q : Nat) (hq : q ≤ n) (hc : q < c) (W : World) : (Instr.sliceAt 22 (.slice (some ⟨g, 0, none⟩) n c) (some (.int .i64 (q : Int))) none none).run Tryz.prog W = .ok (.slice (some ⟨g, q, none⟩) (n - q) (c - q)) W := by
  rw [run_sliceAt_slice W _ _ _ _ _ elemSs, run_slice_l W _ _ n c elemSs .i64 q (by omega) (by omega), sizeSs]
  have h : ¬ c = q := by omega
  simp [Result.andThen, sliced, h, Addr.add]
  intro h2
  exact h2.symm
theorem slice_lO2 (g n c q : Nat) (hq : q ≤ n) (hc : q < c) (W : World) : (Instr.sliceAt 23 (.slice (some ⟨g, 0, none⟩) n c) (some (.int .i64 (q : Int))) none none).run Tryz.prog W = .ok (.slice (some ⟨g, q * 6, none⟩) (n - q) (c - q)) W := by
  rw [run_sliceAt_slice W _ _ _ _ _ elemOs, run_slice_l W _ _ n c elemOs .i64 q (by omega) (by omega), sizeOs]
  have h : ¬ c = q := by omega
  simp [Result.andThen, sliced, h, Addr.add]
  intro h2
  exact h2.symm
set_option maxRecDepth 100000 in
set_option maxHeartbeats 4000000 in
theorem kept_calls {w : World} {B d : Nat} {v : Value} {t : Tsk} (h : IsKa w B d v t) : Calls Tryz.prog 19 #[v] w fun e w' => e = .returned (.bool true) ∧ Below w.heap.size w w' := by
  obtain ⟨vi, vo, rfl, h1, V, h2, hk⟩ := h
  obtain ⟨g, c, rfl, hc1, hc2, _, hgl, hcs, _⟩ := h1.head
  obtain ⟨g', c', rfl, hd1, hd2, _, hgl', hos, _⟩ := h2.head
  obtain ⟨nm, bd, ins, outs⟩ := t
  have hcs : ∀ j, j < (ins.length + 2) * 1 → w.cell? ⟨g, j, none⟩ = (sV (ins ++ mkSt))[j]? := hcs
  have hos : ∀ j, j < (outs.length + 2) * 6 → w.cell? ⟨g', j, none⟩ = (ousC (outs ++ mkO) V)[j]? := hos
  have hc1 : ins.length + 2 ≤ c := hc1
  have hd1 : outs.length + 2 ≤ c' := hd1
  have HK := hide hk
  have HC : Hid (∀ W, Below w.heap.size w W → W.cell? ⟨g, ins.length, none⟩ = some (.string ⟨#[47, 47, 49]⟩) ∧ W.cell? ⟨g, ins.length + 1, none⟩ = some (.string ⟨#[47, 47, 50]⟩) ∧ W.cell? ⟨g', outs.length * 6, none⟩ = some (.string ⟨#[47, 47, 51]⟩) ∧ W.cell? ⟨g', outs.length * 6 + 6, none⟩ = some (.string ⟨#[47, 47, 52]⟩) ∧ W.cell? ⟨g', outs.length * 6 + 1, none⟩ = some (.int .i64 0)) := hide (fun W hb => by
    have q : ∀ b o v, b < w.heap.size → w.cell? ⟨b, o, none⟩ = some v → W.cell? ⟨b, o, none⟩ = some v := fun b o v hl q => (hb.cell (p := ⟨b, o, none⟩) hl).trans q
    have e1 : ∀ k, k < 2 → (sV (ins ++ mkSt))[ins.length + k]? = (sV mkSt)[k]? := fun k _ => by rw [sV_app, List.getElem?_append_right (by rw [sV_len]; omega), sV_len, Nat.add_sub_cancel_left]
    have e2 : ∀ i k, i < 2 → k < 6 → w.cell? ⟨g', (outs.length + i) * 6 + k, none⟩ = (ouC (mkO.getD i ou0).1 (mkO.getD i ou0).2 (V (outs.length + i)))[k]? := fun i k hi hk => by
      rw [hos _ (by omega), ousC_at (by simp [mkO]; omega) hk, List.getD_eq_getElem?_getD, List.getElem?_append_right (by omega), Nat.add_sub_cancel_left, ← List.getD_eq_getElem?_getD]
    refine ⟨q _ _ _ hgl ((hcs _ (by omega)).trans (e1 0 (by decide))), q _ _ _ hgl ((hcs _ (by omega)).trans (e1 1 (by decide))), q _ _ _ hgl' (e2 0 0 (by decide) (by decide)), q _ _ _ hgl' ?_, q _ _ _ hgl' (e2 0 1 (by decide) (by decide))⟩
    have := e2 1 0 (by decide) (by decide)
    rw [show (outs.length + 1) * 6 + 0 = outs.length * 6 + 6 by omega] at this
    exact this)
  have HR : Hid (∀ j, j < outs.length → w.rangeAt g' (j * 6 + 1) (tmC (outs.getD j ou0).2 (V j))) := hide (fun j hj q y hy => by
    have hq : q < 5 := (List.getElem?_eq_some_iff.1 hy).1
    rw [show j * 6 + 1 + q = j * 6 + (q + 1) by omega, hos _ (by omega), ousC_at (by simp; omega) (by omega), ou_at hj]
    exact hy)
  have hmi : (ins.length : Int) ≤ 9223372036854775807 := by omega
  have hmo : (outs.length : Int) ≤ 9223372036854775807 := by omega
  have hwi : IntKind.i64.wrap ((ins.length : Int) + 2) = (ins.length : Int) + 2 := by rw [IntKind.wrap_i64]; omega
  have hwo : IntKind.i64.wrap ((outs.length : Int) + 2) = (outs.length : Int) + 2 := by rw [IntKind.wrap_i64]; omega
  have hsi : ∀ W2, (Instr.sliceAt 22 (.slice (some ⟨g, 0, none⟩) ins.length c) none (some (.int .i64 ((ins.length : Int) + 2))) none).run Tryz.prog W2 = .ok (.slice (some ⟨g, 0, none⟩) (ins.length + 2) c) W2 := fun W2 => by rw [show (ins.length : Int) + 2 = ((ins.length + 2 : Nat) : Int) by omega]; exact slice_hSt g 0 ins.length c (ins.length + 2) hc1 W2 (by omega)
  have hsj : ∀ W2, (Instr.sliceAt 22 (.slice (some ⟨g, 0, none⟩) (ins.length + 2) c) (some (.int .i64 (ins.length : Int))) none none).run Tryz.prog W2 = .ok (.slice (some ⟨g, ins.length, none⟩) 2 (c - ins.length)) W2 := fun W2 => by have := slice_lSt2 g (ins.length + 2) c ins.length (by omega) (by omega) W2; rw [show ins.length + 2 - ins.length = 2 by omega] at this; exact this
  have hso : ∀ W2, (Instr.sliceAt 23 (.slice (some ⟨g', 0, none⟩) outs.length c') none (some (.int .i64 ((outs.length : Int) + 2))) none).run Tryz.prog W2 = .ok (.slice (some ⟨g', 0, none⟩) (outs.length + 2) c') W2 := fun W2 => by rw [show (outs.length : Int) + 2 = ((outs.length + 2 : Nat) : Int) by omega]; exact slice_hO g' 0 outs.length c' (outs.length + 2) hd1 W2 (by omega)
  have hsp : ∀ W2, (Instr.sliceAt 23 (.slice (some ⟨g', 0, none⟩) (outs.length + 2) c') (some (.int .i64 (outs.length : Int))) none none).run Tryz.prog W2 = .ok (.slice (some ⟨g', outs.length * 6, none⟩) 2 (c' - outs.length)) W2 := fun W2 => by have := slice_lO2 g' (outs.length + 2) c' outs.length (by omega) (by omega) W2; rw [show outs.length + 2 - outs.length = 2 by omega] at this; exact this
  clear h1 h2 hk hcs hos hc1 hc2 hd1 hd2 hgl hgl'
  show Calls Tryz.prog 19 #[.agg (tsC nm bd (.slice (some ⟨g, 0, none⟩) ins.length c) (.slice (some ⟨g', 0, none⟩) outs.length c')).toArray] w _
  go_enter Tryz.func19, Tryz.ntmps19
  go_wp2_with (first
    | (refine wpList_boxJ rfl 25 _ rfl rfl ?_; intro w2 hA2 hb2 hs2; have HA2 := hide hA2; have HB2 := hide hb2; have HS2 : Hid (∀ W2, Below w2.heap.size w2 W2 → W2.cell? ⟨w.heap.size, 2, none⟩ = some (.slice (some ⟨g, 0, none⟩) ins.length c)) := hide (fun W2 h => (tsC_arr (HA2.out.below h)).2.2.1); have HS3 : Hid (∀ W2, Below w2.heap.size w2 W2 → W2.cell? ⟨w.heap.size, 3, none⟩ = some (.slice (some ⟨g', 0, none⟩) outs.length c')) := hide (fun W2 h => (tsC_arr (HA2.out.below h)).2.2.2); clear hA2 hb2 hs2)
    | fail)
  refine wp_region_held_drew (S := fun W2 => W2.cell? ⟨w.heap.size, 2, none⟩ = some (.slice (some ⟨g, 0, none⟩) ins.length c)) (by kernel_rfl) (unhide HS2 _ (Below.refl _ _).drew) (fun hHeld => ?_)
  refine wpAnyH_take (i := 0) (v := .pointer (some ⟨w.heap.size, 2, none⟩)) rfl (by kernel_rfl) (by kernel_rfl) (by kernel_rfl) (fun _ _ _ h => h) (Or.inl ⟨by rfl, fun w hSw => by have g1 := hSw; go_simp⟩) (by assumption) ?_
  simp only [List.getElem_toArray, List.getElem_cons_zero, Act.put, List.setIfInBounds_toArray, List.set_cons_zero, List.set_cons_succ]
  refine wpAnyH_take (i := 1) (v := .slice (some ⟨g, 0, none⟩) ins.length c) rfl (by kernel_rfl) (by kernel_rfl) (by kernel_rfl) (fun _ _ _ h => h) (Or.inl ⟨by rfl, fun w hSw => by have g1 := hSw; go_simp⟩) (by assumption) ?_
  simp only [List.getElem_toArray, List.getElem_cons_succ, List.getElem_cons_zero, Act.put, List.setIfInBounds_toArray, List.set_cons_zero, List.set_cons_succ]
  refine wpAnyH_take (i := 2) (v := .pointer (some ⟨w.heap.size, 2, none⟩)) rfl (by kernel_rfl) (by kernel_rfl) (by kernel_rfl) (fun _ _ _ h => h) (Or.inl ⟨by rfl, fun w hSw => by have g1 := hSw; go_simp⟩) (by assumption) ?_
  simp only [List.getElem_toArray, List.getElem_cons_succ, List.getElem_cons_zero, Act.put, List.setIfInBounds_toArray, List.set_cons_zero, List.set_cons_succ]
  refine wpAnyH_take (i := 3) (v := .slice (some ⟨g, 0, none⟩) ins.length c) rfl (by kernel_rfl) (by kernel_rfl) (by kernel_rfl) (fun _ _ _ h => h) (Or.inl ⟨by rfl, fun w hSw => by have g1 := hSw; go_simp⟩) (by assumption) ?_
  simp only [List.getElem_toArray, List.getElem_cons_succ, List.getElem_cons_zero, Act.put, List.setIfInBounds_toArray, List.set_cons_zero, List.set_cons_succ]
  refine wpAnyH_take (i := 4) (v := .int .i64 (ins.length : Int)) rfl (by kernel_rfl) (by kernel_rfl) (by kernel_rfl) (fun _ _ _ h => h) (Or.inl ⟨by rfl, fun w hSw => by have g1 := hSw; go_simp⟩) (by assumption) ?_
  simp only [List.getElem_toArray, List.getElem_cons_succ, List.getElem_cons_zero, Act.put, List.setIfInBounds_toArray, List.set_cons_zero, List.set_cons_succ]
  refine wpAnyH_take (i := 5) (v := .int .i64 ((ins.length : Int) + 2)) rfl (by kernel_rfl) (by kernel_rfl) (by kernel_rfl) (fun _ _ _ h => h) (Or.inl ⟨by rfl, fun w hSw => by have g1 := hSw; go_simp⟩) (by assumption) ?_
  simp only [List.getElem_toArray, List.getElem_cons_succ, List.getElem_cons_zero, Act.put, List.setIfInBounds_toArray, List.set_cons_zero, List.set_cons_succ]
  refine wpAnyH_take (i := 6) (v := .slice (some ⟨g, 0, none⟩) (ins.length + 2) c) rfl (by kernel_rfl) (by kernel_rfl) (by kernel_rfl) (fun _ _ _ h => h) (Or.inl ⟨by rfl, fun w hSw => by have g1 := hSw; go_simp⟩) (by assumption) ?_
  simp only [List.getElem_toArray, List.getElem_cons_succ, List.getElem_cons_zero, Act.put, List.setIfInBounds_toArray, List.set_cons_zero, List.set_cons_succ]
  refine wpAnyH_take (i := 7) (v := .pointer (some ⟨w.heap.size, 2, none⟩)) rfl (by kernel_rfl) (by kernel_rfl) (by kernel_rfl) (fun _ _ _ h => h) (Or.inl ⟨by rfl, fun w hSw => by have g1 := hSw; go_simp⟩) (by assumption) ?_
  simp only [List.getElem_toArray, List.getElem_cons_succ, List.getElem_cons_zero, Act.put, List.setIfInBounds_toArray, List.set_cons_zero, List.set_cons_succ]
  refine wpAnyH_take (i := 8) (v := .slice (some ⟨g, 0, none⟩) ins.length c) rfl (by kernel_rfl) (by kernel_rfl) (by kernel_rfl) (fun _ _ _ h => h) (Or.inl ⟨by rfl, fun w hSw => by have g1 := hSw; go_simp⟩) (by assumption) ?_
  simp only [List.getElem_toArray, List.getElem_cons_succ, List.getElem_cons_zero, Act.put, List.setIfInBounds_toArray, List.set_cons_zero, List.set_cons_succ]
  refine wpAnyH_take (i := 9) (v := .int .i64 (ins.length : Int)) rfl (by kernel_rfl) (by kernel_rfl) (by kernel_rfl) (fun _ _ _ h => h) (Or.inl ⟨by rfl, fun w hSw => by have g1 := hSw; go_simp⟩) (by assumption) ?_
  simp only [List.getElem_toArray, List.getElem_cons_succ, List.getElem_cons_zero, Act.put, List.setIfInBounds_toArray, List.set_cons_zero, List.set_cons_succ]
  refine wpAnyH_take (i := 10) (v := .slice (some ⟨g, ins.length, none⟩) 2 (c - ins.length)) rfl (by kernel_rfl) (by kernel_rfl) (by kernel_rfl) (fun _ _ _ h => h) (Or.inl ⟨by rfl, fun w hSw => by have g1 := hSw; go_simp⟩) (by assumption) ?_
  simp only [List.getElem_toArray, List.getElem_cons_succ, List.getElem_cons_zero, Act.put, List.setIfInBounds_toArray, List.set_cons_zero, List.set_cons_succ]
  refine wpAnyH_take (i := 11) (v := .slice (some ⟨g, ins.length, none⟩) 2 (c - ins.length)) rfl (by kernel_rfl) (by kernel_rfl) (by kernel_rfl) (fun _ _ _ h => h) (Or.inl ⟨by rfl, fun w hSw => by have g1 := hSw; go_simp⟩) (by assumption) ?_
  simp only [List.getElem_toArray, List.getElem_cons_succ, List.getElem_cons_zero, Act.put, List.setIfInBounds_toArray, List.set_cons_zero, List.set_cons_succ]
  refine wpAnyH_done (by kernel_rfl) ?_ _
  clear hHeld
  have HS3' : Hid (∀ W2, Below w2.drew.heap.size w2.drew W2 → W2.cell? ⟨w.heap.size, 3, none⟩ = some (.slice (some ⟨g', 0, none⟩) outs.length c')) := hide (fun W2 h => HS3.out W2 (below_then (Below.refl _ _).drew h))
  clear HS3
  have HS3 := HS3'
  clear HS3'
  go_wp2_with fail
  refine wp_region_held_drew (S := fun W2 => W2.cell? ⟨w.heap.size, 3, none⟩ = some (.slice (some ⟨g', 0, none⟩) outs.length c')) (by kernel_rfl) (unhide HS3 _ (Below.refl _ _).drew) (fun hHeld => ?_)
  refine wpAnyH_take (i := 0) (v := .pointer (some ⟨w.heap.size, 3, none⟩)) rfl (by kernel_rfl) (by kernel_rfl) (by kernel_rfl) (fun _ _ _ h => h) (Or.inl ⟨by rfl, fun w hSw => by have g1 := hSw; go_simp⟩) (by assumption) ?_
  simp only [List.getElem_toArray, List.getElem_cons_zero, Act.put, List.setIfInBounds_toArray, List.set_cons_zero, List.set_cons_succ]
  refine wpAnyH_take (i := 1) (v := .slice (some ⟨g', 0, none⟩) outs.length c') rfl (by kernel_rfl) (by kernel_rfl) (by kernel_rfl) (fun _ _ _ h => h) (Or.inl ⟨by rfl, fun w hSw => by have g1 := hSw; go_simp⟩) (by assumption) ?_
  simp only [List.getElem_toArray, List.getElem_cons_succ, List.getElem_cons_zero, Act.put, List.setIfInBounds_toArray, List.set_cons_zero, List.set_cons_succ]
  refine wpAnyH_take (i := 2) (v := .pointer (some ⟨w.heap.size, 3, none⟩)) rfl (by kernel_rfl) (by kernel_rfl) (by kernel_rfl) (fun _ _ _ h => h) (Or.inl ⟨by rfl, fun w hSw => by have g1 := hSw; go_simp⟩) (by assumption) ?_
  simp only [List.getElem_toArray, List.getElem_cons_succ, List.getElem_cons_zero, Act.put, List.setIfInBounds_toArray, List.set_cons_zero, List.set_cons_succ]
  refine wpAnyH_take (i := 3) (v := .slice (some ⟨g', 0, none⟩) outs.length c') rfl (by kernel_rfl) (by kernel_rfl) (by kernel_rfl) (fun _ _ _ h => h) (Or.inl ⟨by rfl, fun w hSw => by have g1 := hSw; go_simp⟩) (by assumption) ?_
  simp only [List.getElem_toArray, List.getElem_cons_succ, List.getElem_cons_zero, Act.put, List.setIfInBounds_toArray, List.set_cons_zero, List.set_cons_succ]
  refine wpAnyH_take (i := 4) (v := .int .i64 (outs.length : Int)) rfl (by kernel_rfl) (by kernel_rfl) (by kernel_rfl) (fun _ _ _ h => h) (Or.inl ⟨by rfl, fun w hSw => by have g1 := hSw; go_simp⟩) (by assumption) ?_
  simp only [List.getElem_toArray, List.getElem_cons_succ, List.getElem_cons_zero, Act.put, List.setIfInBounds_toArray, List.set_cons_zero, List.set_cons_succ]
  refine wpAnyH_take (i := 5) (v := .int .i64 ((outs.length : Int) + 2)) rfl (by kernel_rfl) (by kernel_rfl) (by kernel_rfl) (fun _ _ _ h => h) (Or.inl ⟨by rfl, fun w hSw => by have g1 := hSw; go_simp⟩) (by assumption) ?_
  simp only [List.getElem_toArray, List.getElem_cons_succ, List.getElem_cons_zero, Act.put, List.setIfInBounds_toArray, List.set_cons_zero, List.set_cons_succ]
  refine wpAnyH_take (i := 6) (v := .slice (some ⟨g', 0, none⟩) (outs.length + 2) c') rfl (by kernel_rfl) (by kernel_rfl) (by kernel_rfl) (fun _ _ _ h => h) (Or.inl ⟨by rfl, fun w hSw => by have g1 := hSw; go_simp⟩) (by assumption) ?_
  simp only [List.getElem_toArray, List.getElem_cons_succ, List.getElem_cons_zero, Act.put, List.setIfInBounds_toArray, List.set_cons_zero, List.set_cons_succ]
  refine wpAnyH_take (i := 7) (v := .pointer (some ⟨w.heap.size, 3, none⟩)) rfl (by kernel_rfl) (by kernel_rfl) (by kernel_rfl) (fun _ _ _ h => h) (Or.inl ⟨by rfl, fun w hSw => by have g1 := hSw; go_simp⟩) (by assumption) ?_
  simp only [List.getElem_toArray, List.getElem_cons_succ, List.getElem_cons_zero, Act.put, List.setIfInBounds_toArray, List.set_cons_zero, List.set_cons_succ]
  refine wpAnyH_take (i := 8) (v := .slice (some ⟨g', 0, none⟩) outs.length c') rfl (by kernel_rfl) (by kernel_rfl) (by kernel_rfl) (fun _ _ _ h => h) (Or.inl ⟨by rfl, fun w hSw => by have g1 := hSw; go_simp⟩) (by assumption) ?_
  simp only [List.getElem_toArray, List.getElem_cons_succ, List.getElem_cons_zero, Act.put, List.setIfInBounds_toArray, List.set_cons_zero, List.set_cons_succ]
  refine wpAnyH_take (i := 9) (v := .int .i64 (outs.length : Int)) rfl (by kernel_rfl) (by kernel_rfl) (by kernel_rfl) (fun _ _ _ h => h) (Or.inl ⟨by rfl, fun w hSw => by have g1 := hSw; go_simp⟩) (by assumption) ?_
  simp only [List.getElem_toArray, List.getElem_cons_succ, List.getElem_cons_zero, Act.put, List.setIfInBounds_toArray, List.set_cons_zero, List.set_cons_succ]
  refine wpAnyH_take (i := 10) (v := .slice (some ⟨g', outs.length * 6, none⟩) 2 (c' - outs.length)) rfl (by kernel_rfl) (by kernel_rfl) (by kernel_rfl) (fun _ _ _ h => h) (Or.inl ⟨by rfl, fun w hSw => by have g1 := hSw; go_simp⟩) (by assumption) ?_
  simp only [List.getElem_toArray, List.getElem_cons_succ, List.getElem_cons_zero, Act.put, List.setIfInBounds_toArray, List.set_cons_zero, List.set_cons_succ]
  refine wpAnyH_take (i := 11) (v := .slice (some ⟨g', outs.length * 6, none⟩) 2 (c' - outs.length)) rfl (by kernel_rfl) (by kernel_rfl) (by kernel_rfl) (fun _ _ _ h => h) (Or.inl ⟨by rfl, fun w hSw => by have g1 := hSw; go_simp⟩) (by assumption) ?_
  simp only [List.getElem_toArray, List.getElem_cons_succ, List.getElem_cons_zero, Act.put, List.setIfInBounds_toArray, List.set_cons_zero, List.set_cons_succ]
  refine wpAnyH_done (by kernel_rfl) ?_ _
  clear hHeld HS2 HS3
  have HB23 := hide ((Below.refl w2.heap.size w2).drew.drew)
  have HA3 := hide (HA2.out.below HB23.out)
  have HB3 := hide (below_then HB2.out HB23.out)
  obtain ⟨w3, hw3⟩ : ∃ x, x = w2.drew.drew := ⟨_, rfl⟩
  rw [← hw3] at HA3 HB3 HB23 ⊢
  obtain ⟨m0, m1, m2, m3, m4⟩ := HC.out w3 HB3.out
  clear hw3 hsi hsj hso hsp HA2 HB2 HB23 HC
  go_wp2_with fail
  clear m0 m1 m2 m3 m4
  go_loopw [5] (fun iv wr => ∃ j : Nat, iv = .int .i64 (j : Int) ∧ j ≤ outs.length ∧ Hid (Below w3.heap.size w3 wr)) (fun iv _ => outs.length - (intOf iv).toNat)
  case atStart => exact ⟨0, rfl, Nat.zero_le _, Below.refl _ _⟩
  case round =>
    obtain ⟨j, rfl, hjq, HJ⟩ := hrel
    have c3 := (tsC_arr (HA3.out.below HJ.out)).2.2.2
    by_cases hlt : j < outs.length
    · have hlti : (j : Int) < (outs.length : Int) := by omega
      have HB4 := hide (below_then HB3.out HJ.out)
      have hrr := rangeAt_below (HR.out j hlt) HB4.out
      have HIC := hide (fun W2 (h : Below w.heap.size w W2) => kterm_calls d W2 _ (outs.getD j ou0).2 (V j) ((HK.out j hlt).below h))
      obtain ⟨T2, hT2⟩ : ∃ t2, t2 = (outs.getD j ou0).2 := ⟨_, rfl⟩
      rw [← hT2] at hrr HIC
      obtain ⟨u2, hu2⟩ : ∃ t2, t2 = V j := ⟨_, rfl⟩
      rw [← hu2] at hrr HIC
      have hwj : IntKind.i64.wrap ((j : Int) + 1) = ((j + 1 : Nat) : Int) := by rw [IntKind.wrap_i64]; omega
      clear hT2 hu2 HK HR
      go_wp2_with (first
        | (refine wpList_loadJ rfl 52 (.tmp 71) rfl g' (j * 6 + 1) rfl (tmC T2 u2) _ hrr Tryz.underlying52 rfl (infoTms _ _) ?_)
        | fail)
      refine (HIC.out _ HB4.out).mono ?_
      rintro e w7 ⟨rfl, hb7⟩
      have HB7 := hide (below_then HJ.out hb7)
      clear hb7 hrr HIC c3
      go_wp2
      go_roundw
      case rel => exact ⟨j + 1, by go_num, by omega, HB7.out⟩
      case measure => simp [intOf]; omega
    · have hlti : ¬ (j : Int) < (outs.length : Int) := by omega
      go_wp2
      go_ret
      exact ⟨rfl, below_then HB3.out HJ.out⟩
end Go.Proofs.YtfhfobikbfbajaaGreatDoor

namespace Go.Proofs.YtfhfobikbfbajaaGreatDoor
open Go.RowKit

theorem all_range_int : ∀ (xs ys : List Int), xs.length = ys.length → ((List.range xs.length).all fun i => decide (xs.getD i 0 = ys.getD i 0)) = decide (xs = ys)
  | [], [], _ => rfl
  | x :: xs, y :: ys, h => by
    have ih := all_range_int xs ys (by simpa using h)
    rw [List.length_cons, List.range_succ_eq_map, List.all_cons, List.all_map]
    simp only [List.getD_cons_zero, Function.comp_def, List.getD_cons_succ, ih]
    rw [Bool.eq_iff_iff]
    simp
  | [], _ :: _, h => by simp at h
  | _ :: _, [], h => by simp at h
section
variable {P : Program} (w : World)
theorem run_equalIn_ints (d : Nat) (k : IntKind) (t e : TypeId) (n : Nat) (ht : P.underlying t = some (.array n e)) (he : P.underlying e = some (.int k)) (hsz : ∀ w, (sizeOf e).run P w = .ok 1 w) (xs ys : List Int) (hx : xs.length = n) (hy : ys.length = n) :
    (Op.equalIn (d + 2) t (.agg (xs.map (Value.int k)).toArray) (.agg (ys.map (Value.int k)).toArray)).run P w = .ok (decide (xs = ys)) w := by
  rw [← all_range_int xs ys (hx.trans hy.symm), hx, List.range_eq_range', Op.equalIn]
  simp only [Sem.run_bind, run_underlying ht, Result.andThen_ok, hsz, Std.Legacy.Range.forIn_eq_forIn_range', Std.Legacy.Range.size, Nat.sub_zero, Nat.add_sub_cancel, Nat.div_one]
  have hl : ∀ i ∈ List.range' 0 n 1, i < n := fun i hi => by simpa using (List.mem_range'_1.1 hi).2
  generalize List.range' 0 n 1 = l at hl ⊢
  induction l with
  | nil => simp
  | cons i l ih =>
    have hi : i < n := hl i (by simp)
    have px : (part e (xs.map (Value.int k)).toArray (i * 1)).run P w = .ok (.int k (xs.getD i 0)) w := by
      simp [part, isAgg, run_underlying he, List.getD, List.getElem?_eq_getElem (show i < xs.length by omega)]
    have py : (part e (ys.map (Value.int k)).toArray (i * 1)).run P w = .ok (.int k (ys.getD i 0)) w := by
      simp [part, isAgg, run_underlying he, List.getD, List.getElem?_eq_getElem (show i < ys.length by omega)]
    have pe : (Op.equalIn (d + 1) e (.int k (xs.getD i 0)) (.int k (ys.getD i 0))).run P w = .ok (decide (xs.getD i 0 = ys.getD i 0)) w := by
      rw [run_equalIn_int w d e k k _ _ he]
      congr 1
    simp only [List.forIn_cons, Sem.run_bind, px, py, pe, Result.andThen_ok, List.all_cons]
    cases hb : decide (xs.getD i 0 = ys.getD i 0)
    · simp
    · simp only [Bool.not_true, Bool.false_eq_true, if_false, Sem.run_pure, Result.andThen_ok, Bool.true_and]
      exact ih fun j hj => hl j (by simp [hj])
end
theorem size8 (w : World) : (sizeOf 5).run Tryz.prog w = .ok 1 w := by kernel_rfl
theorem key_eql (xs ys : List Int) (hx : xs.length = 32) (hy : ys.length = 32) (w : World) : (binOp .eql 32 (.agg (xs.map (Value.int .u8)).toArray) (.agg (ys.map (Value.int .u8)).toArray)).run Tryz.prog w = .ok (.bool (decide (xs = ys))) w := by
  rw [run_eql_struct, run_equalIn_ints w 9998 .u8 32 5 32 Tryz.underlying32 Tryz.underlying5 size8 xs ys hx hy]
  rfl
theorem key_neq (xs ys : List Int) (hx : xs.length = 32) (hy : ys.length = 32) (w : World) : (binOp .neq 32 (.agg (xs.map (Value.int .u8)).toArray) (.agg (ys.map (Value.int .u8)).toArray)).run Tryz.prog w = .ok (.bool (!decide (xs = ys))) w := by
  rw [run_neq_struct, run_equalIn_ints w 9998 .u8 32 5 32 Tryz.underlying32 Tryz.underlying5 size8 xs ys hx hy]
  rfl
theorem key_guard (op : BinOp) (x y : Operand) (xs ys : Array Value) (w : World) : (eqGuard op 32 x y (.agg xs) (.agg ys)).run Tryz.prog w = .ok () w := run_eqGuard_agg w op 32 x y xs ys (by kernel_rfl)
end Go.Proofs.YtfhfobikbfbajaaGreatDoor

namespace Go.Proofs.YtfhfobikbfbajaaGreatDoor
open Go.RowKit Go.Maps

theorem kysC_at : ∀ {ks : List (List UInt8)} {j k : Nat}, (∀ x ∈ ks, x.length = 32) → j < ks.length → k < 32 → (kysC ks)[j * 32 + k]? = (kyC (ks.getD j []))[k]?
  | [], j, _, _, hj, _ => by simp at hj
  | x :: ks, j, k, h, hj, hk => by
    have hx := kyC_len (h x (by simp))
    show ((x :: ks).flatMap kyC)[j * 32 + k]? = _
    rw [List.flatMap_cons]
    cases j with
    | zero => rw [List.getElem?_append_left (by omega)]; simp
    | succ j =>
      rw [List.getElem?_append_right (by omega), hx, show (j + 1) * 32 + k - 32 = j * 32 + k by omega]
      have := kysC_at (ks := ks) (j := j) (k := k) (fun y hy => h y (List.mem_cons_of_mem _ hy)) (by simpa using hj) hk
      simpa [kysC] using this
theorem slice_lK (g n c q : Nat) (hq : q ≤ n) (hc : q < c) (W : World) (_ : n ≤ 9223372036854775807) : (Instr.sliceAt 26 (.slice (some ⟨g, 0, none⟩) n c) (some (.int .i64 (q : Int))) none none).run Tryz.prog W = .ok (.slice (some ⟨g, q * 32, none⟩) (n - q) (c - q)) W := by
  rw [run_sliceAt_slice W _ _ _ _ _ elemKs, run_slice_l W _ _ n c elemKs .i64 q (by omega) (by omega), sizeKs]
  have h : ¬ c = q := by omega
  simp [Result.andThen, sliced, h, Addr.add]
  intro h2
  exact h2.symm
theorem kAB_neq (k : List UInt8) (hk : k.length = 32) (W : World) : (binOp .neq 32 (.agg (kyC k).toArray) (.agg (kyC k).toArray)).run Tryz.prog W = .ok (.bool false) W := by
  have hl : (iL k).length = 32 := by rw [iL_len, hk]
  show (binOp .neq 32 (.agg ((iL k).map (Value.int .u8)).toArray) (.agg ((iL k).map (Value.int .u8)).toArray)).run Tryz.prog W = _
  rw [key_neq _ _ hl hl, decide_eq_true rfl]
  rfl
set_option maxRecDepth 100000 in
set_option maxHeartbeats 4000000 in
theorem intact_calls {w : World} {B g c : Nat} {v : Value} {ks : List (List UInt8)} (hw : w.ownsRow B 32 32 (.slice (some ⟨g, 0, none⟩) (ks.length + 2) c) (ks.length + 2) (kysC ks ++ kysC [kmA, kmB])) (hK : IsKs w v ks) (hn : ks.length ≤ 1000) :
    Calls Tryz.prog 20 #[.slice (some ⟨g, 0, none⟩) ks.length c, v] w fun e w' => e = .returned (.bool true) ∧ Below w.heap.size w w' := by
  obtain ⟨a, c2, rfl, hlc, hmc, hz, hcc, h32⟩ := hK
  obtain ⟨g', c', e, h2, h3, _, hcell⟩ := owns_shape hw (by omega)
  cases e
  have hgl : g < w.heap.size := (World.ownsRow.lt hw g rfl).2
  have hl := kysC_len h32
  have HR : Hid (∀ j, j < ks.length → w.rangeAt g (j * 32) (kyC (ks.getD j []))) := hide (fun j hj q y hy => by
    have hq : q < 32 := by have := (List.getElem?_eq_some_iff.1 hy).1; rw [kyC_len (h32 _ (by rw [List.getD_eq_getElem?_getD, List.getElem?_eq_getElem hj]; exact List.getElem_mem hj))] at this; exact this
    rw [hcell _ (by omega), List.getElem?_append_left (by omega), kysC_at h32 hj hq, hy])
  have hA : w.rangeAt g (ks.length * 32) (kyC kmA) := fun q y hy => by
    have hq : q < 32 := (List.getElem?_eq_some_iff.1 hy).1
    rw [hcell _ (by omega), List.getElem?_append_right (by omega), hl, show ks.length * 32 + q - ks.length * 32 = 0 * 32 + q by omega, kysC_at kmAB_len (by decide) hq]
    exact hy
  have hB : w.rangeAt g (ks.length * 32 + 32) (kyC kmB) := fun q y hy => by
    have hq : q < 32 := (List.getElem?_eq_some_iff.1 hy).1
    rw [hcell _ (by omega), List.getElem?_append_right (by omega), hl, show ks.length * 32 + 32 + q - ks.length * 32 = 1 * 32 + q by omega, kysC_at kmAB_len (by decide) hq]
    exact hy
  have HCC := hide hcc
  have H32 := hide h32
  have hmq : (ks.length : Int) ≤ 9223372036854775807 := by omega
  have hwa : IntKind.i64.wrap ((ks.length : Int) + 2) = ((ks.length + 2 : Nat) : Int) := by rw [IntKind.wrap_i64]; omega
  have hsl : ∀ W2, (Instr.sliceAt 26 (.slice (some ⟨g, 0, none⟩) ks.length c) none (some (.int .i64 ((ks.length : Int) + 2))) none).run Tryz.prog W2 = .ok (.slice (some ⟨g, 0, none⟩) (ks.length + 2) c) W2 := fun W2 => by rw [show (ks.length : Int) + 2 = ((ks.length + 2 : Nat) : Int) by omega]; exact slice_hK g 0 ks.length c (ks.length + 2) h2 W2 (by omega)
  have hsm : ∀ W2, (Instr.sliceAt 26 (.slice (some ⟨g, 0, none⟩) (ks.length + 2) c) (some (.int .i64 (ks.length : Int))) none none).run Tryz.prog W2 = .ok (.slice (some ⟨g, ks.length * 32, none⟩) 2 (c - ks.length)) W2 := fun W2 => by have := slice_lK g (ks.length + 2) c ks.length (by omega) (by omega) W2 (by omega); rw [show ks.length + 2 - ks.length = 2 by omega] at this; exact this
  have hka : ∀ W, (binOp .neq 32 (.agg (kyC kmA).toArray) (.agg #[.int .u8 201, .int .u8 1, .int .u8 0, .int .u8 0, .int .u8 0, .int .u8 0, .int .u8 0, .int .u8 0, .int .u8 0, .int .u8 0, .int .u8 0, .int .u8 0, .int .u8 0, .int .u8 0, .int .u8 0, .int .u8 0, .int .u8 0, .int .u8 0, .int .u8 0, .int .u8 0, .int .u8 0, .int .u8 0, .int .u8 0, .int .u8 0, .int .u8 0, .int .u8 0, .int .u8 0, .int .u8 0, .int .u8 0, .int .u8 0, .int .u8 0, .int .u8 0])).run Tryz.prog W = .ok (.bool false) W := fun W => kAB_neq kmA rfl W
  have hkb : ∀ W, (binOp .neq 32 (.agg (kyC kmB).toArray) (.agg #[.int .u8 202, .int .u8 2, .int .u8 0, .int .u8 0, .int .u8 0, .int .u8 0, .int .u8 0, .int .u8 0, .int .u8 0, .int .u8 0, .int .u8 0, .int .u8 0, .int .u8 0, .int .u8 0, .int .u8 0, .int .u8 0, .int .u8 0, .int .u8 0, .int .u8 0, .int .u8 0, .int .u8 0, .int .u8 0, .int .u8 0, .int .u8 0, .int .u8 0, .int .u8 0, .int .u8 0, .int .u8 0, .int .u8 0, .int .u8 0, .int .u8 0, .int .u8 0])).run Tryz.prog W = .ok (.bool false) W := fun W => kAB_neq kmB rfl W
  have hkg := key_guard
  clear hcc h32 hw hn hlc hmc hz hcell hl h2 h3 hgl
  go_enter Tryz.func20, Tryz.ntmps20
  go_wp2_with (first
    | (refine wpList_loadJ rfl 32 (.tmp 22) rfl g (ks.length * 32) rfl (kyC kmA) _ hA Tryz.underlying32 rfl (infoKys rfl) ?_)
    | (refine wpList_loadJ rfl 32 (.tmp 29) rfl g (ks.length * 32 + 32) rfl (kyC kmB) _ hB Tryz.underlying32 rfl (infoKys rfl) ?_)
    | fail)
  go_loopw [6] (fun iv wr => ∃ j : Nat, iv = .int .i64 (j : Int) ∧ j ≤ ks.length ∧ Hid (Below w.heap.size w wr)) (fun iv _ => ks.length - (intOf iv).toNat)
  case atStart => exact ⟨0, rfl, Nat.zero_le _, Below.refl _ _⟩
  case round =>
    obtain ⟨j, rfl, hjq, HJ⟩ := hrel
    by_cases hlt : j < ks.length
    · have hlti : (j : Int) < (ks.length : Int) := by omega
      obtain ⟨b, o, rfl, hcl⟩ := HCC.out (by omega)
      have hK1 := hcl j hlt
      have hK2 := HR.out j hlt
      have hk32 := H32.out (ks.getD j []) (by rw [List.getD_eq_getElem?_getD, List.getElem?_eq_getElem hlt]; exact List.getElem_mem hlt)
      obtain ⟨K, hKe⟩ : ∃ K, K = ks.getD j [] := ⟨_, rfl⟩
      rw [← hKe] at hK1 hK2 hk32
      have HKL : Hid ((kyC K).length = 32) := hide (kyC_len hk32)
      have hke := kAB_neq K hk32
      have HSS : Hid (∀ W2, Below wr.heap.size wr W2 → (fun W2 => W2.rangeAt g (j * 32) (kyC K) ∧ W2.rangeAt b (o + j * 32) (kyC K)) W2) := hide (fun W2 h => ⟨rangeAt_below hK2 (below_then HJ.out h), rangeAt_below hK1 (below_then HJ.out h)⟩)
      have hwj : IntKind.i64.wrap ((j : Int) + 1) = ((j + 1 : Nat) : Int) := by rw [IntKind.wrap_i64]; omega
      have HB7 := hide (HJ.out.drew)
      clear hcl hK1 hK2 hKe hk32 hA hB hsl hsm hka hkb
      go_wp2_with fail
      refine wp_region_held_drew (S := fun W2 => W2.rangeAt g (j * 32) (kyC K) ∧ W2.rangeAt b (o + j * 32) (kyC K)) (by kernel_rfl) (unhide HSS _ (Below.refl _ _).drew) (fun hHeld => ?_)
      refine wpAnyH_take (i := 0) (v := .slice (some ⟨g, 0, none⟩) ks.length c) rfl (by kernel_rfl) (by kernel_rfl) (by kernel_rfl) (fun _ _ _ h => h) (Or.inl ⟨by rfl, fun w hSw => by obtain ⟨g1, g2⟩ := hSw; go_simp⟩) (by assumption) ?_
      simp only [List.getElem_toArray, List.getElem_cons_zero, Act.put, List.setIfInBounds_toArray, List.set_cons_zero, List.set_cons_succ]
      refine wpAnyH_take (i := 1) (v := .int .i64 (j : Int)) rfl (by kernel_rfl) (by kernel_rfl) (by kernel_rfl) (fun _ _ _ h => h) (Or.inl ⟨by rfl, fun w hSw => by obtain ⟨g1, g2⟩ := hSw; go_simp⟩) (by assumption) ?_
      simp only [List.getElem_toArray, List.getElem_cons_succ, List.getElem_cons_zero, Act.put, List.setIfInBounds_toArray, List.set_cons_zero, List.set_cons_succ]
      refine wpAnyH_take (i := 2) (v := .pointer (some ⟨g, j * 32, none⟩)) rfl (by kernel_rfl) (by kernel_rfl) (by kernel_rfl) (fun _ _ _ h => h) (Or.inl ⟨by rfl, fun w hSw => by obtain ⟨g1, g2⟩ := hSw; go_simp⟩) (by assumption) ?_
      simp only [List.getElem_toArray, List.getElem_cons_succ, List.getElem_cons_zero, Act.put, List.setIfInBounds_toArray, List.set_cons_zero, List.set_cons_succ]
      refine wpAnyH_take (i := 3) (v := .agg (kyC K).toArray) rfl (by kernel_rfl) (by kernel_rfl) (by kernel_rfl) (fun _ _ _ h => h) (yieldsIf_load_mid (by rfl) _ _ rfl _ _ rfl _ _ (fun w hSw => hSw.1) Tryz.underlying32 rfl (infoKys HKL.out)) (by assumption) ?_
      simp only [List.getElem_toArray, List.getElem_cons_succ, List.getElem_cons_zero, Act.put, List.setIfInBounds_toArray, List.set_cons_zero, List.set_cons_succ]
      refine wpAnyH_take (i := 4) (v := .slice (some ⟨b, o, none⟩) ks.length c2) rfl (by kernel_rfl) (by kernel_rfl) (by kernel_rfl) (fun _ _ _ h => h) (Or.inl ⟨by rfl, fun w hSw => by obtain ⟨g1, g2⟩ := hSw; go_simp⟩) (by assumption) ?_
      simp only [List.getElem_toArray, List.getElem_cons_succ, List.getElem_cons_zero, Act.put, List.setIfInBounds_toArray, List.set_cons_zero, List.set_cons_succ]
      refine wpAnyH_take (i := 5) (v := .int .i64 (j : Int)) rfl (by kernel_rfl) (by kernel_rfl) (by kernel_rfl) (fun _ _ _ h => h) (Or.inl ⟨by rfl, fun w hSw => by obtain ⟨g1, g2⟩ := hSw; go_simp⟩) (by assumption) ?_
      simp only [List.getElem_toArray, List.getElem_cons_succ, List.getElem_cons_zero, Act.put, List.setIfInBounds_toArray, List.set_cons_zero, List.set_cons_succ]
      refine wpAnyH_take (i := 6) (v := .pointer (some ⟨b, o + j * 32, none⟩)) rfl (by kernel_rfl) (by kernel_rfl) (by kernel_rfl) (fun _ _ _ h => h) (Or.inl ⟨by rfl, fun w hSw => by obtain ⟨g1, g2⟩ := hSw; go_simp⟩) (by assumption) ?_
      simp only [List.getElem_toArray, List.getElem_cons_succ, List.getElem_cons_zero, Act.put, List.setIfInBounds_toArray, List.set_cons_zero, List.set_cons_succ]
      refine wpAnyH_take (i := 7) (v := .agg (kyC K).toArray) rfl (by kernel_rfl) (by kernel_rfl) (by kernel_rfl) (fun _ _ _ h => h) (yieldsIf_load_mid (by rfl) _ _ rfl _ _ rfl _ _ (fun w hSw => hSw.2) Tryz.underlying32 rfl (infoKys HKL.out)) (by assumption) ?_
      simp only [List.getElem_toArray, List.getElem_cons_succ, List.getElem_cons_zero, Act.put, List.setIfInBounds_toArray, List.set_cons_zero, List.set_cons_succ]
      refine wpAnyH_take (i := 8) (v := .bool false) rfl (by kernel_rfl) (by kernel_rfl) (by kernel_rfl) (fun _ _ _ h => h) (Or.inl ⟨by rfl, fun w hSw => by obtain ⟨g1, g2⟩ := hSw; go_simp⟩) (by assumption) ?_
      simp only [List.getElem_toArray, List.getElem_cons_succ, List.getElem_cons_zero, Act.put, List.setIfInBounds_toArray, List.set_cons_zero, List.set_cons_succ]
      refine wpAnyH_done (by kernel_rfl) ?_ _
      clear hHeld HSS hke
      go_wp2
      go_roundw
      case rel => exact ⟨j + 1, by go_num, by omega, HB7.out⟩
      case measure => simp [intOf]; omega
    · have hlti : ¬ (j : Int) < (ks.length : Int) := by omega
      go_wp2
      go_ret
      exact ⟨rfl, HJ.out⟩
end Go.Proofs.YtfhfobikbfbajaaGreatDoor
