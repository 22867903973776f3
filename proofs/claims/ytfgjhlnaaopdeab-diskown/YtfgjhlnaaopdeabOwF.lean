/- DiskOwn: stands: all marks stand. -/
import Derived.Test.YtfgjhlnaaopdeabOwC
namespace Go.Proofs.Ytfgjhlnaaopdeab
open Go.RowKit Go.Maps

section
variable {ops : Array Oper} {rest : List Oper} {o : Oper} {a : Act} {Q : Exit → Act → World → Prop} {w : World} {K : Act → World → Prop} {E : Prop}
theorem build3_run (W : World) (x y z : Int) : (Instr.buildSlice 23 3 #[(0, .int .u8 x), (1, .int .u8 y), (2, .int .u8 z)]).run Try.prog W = .ok (.slice (some ⟨W.heap.size, 0, none⟩) 3 3) (W.alloc (.cells #[.int .u8 x, .int .u8 y, .int .u8 z] 5)) := by kernel_rfl
theorem step_build3 (hgd : o.guard = none) (s t u : Operand) (ho : o.op = .buildSlice 23 3 #[(0, s), (1, t), (2, u)]) {x y z : Int} (hx : a.eval s = .int .u8 x) (hy : a.eval t = .int .u8 y) (hz : a.eval u = .int .u8 z)
    (hk : K (a.put o.dst (.slice (some ⟨w.heap.size, 0, none⟩) 3 3)) (w.alloc (.cells #[.int .u8 x, .int .u8 y, .int .u8 z] 5))) : if Region.wanted o (yielded ops a.tmps) = true then Oper.wp Try.prog o a w K Q else E := by
  rw [if_pos (by simp [Region.wanted, hgd])]
  unfold Oper.wp execOp
  simp only [ho, List.map_toArray, List.map_cons, List.map_nil, hx, hy, hz, Sem.run_bind, build3_run w, Result.andThen_ok, Sem.run_pure]
  exact hk
end
theorem wrap8 (x : Int) : 0 ≤ IntKind.u8.wrap x ∧ IntKind.u8.wrap x ≤ 255 := by rw [IntKind.wrap_u8]; omega
theorem tri_conv {W : World} {g i j : Nat} {z : Int} (h : Arr W g 5 (tri i j z)) (hz : 0 ≤ z ∧ z ≤ 255) : (convert 23 9 (.slice (some ⟨g, 0, none⟩) 3 3)).run Try.prog W = .ok (.string (mkS [IntKind.u8.wrap (i : Int), IntKind.u8.wrap (j : Int), z])) W := by
  refine conv_isB ⟨bytes_mem (fun x hx => ?_), some ⟨g, 0, none⟩, 3, rfl, Nat.le_refl _, by decide, (fun h => by cases h), fun _ => ⟨g, 0, rfl, fun k hk => ?_⟩⟩
  · simp only [List.mem_cons, List.not_mem_nil, or_false] at hx
    rcases hx with rfl | rfl | rfl
    · exact wrap8 _
    · exact wrap8 _
    · exact hz
  · have h3 := h.cell (0 + k)
    rw [h3, Nat.zero_add]
    match k, hk with
    | 0, _ => rfl
    | 1, _ => rfl
    | 2, _ => rfl
section
variable {w wr : World} {sp N M m nB nI nC nJ B p q bB cB bC cC bI cI bJ cJ : Nat} {gB gI : Nat → Nat} {Rb Ri : Nat → List Value} {vB vI vC vJ : Value} {uB uI uC uJ : List Value} {A : Nat → Prop} {G : Nat → Nat} {D E : AD}
/-- What is read of one row of bytes. -/
theorem Fz.viewB (h : Fz w wr sp N M m gB gI Rb Ri (.slice (some ⟨bB, 0, none⟩) N cB) vI (.slice (some ⟨bC, 0, none⟩) N cC) vJ uB uI uC uJ N nI N nJ A B p q G D E) {k : Nat} (hk : k < N) :
    ∃ hk ck, wr.cell? ⟨sp, 0, none⟩ = some (.slice (some ⟨bB, 0, none⟩) N cB) ∧ wr.cell? ⟨sp, 2, none⟩ = some (.slice (some ⟨bC, 0, none⟩) N cC) ∧ wr.cell? ⟨bB, k, none⟩ = some (.slice (some ⟨gB k, 0, none⟩) 512 512) ∧ wr.cell? ⟨bC, k, none⟩ = some (.slice (some ⟨hk, 0, none⟩) 582 ck) ∧ (∀ j, j < 512 → wr.cell? ⟨gB k, j, none⟩ = some (.int .u8 (mkO k j)) ∧ wr.cell? ⟨hk, j, none⟩ = some (.int .u8 (mkO k j))) ∧ ∀ j, j < 70 → wr.cell? ⟨hk, 512 + j, none⟩ = some (.int .u8 (mkP k j)) := by
  obtain ⟨v, cs, h1, h2, h3, h4, h5⟩ := h.x.fC k hk
  obtain ⟨g, c, e, _⟩ := h2.head (by omega)
  subst e
  rw [h3] at h1 h2
  refine ⟨g, c, h.sh.sh.cell_of rfl, h.sh.sh.cell_of rfl, ?_, ?_, fun j hj => ⟨(h.sh.aB k hk).1.cell_of (h.x.fB k hk j hj), ?_⟩, fun j hj => ?_⟩
  · rw [h.sh.rB.cellAt (by rw [h.sh.lB]; exact hk)]; exact h.sh.eB k hk
  · rw [h.sh.rC.cellAt (by rw [h.x.lC]; exact hk)]; exact h1
  · rw [h2.cellAt (by omega)]; exact h4 j hj
  · rw [h2.cellAt (by omega)]; exact h5 j hj
/-- And of one image. -/
theorem Fz.viewI (h : Fz w wr sp N M m gB gI Rb Ri vB (.slice (some ⟨bI, 0, none⟩) M cI) vC (.slice (some ⟨bJ, 0, none⟩) M cJ) uB uI uC uJ nB M nC M A B p q G D E) {k : Nat} (hk : k < M) :
    ∃ hk ck, wr.cell? ⟨sp, 1, none⟩ = some (.slice (some ⟨bI, 0, none⟩) M cI) ∧ wr.cell? ⟨sp, 3, none⟩ = some (.slice (some ⟨bJ, 0, none⟩) M cJ) ∧ wr.cell? ⟨bI, k, none⟩ = some (.slice (some ⟨gI k, 0, none⟩) m m) ∧ wr.cell? ⟨bJ, k, none⟩ = some (.slice (some ⟨hk, 0, none⟩) (m + 5) ck) ∧ (∀ j, j < m → ∃ y, wr.cell? ⟨gI k, j, none⟩ = some (.slice (some ⟨y, 0, none⟩) 3 3) ∧ wr.cell? ⟨hk, j, none⟩ = some (.slice (some ⟨y, 0, none⟩) 3 3) ∧ Arr wr y 5 (tri k j 77)) ∧ ∀ j, j < 5 → ∃ y, wr.cell? ⟨hk, m + j, none⟩ = some (.slice (some ⟨y, 0, none⟩) 3 3) ∧ Arr wr y 5 (tri k j 88) := by
  obtain ⟨v, us, h1, h2, h3, h4, h5⟩ := h.x.fJ k hk
  obtain ⟨g, c, e, _⟩ := h2.head (by omega)
  subst e
  rw [h3] at h1 h2
  refine ⟨g, c, h.sh.sh.cell_of rfl, h.sh.sh.cell_of rfl, ?_, ?_, fun j hj => ?_, fun j hj => ?_⟩
  · rw [h.sh.rI.cellAt (by rw [h.sh.lI]; exact hk)]; exact h.sh.eI k hk
  · rw [h.sh.rJ.cellAt (by rw [h.x.lJ]; exact hk)]; exact h1
  · obtain ⟨y, y1, y2⟩ := h.x.fI k hk j hj
    exact ⟨y, (h.sh.aI k hk).1.cell_of y1, by rw [h2.cellAt (by omega), h4 j hj]; exact y1, y2⟩
  · obtain ⟨y, y1, y2⟩ := h5 j hj
    exact ⟨y, by rw [h2.cellAt (by omega)]; exact y1, y2⟩
end
theorem bkept {w w' : World} (h : Below w.heap.size w w') {a : Addr} {v : Value} (hc : w.cell? a = some v) : w'.cell? a = some v := (Up.of_below (F := fun _ => False) h).cell hc (fun h => h)
set_option maxRecDepth 100000 in
set_option maxHeartbeats 8000000 in
theorem stands_calls {w wS : World} {sp N M m B p q : Nat} {gB gI : Nat → Nat} {Rb Ri : Nat → List Value} {vB vI vC vJ : Value} {uB uI uC uJ : List Value} {A : Nat → Prop} {G : Nat → Nat} {D E : AD} (h : Fz w wS sp N M m gB gI Rb Ri vB vI vC vJ uB uI uC uJ N M N M A B p q G D E) (hN0 : 0 < N) (hM0 : 0 < M) (hN : N ≤ 20000) (hM : M ≤ 2000) (hm : m ≤ 20) :
    Calls Try.prog 27 #[.pointer (some ⟨sp, 0, none⟩)] wS fun e w' => e = .returned (.bool true) ∧ Below wS.heap.size wS w' := by
  obtain ⟨bB, cB, eB, _⟩ := h.sh.rB.head (by rw [h.sh.lB]; exact hN0)
  obtain ⟨bI, cI, eI, _⟩ := h.sh.rI.head (by rw [h.sh.lI]; exact hM0)
  obtain ⟨bC, cC, eC, _⟩ := h.sh.rC.head (by rw [h.x.lC]; exact hN0)
  obtain ⟨bJ, cJ, eJ, _⟩ := h.sh.rJ.head (by rw [h.x.lJ]; exact hM0)
  rw [h.sh.lB] at eB
  rw [h.sh.lI] at eI
  rw [h.x.lC] at eC
  rw [h.x.lJ] at eJ
  subst eB eI eC eJ
  have HV : Hid (∀ W k, Below wS.heap.size wS W → k < N → _) := hide (fun W k hW hk => (h.below hW).viewB hk)
  have HI : Hid (∀ W k, Below wS.heap.size wS W → k < M → _) := hide (fun W k hW hk => (h.below hW).viewI hk)
  have HC : Hid (∀ W, Below wS.heap.size wS W → W.cell? ⟨sp, 2, none⟩ = some (.slice (some ⟨bC, 0, none⟩) N cC) ∧ W.cell? ⟨sp, 3, none⟩ = some (.slice (some ⟨bJ, 0, none⟩) M cJ)) := hide (fun W hW => ⟨(h.below hW).sh.sh.cell_of rfl, (h.below hW).sh.sh.cell_of rfl⟩)
  have HM0 := hide hm
  clear h hN0 hM0
  go_enter Try.func27, Try.ntmps27
  go_wp2
  go_loopw [3] (fun iv W => ∃ i : Nat, i ≤ N ∧ iv = .int .i64 (i : Int) ∧ Hid (Below wS.heap.size wS W)) (fun iv _ => N - (intOf iv).toNat)
  case atStart => exact ⟨0, by omega, rfl, hide (Below.refl _ _)⟩
  case round =>
    obtain ⟨i, hi, rfl, HB⟩ := hrel
    by_cases hiN : i < N
    · have hiI : (i : Int) < (N : Int) := by omega
      obtain ⟨hk, ck, hc0, hc2, hcb, hcc, hrow, hlong⟩ := unhide HV wr i HB.out hiN
      generalize hgk : gB i = gk at hcb hrow
      have HGK := hide hgk
      have HROW := hide hrow
      have HLONG := hide hlong
      clear hgk hrow hlong
      rename World => w1
      go_wp2_with fail
      go_loopw [5] (fun jv W => ∃ j : Nat, j ≤ 512 ∧ jv = .int .i64 (j : Int) ∧ Hid (Below w1.heap.size w1 W)) (fun jv _ => 512 - (intOf jv).toNat)
      case atStart => exact ⟨0, by omega, rfl, hide (Below.refl _ _)⟩
      case round =>
        obtain ⟨j, hj, rfl, HB2⟩ := hrel
        by_cases hj5 : j < 512
        · have hjI : (j : Int) < 512 := by omega
          have hj2 : (j : Int) < 582 := by omega
          obtain ⟨e, e8, q1, hand, hmul, he0, he64, hshr, hcv⟩ := mark_facts i j (by omega)
          have hr1 := (HROW.out j hj5).1
          have hr2 := (HROW.out j hj5).2
          generalize mkO i j = V at hcv hr1 hr2
          have HSS : Hid (∀ W, Below wr.heap.size wr W → (fun W => W.cell? ⟨sp, 0, none⟩ = some (.slice (some ⟨bB, 0, none⟩) N cB) ∧ W.cell? ⟨sp, 2, none⟩ = some (.slice (some ⟨bC, 0, none⟩) N cC) ∧ W.cell? ⟨bB, i, none⟩ = some (.slice (some ⟨gk, 0, none⟩) 512 512) ∧ W.cell? ⟨bC, i, none⟩ = some (.slice (some ⟨hk, 0, none⟩) 582 ck) ∧ W.cell? ⟨gk, j, none⟩ = some (.int .u8 V) ∧ W.cell? ⟨hk, j, none⟩ = some (.int .u8 V)) W) := hide (fun W hW => ⟨bkept hW (bkept HB2.out hc0), bkept hW (bkept HB2.out hc2), bkept hW (bkept HB2.out hcb), bkept hW (bkept HB2.out hcc), bkept hW (bkept HB2.out hr1), bkept hW (bkept HB2.out hr2)⟩)
          have HB3 : Hid (Below w1.heap.size w1 wr.drew) := hide HB2.out.drew
          clear hr1 hr2 HB2
          go_wp2_with fail
          refine wp_region_held_drew (S := fun W => W.cell? ⟨sp, 0, none⟩ = some (.slice (some ⟨bB, 0, none⟩) N cB) ∧ W.cell? ⟨sp, 2, none⟩ = some (.slice (some ⟨bC, 0, none⟩) N cC) ∧ W.cell? ⟨bB, i, none⟩ = some (.slice (some ⟨gk, 0, none⟩) 512 512) ∧ W.cell? ⟨bC, i, none⟩ = some (.slice (some ⟨hk, 0, none⟩) 582 ck) ∧ W.cell? ⟨gk, j, none⟩ = some (.int .u8 V) ∧ W.cell? ⟨hk, j, none⟩ = some (.int .u8 V)) (by kernel_rfl) (unhide HSS _ (Below.refl _ _).drew) (fun hHeld => ?_)
          refine wpAnyH_take (i := 0) (v := .pointer (some ⟨sp, 0, none⟩)) rfl (by kernel_rfl) (by kernel_rfl) (by kernel_rfl) (fun _ _ _ h => h) (Or.inl ⟨by rfl, fun w hSw => by obtain ⟨hS1, hS2, hS3, hS4, hS5, hS6⟩ := hSw; go_simp⟩) (by assumption) ?_
          simp only [List.getElem_toArray, List.getElem_cons_zero, Act.put, List.setIfInBounds_toArray, List.set_cons_zero, List.set_cons_succ]
          refine wpAnyH_take (i := 1) (v := .pointer (some ⟨sp, 0, none⟩)) rfl (by kernel_rfl) (by kernel_rfl) (by kernel_rfl) (fun _ _ _ h => h) (Or.inl ⟨by rfl, fun w hSw => by obtain ⟨hS1, hS2, hS3, hS4, hS5, hS6⟩ := hSw; go_simp⟩) (by assumption) ?_
          simp only [List.getElem_toArray, List.getElem_cons_succ, List.getElem_cons_zero, Act.put, List.setIfInBounds_toArray, List.set_cons_zero, List.set_cons_succ]
          refine wpAnyH_take (i := 2) (v := .pointer (some ⟨sp, 0, none⟩)) rfl (by kernel_rfl) (by kernel_rfl) (by kernel_rfl) (fun _ _ _ h => h) (Or.inl ⟨by rfl, fun w hSw => by obtain ⟨hS1, hS2, hS3, hS4, hS5, hS6⟩ := hSw; go_simp⟩) (by assumption) ?_
          simp only [List.getElem_toArray, List.getElem_cons_succ, List.getElem_cons_zero, Act.put, List.setIfInBounds_toArray, List.set_cons_zero, List.set_cons_succ]
          refine wpAnyH_take (i := 3) (v := .slice (some ⟨bB, 0, none⟩) N cB) rfl (by kernel_rfl) (by kernel_rfl) (by kernel_rfl) (fun _ _ _ h => h) (Or.inl ⟨by rfl, fun w hSw => by obtain ⟨hS1, hS2, hS3, hS4, hS5, hS6⟩ := hSw; go_simp⟩) (by assumption) ?_
          simp only [List.getElem_toArray, List.getElem_cons_succ, List.getElem_cons_zero, Act.put, List.setIfInBounds_toArray, List.set_cons_zero, List.set_cons_succ]
          refine wpAnyH_take (i := 4) (v := .int .i64 (i : Int)) rfl (by kernel_rfl) (by kernel_rfl) (by kernel_rfl) (fun _ _ _ h => h) (Or.inl ⟨by rfl, fun w hSw => by obtain ⟨hS1, hS2, hS3, hS4, hS5, hS6⟩ := hSw; go_simp⟩) (by assumption) ?_
          simp only [List.getElem_toArray, List.getElem_cons_succ, List.getElem_cons_zero, Act.put, List.setIfInBounds_toArray, List.set_cons_zero, List.set_cons_succ]
          refine wpAnyH_take (i := 5) (v := .pointer (some ⟨bB, i, none⟩)) rfl (by kernel_rfl) (by kernel_rfl) (by kernel_rfl) (fun _ _ _ h => h) (Or.inl ⟨by rfl, fun w hSw => by obtain ⟨hS1, hS2, hS3, hS4, hS5, hS6⟩ := hSw; go_simp⟩) (by assumption) ?_
          simp only [List.getElem_toArray, List.getElem_cons_succ, List.getElem_cons_zero, Act.put, List.setIfInBounds_toArray, List.set_cons_zero, List.set_cons_succ]
          refine wpAnyH_take (i := 6) (v := .slice (some ⟨gk, 0, none⟩) 512 512) rfl (by kernel_rfl) (by kernel_rfl) (by kernel_rfl) (fun _ _ _ h => h) (Or.inl ⟨by rfl, fun w hSw => by obtain ⟨hS1, hS2, hS3, hS4, hS5, hS6⟩ := hSw; go_simp⟩) (by assumption) ?_
          simp only [List.getElem_toArray, List.getElem_cons_succ, List.getElem_cons_zero, Act.put, List.setIfInBounds_toArray, List.set_cons_zero, List.set_cons_succ]
          refine wpAnyH_take (i := 7) (v := .int .i64 (j : Int)) rfl (by kernel_rfl) (by kernel_rfl) (by kernel_rfl) (fun _ _ _ h => h) (Or.inl ⟨by rfl, fun w hSw => by obtain ⟨hS1, hS2, hS3, hS4, hS5, hS6⟩ := hSw; go_simp⟩) (by assumption) ?_
          simp only [List.getElem_toArray, List.getElem_cons_succ, List.getElem_cons_zero, Act.put, List.setIfInBounds_toArray, List.set_cons_zero, List.set_cons_succ]
          refine wpAnyH_take (i := 8) (v := .pointer (some ⟨gk, j, none⟩)) rfl (by kernel_rfl) (by kernel_rfl) (by kernel_rfl) (fun _ _ _ h => h) (Or.inl ⟨by rfl, fun w hSw => by obtain ⟨hS1, hS2, hS3, hS4, hS5, hS6⟩ := hSw; go_simp⟩) (by assumption) ?_
          simp only [List.getElem_toArray, List.getElem_cons_succ, List.getElem_cons_zero, Act.put, List.setIfInBounds_toArray, List.set_cons_zero, List.set_cons_succ]
          refine wpAnyH_take (i := 9) (v := .int .u8 V) rfl (by kernel_rfl) (by kernel_rfl) (by kernel_rfl) (fun _ _ _ h => h) (Or.inl ⟨by rfl, fun w hSw => by obtain ⟨hS1, hS2, hS3, hS4, hS5, hS6⟩ := hSw; go_simp⟩) (by assumption) ?_
          simp only [List.getElem_toArray, List.getElem_cons_succ, List.getElem_cons_zero, Act.put, List.setIfInBounds_toArray, List.set_cons_zero, List.set_cons_succ]
          refine wpAnyH_take (i := 10) (v := .int .i64 (i : Int)) rfl (by kernel_rfl) (by kernel_rfl) (by kernel_rfl) (fun _ _ _ h => h) (Or.inl ⟨by rfl, fun w hSw => by obtain ⟨hS1, hS2, hS3, hS4, hS5, hS6⟩ := hSw; go_simp⟩) (by assumption) ?_
          simp only [List.getElem_toArray, List.getElem_cons_succ, List.getElem_cons_zero, Act.put, List.setIfInBounds_toArray, List.set_cons_zero, List.set_cons_succ]
          refine wpAnyH_take (i := 11) (v := .int .i64 (j : Int)) rfl (by kernel_rfl) (by kernel_rfl) (by kernel_rfl) (fun _ _ _ h => h) (Or.inl ⟨by rfl, fun w hSw => by obtain ⟨hS1, hS2, hS3, hS4, hS5, hS6⟩ := hSw; go_simp⟩) (by assumption) ?_
          simp only [List.getElem_toArray, List.getElem_cons_succ, List.getElem_cons_zero, Act.put, List.setIfInBounds_toArray, List.set_cons_zero, List.set_cons_succ]
          refine wpAnyH_take (i := 12) (v := .int .i64 e) rfl (by kernel_rfl) (by kernel_rfl) (by kernel_rfl) (fun _ _ _ h => h) (Or.inl ⟨by rfl, fun w hSw => by obtain ⟨hS1, hS2, hS3, hS4, hS5, hS6⟩ := hSw; go_simp⟩) (by assumption) ?_
          simp only [List.getElem_toArray, List.getElem_cons_succ, List.getElem_cons_zero, Act.put, List.setIfInBounds_toArray, List.set_cons_zero, List.set_cons_succ]
          refine wpAnyH_take (i := 13) (v := .int .i64 e8) rfl (by kernel_rfl) (by kernel_rfl) (by kernel_rfl) (fun _ _ _ h => h) (Or.inl ⟨by rfl, fun w hSw => by obtain ⟨hS1, hS2, hS3, hS4, hS5, hS6⟩ := hSw; go_simp⟩) (by assumption) ?_
          simp only [List.getElem_toArray, List.getElem_cons_succ, List.getElem_cons_zero, Act.put, List.setIfInBounds_toArray, List.set_cons_zero, List.set_cons_succ]
          refine wpAnyH_take (i := 14) (v := .int .i64 q1) rfl (by kernel_rfl) (by kernel_rfl) (by kernel_rfl) (fun _ _ _ h => h) (Or.inl ⟨by rfl, fun w hSw => by obtain ⟨hS1, hS2, hS3, hS4, hS5, hS6⟩ := hSw; go_simp⟩) (by assumption) ?_
          simp only [List.getElem_toArray, List.getElem_cons_succ, List.getElem_cons_zero, Act.put, List.setIfInBounds_toArray, List.set_cons_zero, List.set_cons_succ]
          refine wpAnyH_take (i := 15) (v := .int .u8 V) rfl (by kernel_rfl) (by kernel_rfl) (by kernel_rfl) (fun _ _ _ h => h) (Or.inl ⟨by rfl, fun w hSw => by obtain ⟨hS1, hS2, hS3, hS4, hS5, hS6⟩ := hSw; go_simp⟩) (by assumption) ?_
          simp only [List.getElem_toArray, List.getElem_cons_succ, List.getElem_cons_zero, Act.put, List.setIfInBounds_toArray, List.set_cons_zero, List.set_cons_succ]
          refine wpAnyH_take (i := 16) (v := .bool false) rfl (by kernel_rfl) (by kernel_rfl) (by kernel_rfl) (fun _ _ _ h => h) (Or.inl ⟨by rfl, fun w hSw => by obtain ⟨hS1, hS2, hS3, hS4, hS5, hS6⟩ := hSw; go_simp⟩) (by assumption) ?_
          simp only [List.getElem_toArray, List.getElem_cons_succ, List.getElem_cons_zero, Act.put, List.setIfInBounds_toArray, List.set_cons_zero, List.set_cons_succ]
          refine wpAnyH_take (i := 17) (v := .bool false) rfl (by kernel_rfl) (by kernel_rfl) (by kernel_rfl) (fun _ _ _ h => h) (Or.inl ⟨by rfl, fun w hSw => by obtain ⟨hS1, hS2, hS3, hS4, hS5, hS6⟩ := hSw; go_simp⟩) (by assumption) ?_
          simp only [List.getElem_toArray, List.getElem_cons_succ, List.getElem_cons_zero, Act.put, List.setIfInBounds_toArray, List.set_cons_zero, List.set_cons_succ]
          refine wpAnyH_take (i := 18) (v := .pointer (some ⟨sp, 0, none⟩)) rfl (by kernel_rfl) (by kernel_rfl) (by kernel_rfl) (fun _ _ _ h => h) (Or.inl ⟨by rfl, fun w hSw => by obtain ⟨hS1, hS2, hS3, hS4, hS5, hS6⟩ := hSw; go_simp⟩) (by assumption) ?_
          simp only [List.getElem_toArray, List.getElem_cons_succ, List.getElem_cons_zero, Act.put, List.setIfInBounds_toArray, List.set_cons_zero, List.set_cons_succ]
          refine wpAnyH_take (i := 19) (v := .pointer (some ⟨sp, 0, none⟩)) rfl (by kernel_rfl) (by kernel_rfl) (by kernel_rfl) (fun _ _ _ h => h) (Or.inl ⟨by rfl, fun w hSw => by obtain ⟨hS1, hS2, hS3, hS4, hS5, hS6⟩ := hSw; go_simp⟩) (by assumption) ?_
          simp only [List.getElem_toArray, List.getElem_cons_succ, List.getElem_cons_zero, Act.put, List.setIfInBounds_toArray, List.set_cons_zero, List.set_cons_succ]
          refine wpAnyH_take (i := 20) (v := .pointer (some ⟨sp, 2, none⟩)) rfl (by kernel_rfl) (by kernel_rfl) (by kernel_rfl) (fun _ _ _ h => h) (Or.inl ⟨by rfl, fun w hSw => by obtain ⟨hS1, hS2, hS3, hS4, hS5, hS6⟩ := hSw; go_simp⟩) (by assumption) ?_
          simp only [List.getElem_toArray, List.getElem_cons_succ, List.getElem_cons_zero, Act.put, List.setIfInBounds_toArray, List.set_cons_zero, List.set_cons_succ]
          refine wpAnyH_take (i := 21) (v := .slice (some ⟨bC, 0, none⟩) N cC) rfl (by kernel_rfl) (by kernel_rfl) (by kernel_rfl) (fun _ _ _ h => h) (Or.inl ⟨by rfl, fun w hSw => by obtain ⟨hS1, hS2, hS3, hS4, hS5, hS6⟩ := hSw; go_simp⟩) (by assumption) ?_
          simp only [List.getElem_toArray, List.getElem_cons_succ, List.getElem_cons_zero, Act.put, List.setIfInBounds_toArray, List.set_cons_zero, List.set_cons_succ]
          refine wpAnyH_take (i := 22) (v := .int .i64 (i : Int)) rfl (by kernel_rfl) (by kernel_rfl) (by kernel_rfl) (fun _ _ _ h => h) (Or.inl ⟨by rfl, fun w hSw => by obtain ⟨hS1, hS2, hS3, hS4, hS5, hS6⟩ := hSw; go_simp⟩) (by assumption) ?_
          simp only [List.getElem_toArray, List.getElem_cons_succ, List.getElem_cons_zero, Act.put, List.setIfInBounds_toArray, List.set_cons_zero, List.set_cons_succ]
          refine wpAnyH_take (i := 23) (v := .pointer (some ⟨bC, i, none⟩)) rfl (by kernel_rfl) (by kernel_rfl) (by kernel_rfl) (fun _ _ _ h => h) (Or.inl ⟨by rfl, fun w hSw => by obtain ⟨hS1, hS2, hS3, hS4, hS5, hS6⟩ := hSw; go_simp⟩) (by assumption) ?_
          simp only [List.getElem_toArray, List.getElem_cons_succ, List.getElem_cons_zero, Act.put, List.setIfInBounds_toArray, List.set_cons_zero, List.set_cons_succ]
          refine wpAnyH_take (i := 24) (v := .slice (some ⟨hk, 0, none⟩) 582 ck) rfl (by kernel_rfl) (by kernel_rfl) (by kernel_rfl) (fun _ _ _ h => h) (Or.inl ⟨by rfl, fun w hSw => by obtain ⟨hS1, hS2, hS3, hS4, hS5, hS6⟩ := hSw; go_simp⟩) (by assumption) ?_
          simp only [List.getElem_toArray, List.getElem_cons_succ, List.getElem_cons_zero, Act.put, List.setIfInBounds_toArray, List.set_cons_zero, List.set_cons_succ]
          refine wpAnyH_take (i := 25) (v := .int .i64 (j : Int)) rfl (by kernel_rfl) (by kernel_rfl) (by kernel_rfl) (fun _ _ _ h => h) (Or.inl ⟨by rfl, fun w hSw => by obtain ⟨hS1, hS2, hS3, hS4, hS5, hS6⟩ := hSw; go_simp⟩) (by assumption) ?_
          simp only [List.getElem_toArray, List.getElem_cons_succ, List.getElem_cons_zero, Act.put, List.setIfInBounds_toArray, List.set_cons_zero, List.set_cons_succ]
          refine wpAnyH_take (i := 26) (v := .pointer (some ⟨hk, j, none⟩)) rfl (by kernel_rfl) (by kernel_rfl) (by kernel_rfl) (fun _ _ _ h => h) (Or.inl ⟨by rfl, fun w hSw => by obtain ⟨hS1, hS2, hS3, hS4, hS5, hS6⟩ := hSw; go_simp⟩) (by assumption) ?_
          simp only [List.getElem_toArray, List.getElem_cons_succ, List.getElem_cons_zero, Act.put, List.setIfInBounds_toArray, List.set_cons_zero, List.set_cons_succ]
          refine wpAnyH_take (i := 27) (v := .int .u8 V) rfl (by kernel_rfl) (by kernel_rfl) (by kernel_rfl) (fun _ _ _ h => h) (Or.inl ⟨by rfl, fun w hSw => by obtain ⟨hS1, hS2, hS3, hS4, hS5, hS6⟩ := hSw; go_simp⟩) (by assumption) ?_
          simp only [List.getElem_toArray, List.getElem_cons_succ, List.getElem_cons_zero, Act.put, List.setIfInBounds_toArray, List.set_cons_zero, List.set_cons_succ]
          refine wpAnyH_take (i := 28) (v := .pointer (some ⟨sp, 0, none⟩)) rfl (by kernel_rfl) (by kernel_rfl) (by kernel_rfl) (fun _ _ _ h => h) (Or.inl ⟨by rfl, fun w hSw => by obtain ⟨hS1, hS2, hS3, hS4, hS5, hS6⟩ := hSw; go_simp⟩) (by assumption) ?_
          simp only [List.getElem_toArray, List.getElem_cons_succ, List.getElem_cons_zero, Act.put, List.setIfInBounds_toArray, List.set_cons_zero, List.set_cons_succ]
          refine wpAnyH_take (i := 29) (v := .pointer (some ⟨sp, 0, none⟩)) rfl (by kernel_rfl) (by kernel_rfl) (by kernel_rfl) (fun _ _ _ h => h) (Or.inl ⟨by rfl, fun w hSw => by obtain ⟨hS1, hS2, hS3, hS4, hS5, hS6⟩ := hSw; go_simp⟩) (by assumption) ?_
          simp only [List.getElem_toArray, List.getElem_cons_succ, List.getElem_cons_zero, Act.put, List.setIfInBounds_toArray, List.set_cons_zero, List.set_cons_succ]
          refine wpAnyH_take (i := 30) (v := .pointer (some ⟨sp, 0, none⟩)) rfl (by kernel_rfl) (by kernel_rfl) (by kernel_rfl) (fun _ _ _ h => h) (Or.inl ⟨by rfl, fun w hSw => by obtain ⟨hS1, hS2, hS3, hS4, hS5, hS6⟩ := hSw; go_simp⟩) (by assumption) ?_
          simp only [List.getElem_toArray, List.getElem_cons_succ, List.getElem_cons_zero, Act.put, List.setIfInBounds_toArray, List.set_cons_zero, List.set_cons_succ]
          refine wpAnyH_take (i := 31) (v := .slice (some ⟨bB, 0, none⟩) N cB) rfl (by kernel_rfl) (by kernel_rfl) (by kernel_rfl) (fun _ _ _ h => h) (Or.inl ⟨by rfl, fun w hSw => by obtain ⟨hS1, hS2, hS3, hS4, hS5, hS6⟩ := hSw; go_simp⟩) (by assumption) ?_
          simp only [List.getElem_toArray, List.getElem_cons_succ, List.getElem_cons_zero, Act.put, List.setIfInBounds_toArray, List.set_cons_zero, List.set_cons_succ]
          refine wpAnyH_take (i := 32) (v := .int .i64 (i : Int)) rfl (by kernel_rfl) (by kernel_rfl) (by kernel_rfl) (fun _ _ _ h => h) (Or.inl ⟨by rfl, fun w hSw => by obtain ⟨hS1, hS2, hS3, hS4, hS5, hS6⟩ := hSw; go_simp⟩) (by assumption) ?_
          simp only [List.getElem_toArray, List.getElem_cons_succ, List.getElem_cons_zero, Act.put, List.setIfInBounds_toArray, List.set_cons_zero, List.set_cons_succ]
          refine wpAnyH_take (i := 33) (v := .pointer (some ⟨bB, i, none⟩)) rfl (by kernel_rfl) (by kernel_rfl) (by kernel_rfl) (fun _ _ _ h => h) (Or.inl ⟨by rfl, fun w hSw => by obtain ⟨hS1, hS2, hS3, hS4, hS5, hS6⟩ := hSw; go_simp⟩) (by assumption) ?_
          simp only [List.getElem_toArray, List.getElem_cons_succ, List.getElem_cons_zero, Act.put, List.setIfInBounds_toArray, List.set_cons_zero, List.set_cons_succ]
          refine wpAnyH_take (i := 34) (v := .slice (some ⟨gk, 0, none⟩) 512 512) rfl (by kernel_rfl) (by kernel_rfl) (by kernel_rfl) (fun _ _ _ h => h) (Or.inl ⟨by rfl, fun w hSw => by obtain ⟨hS1, hS2, hS3, hS4, hS5, hS6⟩ := hSw; go_simp⟩) (by assumption) ?_
          simp only [List.getElem_toArray, List.getElem_cons_succ, List.getElem_cons_zero, Act.put, List.setIfInBounds_toArray, List.set_cons_zero, List.set_cons_succ]
          refine wpAnyH_take (i := 35) (v := .int .i64 (j : Int)) rfl (by kernel_rfl) (by kernel_rfl) (by kernel_rfl) (fun _ _ _ h => h) (Or.inl ⟨by rfl, fun w hSw => by obtain ⟨hS1, hS2, hS3, hS4, hS5, hS6⟩ := hSw; go_simp⟩) (by assumption) ?_
          simp only [List.getElem_toArray, List.getElem_cons_succ, List.getElem_cons_zero, Act.put, List.setIfInBounds_toArray, List.set_cons_zero, List.set_cons_succ]
          refine wpAnyH_take (i := 36) (v := .pointer (some ⟨gk, j, none⟩)) rfl (by kernel_rfl) (by kernel_rfl) (by kernel_rfl) (fun _ _ _ h => h) (Or.inl ⟨by rfl, fun w hSw => by obtain ⟨hS1, hS2, hS3, hS4, hS5, hS6⟩ := hSw; go_simp⟩) (by assumption) ?_
          simp only [List.getElem_toArray, List.getElem_cons_succ, List.getElem_cons_zero, Act.put, List.setIfInBounds_toArray, List.set_cons_zero, List.set_cons_succ]
          refine wpAnyH_take (i := 37) (v := .int .u8 V) rfl (by kernel_rfl) (by kernel_rfl) (by kernel_rfl) (fun _ _ _ h => h) (Or.inl ⟨by rfl, fun w hSw => by obtain ⟨hS1, hS2, hS3, hS4, hS5, hS6⟩ := hSw; go_simp⟩) (by assumption) ?_
          simp only [List.getElem_toArray, List.getElem_cons_succ, List.getElem_cons_zero, Act.put, List.setIfInBounds_toArray, List.set_cons_zero, List.set_cons_succ]
          refine wpAnyH_take (i := 38) (v := .bool false) rfl (by kernel_rfl) (by kernel_rfl) (by kernel_rfl) (fun _ _ _ h => h) (Or.inl ⟨by rfl, fun w hSw => by obtain ⟨hS1, hS2, hS3, hS4, hS5, hS6⟩ := hSw; go_simp⟩) (by assumption) ?_
          simp only [List.getElem_toArray, List.getElem_cons_succ, List.getElem_cons_zero, Act.put, List.setIfInBounds_toArray, List.set_cons_zero, List.set_cons_succ]
          refine wpAnyH_take (i := 39) (v := .bool false) rfl (by kernel_rfl) (by kernel_rfl) (by kernel_rfl) (fun _ _ _ h => h) (Or.inl ⟨by rfl, fun w hSw => by obtain ⟨hS1, hS2, hS3, hS4, hS5, hS6⟩ := hSw; go_simp⟩) (by assumption) ?_
          simp only [List.getElem_toArray, List.getElem_cons_succ, List.getElem_cons_zero, Act.put, List.setIfInBounds_toArray, List.set_cons_zero, List.set_cons_succ]
          refine wpAnyH_done (by kernel_rfl) ?_ _
          clear hHeld
          go_wp2
          go_roundw
          case rel => exact ⟨j + 1, by omega, by go_num, HB3⟩
          case measure => simp [intOf]; omega
        · have hjN : ¬ (j : Int) < 512 := by omega
          have HB3 := HB2
          clear hj5
          go_wp2_with fail
          clear hjN
          rename World => w2
          go_loopw [6] (fun jv W => ∃ j : Nat, j ≤ 70 ∧ jv = .int .i64 (j : Int) ∧ Hid (Below w1.heap.size w1 W)) (fun jv _ => 70 - (intOf jv).toNat)
          case atStart => exact ⟨0, by omega, rfl, HB2⟩
          case round =>
            clear hj HB2 HB3
            rename Nat => jo
            obtain ⟨j, hj, rfl, HB2⟩ := hrel
            by_cases hj7 : j < 70
            · have hjI : (j : Int) < 70 := by omega
              obtain ⟨e, e8, q1, hand, hmul, he0, he64, hshr, hcv⟩ := mark_facts i j (by omega)
              have hr1 := HLONG.out j hj7
              have hadd : IntKind.u8.wrap (mkO i j + 101) = mkP i j := rfl
              generalize mkP i j = V2 at hr1 hadd
              generalize mkO i j = V at hcv hadd
              obtain ⟨s, hs⟩ : ∃ s, s = 512 + j := ⟨_, rfl⟩
              have hws : IntKind.i64.wrap (512 + (j : Int)) = (s : Int) := by rw [IntKind.wrap_i64]; omega
              have hs5 : (s : Int) < 582 := by omega
              rw [← hs] at hr1
              clear hs
              have HSS : Hid (∀ W, Below wr.heap.size wr W → (fun W => W.cell? ⟨sp, 2, none⟩ = some (.slice (some ⟨bC, 0, none⟩) N cC) ∧ W.cell? ⟨bC, i, none⟩ = some (.slice (some ⟨hk, 0, none⟩) 582 ck) ∧ W.cell? ⟨hk, s, none⟩ = some (.int .u8 V2)) W) := hide (fun W hW => ⟨bkept hW (bkept HB2.out hc2), bkept hW (bkept HB2.out hcc), bkept hW (bkept HB2.out hr1)⟩)
              have HB3 : Hid (Below w1.heap.size w1 wr.drew) := hide HB2.out.drew
              clear hr1 HB2
              go_wp2_with fail
              refine wp_region_held_drew (S := fun W => W.cell? ⟨sp, 2, none⟩ = some (.slice (some ⟨bC, 0, none⟩) N cC) ∧ W.cell? ⟨bC, i, none⟩ = some (.slice (some ⟨hk, 0, none⟩) 582 ck) ∧ W.cell? ⟨hk, s, none⟩ = some (.int .u8 V2)) (by kernel_rfl) (unhide HSS _ (Below.refl _ _).drew) (fun hHeld => ?_)
              refine wpAnyH_take (i := 0) (v := .pointer (some ⟨sp, 0, none⟩)) rfl (by kernel_rfl) (by kernel_rfl) (by kernel_rfl) (fun _ _ _ h => h) (Or.inl ⟨by rfl, fun w hSw => by obtain ⟨hS1, hS2, hS3⟩ := hSw; go_simp⟩) (by assumption) ?_
              simp only [List.getElem_toArray, List.getElem_cons_zero, Act.put, List.setIfInBounds_toArray, List.set_cons_zero, List.set_cons_succ]
              refine wpAnyH_take (i := 1) (v := .pointer (some ⟨sp, 0, none⟩)) rfl (by kernel_rfl) (by kernel_rfl) (by kernel_rfl) (fun _ _ _ h => h) (Or.inl ⟨by rfl, fun w hSw => by obtain ⟨hS1, hS2, hS3⟩ := hSw; go_simp⟩) (by assumption) ?_
              simp only [List.getElem_toArray, List.getElem_cons_succ, List.getElem_cons_zero, Act.put, List.setIfInBounds_toArray, List.set_cons_zero, List.set_cons_succ]
              refine wpAnyH_take (i := 2) (v := .pointer (some ⟨sp, 2, none⟩)) rfl (by kernel_rfl) (by kernel_rfl) (by kernel_rfl) (fun _ _ _ h => h) (Or.inl ⟨by rfl, fun w hSw => by obtain ⟨hS1, hS2, hS3⟩ := hSw; go_simp⟩) (by assumption) ?_
              simp only [List.getElem_toArray, List.getElem_cons_succ, List.getElem_cons_zero, Act.put, List.setIfInBounds_toArray, List.set_cons_zero, List.set_cons_succ]
              refine wpAnyH_take (i := 3) (v := .slice (some ⟨bC, 0, none⟩) N cC) rfl (by kernel_rfl) (by kernel_rfl) (by kernel_rfl) (fun _ _ _ h => h) (Or.inl ⟨by rfl, fun w hSw => by obtain ⟨hS1, hS2, hS3⟩ := hSw; go_simp⟩) (by assumption) ?_
              simp only [List.getElem_toArray, List.getElem_cons_succ, List.getElem_cons_zero, Act.put, List.setIfInBounds_toArray, List.set_cons_zero, List.set_cons_succ]
              refine wpAnyH_take (i := 4) (v := .int .i64 (i : Int)) rfl (by kernel_rfl) (by kernel_rfl) (by kernel_rfl) (fun _ _ _ h => h) (Or.inl ⟨by rfl, fun w hSw => by obtain ⟨hS1, hS2, hS3⟩ := hSw; go_simp⟩) (by assumption) ?_
              simp only [List.getElem_toArray, List.getElem_cons_succ, List.getElem_cons_zero, Act.put, List.setIfInBounds_toArray, List.set_cons_zero, List.set_cons_succ]
              refine wpAnyH_take (i := 5) (v := .pointer (some ⟨bC, i, none⟩)) rfl (by kernel_rfl) (by kernel_rfl) (by kernel_rfl) (fun _ _ _ h => h) (Or.inl ⟨by rfl, fun w hSw => by obtain ⟨hS1, hS2, hS3⟩ := hSw; go_simp⟩) (by assumption) ?_
              simp only [List.getElem_toArray, List.getElem_cons_succ, List.getElem_cons_zero, Act.put, List.setIfInBounds_toArray, List.set_cons_zero, List.set_cons_succ]
              refine wpAnyH_take (i := 6) (v := .slice (some ⟨hk, 0, none⟩) 582 ck) rfl (by kernel_rfl) (by kernel_rfl) (by kernel_rfl) (fun _ _ _ h => h) (Or.inl ⟨by rfl, fun w hSw => by obtain ⟨hS1, hS2, hS3⟩ := hSw; go_simp⟩) (by assumption) ?_
              simp only [List.getElem_toArray, List.getElem_cons_succ, List.getElem_cons_zero, Act.put, List.setIfInBounds_toArray, List.set_cons_zero, List.set_cons_succ]
              refine wpAnyH_take (i := 7) (v := .int .i64 512) rfl (by kernel_rfl) (by kernel_rfl) (by kernel_rfl) (fun _ _ _ h => h) (Or.inl ⟨by rfl, fun w hSw => by obtain ⟨hS1, hS2, hS3⟩ := hSw; go_simp⟩) (by assumption) ?_
              simp only [List.getElem_toArray, List.getElem_cons_succ, List.getElem_cons_zero, Act.put, List.setIfInBounds_toArray, List.set_cons_zero, List.set_cons_succ]
              refine wpAnyH_take (i := 8) (v := .int .i64 (j : Int)) rfl (by kernel_rfl) (by kernel_rfl) (by kernel_rfl) (fun _ _ _ h => h) (Or.inl ⟨by rfl, fun w hSw => by obtain ⟨hS1, hS2, hS3⟩ := hSw; go_simp⟩) (by assumption) ?_
              simp only [List.getElem_toArray, List.getElem_cons_succ, List.getElem_cons_zero, Act.put, List.setIfInBounds_toArray, List.set_cons_zero, List.set_cons_succ]
              refine wpAnyH_take (i := 9) (v := .int .i64 (s : Int)) rfl (by kernel_rfl) (by kernel_rfl) (by kernel_rfl) (fun _ _ _ h => h) (Or.inl ⟨by rfl, fun w hSw => by obtain ⟨hS1, hS2, hS3⟩ := hSw; go_simp⟩) (by assumption) ?_
              simp only [List.getElem_toArray, List.getElem_cons_succ, List.getElem_cons_zero, Act.put, List.setIfInBounds_toArray, List.set_cons_zero, List.set_cons_succ]
              refine wpAnyH_take (i := 10) (v := .pointer (some ⟨hk, s, none⟩)) rfl (by kernel_rfl) (by kernel_rfl) (by kernel_rfl) (fun _ _ _ h => h) (Or.inl ⟨by rfl, fun w hSw => by obtain ⟨hS1, hS2, hS3⟩ := hSw; go_simp⟩) (by assumption) ?_
              simp only [List.getElem_toArray, List.getElem_cons_succ, List.getElem_cons_zero, Act.put, List.setIfInBounds_toArray, List.set_cons_zero, List.set_cons_succ]
              refine wpAnyH_take (i := 11) (v := .int .u8 V2) rfl (by kernel_rfl) (by kernel_rfl) (by kernel_rfl) (fun _ _ _ h => h) (Or.inl ⟨by rfl, fun w hSw => by obtain ⟨hS1, hS2, hS3⟩ := hSw; go_simp⟩) (by assumption) ?_
              simp only [List.getElem_toArray, List.getElem_cons_succ, List.getElem_cons_zero, Act.put, List.setIfInBounds_toArray, List.set_cons_zero, List.set_cons_succ]
              refine wpAnyH_take (i := 12) (v := .int .i64 (i : Int)) rfl (by kernel_rfl) (by kernel_rfl) (by kernel_rfl) (fun _ _ _ h => h) (Or.inl ⟨by rfl, fun w hSw => by obtain ⟨hS1, hS2, hS3⟩ := hSw; go_simp⟩) (by assumption) ?_
              simp only [List.getElem_toArray, List.getElem_cons_succ, List.getElem_cons_zero, Act.put, List.setIfInBounds_toArray, List.set_cons_zero, List.set_cons_succ]
              refine wpAnyH_take (i := 13) (v := .int .i64 (j : Int)) rfl (by kernel_rfl) (by kernel_rfl) (by kernel_rfl) (fun _ _ _ h => h) (Or.inl ⟨by rfl, fun w hSw => by obtain ⟨hS1, hS2, hS3⟩ := hSw; go_simp⟩) (by assumption) ?_
              simp only [List.getElem_toArray, List.getElem_cons_succ, List.getElem_cons_zero, Act.put, List.setIfInBounds_toArray, List.set_cons_zero, List.set_cons_succ]
              refine wpAnyH_take (i := 14) (v := .int .i64 e) rfl (by kernel_rfl) (by kernel_rfl) (by kernel_rfl) (fun _ _ _ h => h) (Or.inl ⟨by rfl, fun w hSw => by obtain ⟨hS1, hS2, hS3⟩ := hSw; go_simp⟩) (by assumption) ?_
              simp only [List.getElem_toArray, List.getElem_cons_succ, List.getElem_cons_zero, Act.put, List.setIfInBounds_toArray, List.set_cons_zero, List.set_cons_succ]
              refine wpAnyH_take (i := 15) (v := .int .i64 e8) rfl (by kernel_rfl) (by kernel_rfl) (by kernel_rfl) (fun _ _ _ h => h) (Or.inl ⟨by rfl, fun w hSw => by obtain ⟨hS1, hS2, hS3⟩ := hSw; go_simp⟩) (by assumption) ?_
              simp only [List.getElem_toArray, List.getElem_cons_succ, List.getElem_cons_zero, Act.put, List.setIfInBounds_toArray, List.set_cons_zero, List.set_cons_succ]
              refine wpAnyH_take (i := 16) (v := .int .i64 q1) rfl (by kernel_rfl) (by kernel_rfl) (by kernel_rfl) (fun _ _ _ h => h) (Or.inl ⟨by rfl, fun w hSw => by obtain ⟨hS1, hS2, hS3⟩ := hSw; go_simp⟩) (by assumption) ?_
              simp only [List.getElem_toArray, List.getElem_cons_succ, List.getElem_cons_zero, Act.put, List.setIfInBounds_toArray, List.set_cons_zero, List.set_cons_succ]
              refine wpAnyH_take (i := 17) (v := .int .u8 V) rfl (by kernel_rfl) (by kernel_rfl) (by kernel_rfl) (fun _ _ _ h => h) (Or.inl ⟨by rfl, fun w hSw => by obtain ⟨hS1, hS2, hS3⟩ := hSw; go_simp⟩) (by assumption) ?_
              simp only [List.getElem_toArray, List.getElem_cons_succ, List.getElem_cons_zero, Act.put, List.setIfInBounds_toArray, List.set_cons_zero, List.set_cons_succ]
              refine wpAnyH_take (i := 18) (v := .int .u8 V2) rfl (by kernel_rfl) (by kernel_rfl) (by kernel_rfl) (fun _ _ _ h => h) (Or.inl ⟨by rfl, fun w hSw => by obtain ⟨hS1, hS2, hS3⟩ := hSw; go_simp⟩) (by assumption) ?_
              simp only [List.getElem_toArray, List.getElem_cons_succ, List.getElem_cons_zero, Act.put, List.setIfInBounds_toArray, List.set_cons_zero, List.set_cons_succ]
              refine wpAnyH_take (i := 19) (v := .bool false) rfl (by kernel_rfl) (by kernel_rfl) (by kernel_rfl) (fun _ _ _ h => h) (Or.inl ⟨by rfl, fun w hSw => by obtain ⟨hS1, hS2, hS3⟩ := hSw; go_simp⟩) (by assumption) ?_
              simp only [List.getElem_toArray, List.getElem_cons_succ, List.getElem_cons_zero, Act.put, List.setIfInBounds_toArray, List.set_cons_zero, List.set_cons_succ]
              refine wpAnyH_done (by kernel_rfl) ?_ _
              clear hHeld
              go_wp2
              go_roundw
              case rel => exact ⟨j + 1, by omega, by go_num, HB3⟩
              case measure => simp [intOf]; omega
            · have hjN : ¬ (j : Int) < 70 := by omega
              have HB4 : Hid (Below wS.heap.size wS wr) := hide (HB.out.trans (HB2.out.mono HB.out.size))
              go_wp2
              go_roundw
              case rel => exact ⟨i + 1, by omega, by go_num, HB4⟩
              case measure => simp [intOf]; omega
    · have hiN2 : ¬ (i : Int) < (N : Int) := by omega
      have hc2 := (unhide HC wr HB.out).1
      go_wp2
      clear hiN hiN2 hi hc2
      rename Nat => io
      rename World => w0
      go_loopw [7] (fun iv W => ∃ i : Nat, i ≤ M ∧ iv = .int .i64 (i : Int) ∧ Hid (Below wS.heap.size wS W)) (fun iv _ => M - (intOf iv).toNat)
      case atStart => exact ⟨0, by omega, rfl, HB⟩
      case round =>
        clear HB
        obtain ⟨i, hi, rfl, HB⟩ := hrel
        by_cases hiM : i < M
        · have hiI : (i : Int) < (M : Int) := by omega
          obtain ⟨hk, ck, hc1, hc3, hcb, hcc, hrow, hlong⟩ := unhide HI wr i HB.out hiM
          generalize hgk : gI i = gk at hcb hrow
          have HGK := hide hgk
          have HROW := hide hrow
          have HLONG := hide hlong
          obtain ⟨m5, hm5⟩ : ∃ m5, m5 = m + 5 := ⟨_, rfl⟩
          rw [← hm5] at hcc
          have HM5 := hide hm5
          have hmm : (m : Int) < 4611686018427387904 := by omega
          clear hgk hrow hlong hm5 hm
          rename World => w1
          go_wp2_with fail
          go_loopw [9] (fun jv W => ∃ j : Nat, j ≤ m ∧ jv = .int .i64 (j : Int) ∧ Hid (Below w1.heap.size w1 W)) (fun jv _ => m - (intOf jv).toNat)
          case atStart => exact ⟨0, by omega, rfl, hide (Below.refl _ _)⟩
          case round =>
            obtain ⟨j, hj, rfl, HB2⟩ := hrel
            by_cases hjm : j < m
            · have hjI : (j : Int) < (m : Int) := by omega
              have hj2 : (j : Int) < (m5 : Int) := by have := HM5.out; omega
              obtain ⟨tr, hr1, hr2, htr⟩ := HROW.out j hjm
              have htr2 := htr.below HB2.out
              obtain ⟨wi, hwi⟩ : ∃ wi, IntKind.u8.wrap (i : Int) = wi := ⟨_, rfl⟩
              obtain ⟨wj, hwj⟩ : ∃ wj, IntKind.u8.wrap (j : Int) = wj := ⟨_, rfl⟩
              obtain ⟨st, hst⟩ : ∃ st, mkS [wi, wj, 77] = st := ⟨_, rfl⟩
              have HSS : Hid (∀ W, Below wr.heap.size wr W → (fun W => W.cell? ⟨sp, 1, none⟩ = some (.slice (some ⟨bI, 0, none⟩) M cI) ∧ W.cell? ⟨sp, 3, none⟩ = some (.slice (some ⟨bJ, 0, none⟩) M cJ) ∧ W.cell? ⟨bI, i, none⟩ = some (.slice (some ⟨gk, 0, none⟩) m m) ∧ W.cell? ⟨bJ, i, none⟩ = some (.slice (some ⟨hk, 0, none⟩) m5 ck) ∧ W.cell? ⟨gk, j, none⟩ = some (.slice (some ⟨tr, 0, none⟩) 3 3) ∧ W.cell? ⟨hk, j, none⟩ = some (.slice (some ⟨tr, 0, none⟩) 3 3) ∧ (convert 23 9 (.slice (some ⟨tr, 0, none⟩) 3 3)).run Try.prog W = .ok (.string st) W) W) := hide (fun W hW => ⟨bkept hW (bkept HB2.out hc1), bkept hW (bkept HB2.out hc3), bkept hW (bkept HB2.out hcb), bkept hW (bkept HB2.out hcc), bkept hW (bkept HB2.out hr1), bkept hW (bkept HB2.out hr2), by have h9 := tri_conv (htr2.below hW) (by decide); rw [hwi, hwj, hst] at h9; exact h9⟩)
              have hb3 : Below wr.heap.size wr (wr.drew.alloc (.cells #[.int .u8 wi, .int .u8 wj, .int .u8 77] 5)) := (Below.refl _ _).drew.alloc (by simp) _
              have hcv3 : (convert 23 9 (.slice (some ⟨wr.drew.heap.size, 0, none⟩) 3 3)).run Try.prog (wr.drew.alloc (.cells #[.int .u8 wi, .int .u8 wj, .int .u8 77] 5)) = .ok (.string st) (wr.drew.alloc (.cells #[.int .u8 wi, .int .u8 wj, .int .u8 77] 5)) := by
                have h9 : Arr (wr.drew.alloc (.cells #[.int .u8 wi, .int .u8 wj, .int .u8 77] 5)) wr.drew.heap.size 5 (tri i j 77) := by
                  unfold tri
                  rw [hwi, hwj]
                  exact Arr.new wr.drew [.int .u8 wi, .int .u8 wj, .int .u8 77] 5
                have h10 := tri_conv h9 (by decide)
                rw [hwi, hwj, hst] at h10
                exact h10
              have HB3 : Hid (Below w1.heap.size w1 (wr.drew.alloc (.cells #[.int .u8 wi, .int .u8 wj, .int .u8 77] 5))) := hide (HB2.out.trans (hb3.mono HB2.out.size))
              clear hr1 hr2 HB2 htr htr2 hst
              go_wp2_with fail
              refine wp_region_held_drew (S := fun W => W.cell? ⟨sp, 1, none⟩ = some (.slice (some ⟨bI, 0, none⟩) M cI) ∧ W.cell? ⟨sp, 3, none⟩ = some (.slice (some ⟨bJ, 0, none⟩) M cJ) ∧ W.cell? ⟨bI, i, none⟩ = some (.slice (some ⟨gk, 0, none⟩) m m) ∧ W.cell? ⟨bJ, i, none⟩ = some (.slice (some ⟨hk, 0, none⟩) m5 ck) ∧ W.cell? ⟨gk, j, none⟩ = some (.slice (some ⟨tr, 0, none⟩) 3 3) ∧ W.cell? ⟨hk, j, none⟩ = some (.slice (some ⟨tr, 0, none⟩) 3 3) ∧ (convert 23 9 (.slice (some ⟨tr, 0, none⟩) 3 3)).run Try.prog W = .ok (.string st) W) (by kernel_rfl) (unhide HSS _ (Below.refl _ _).drew) (fun hHeld => ?_)
              refine wpAnyH_take (i := 0) (v := .pointer (some ⟨sp, 0, none⟩)) rfl (by kernel_rfl) (by kernel_rfl) (by kernel_rfl) (fun _ _ _ h => h) (Or.inl ⟨by rfl, fun w hSw => by obtain ⟨hS1, hS2, hS3, hS4, hS5, hS6, hS7⟩ := hSw; go_simp⟩) (by assumption) ?_
              simp only [List.getElem_toArray, List.getElem_cons_zero, Act.put, List.setIfInBounds_toArray, List.set_cons_zero, List.set_cons_succ]
              refine wpAnyH_take (i := 1) (v := .pointer (some ⟨sp, 0, none⟩)) rfl (by kernel_rfl) (by kernel_rfl) (by kernel_rfl) (fun _ _ _ h => h) (Or.inl ⟨by rfl, fun w hSw => by obtain ⟨hS1, hS2, hS3, hS4, hS5, hS6, hS7⟩ := hSw; go_simp⟩) (by assumption) ?_
              simp only [List.getElem_toArray, List.getElem_cons_succ, List.getElem_cons_zero, Act.put, List.setIfInBounds_toArray, List.set_cons_zero, List.set_cons_succ]
              refine wpAnyH_take (i := 2) (v := .pointer (some ⟨sp, 1, none⟩)) rfl (by kernel_rfl) (by kernel_rfl) (by kernel_rfl) (fun _ _ _ h => h) (Or.inl ⟨by rfl, fun w hSw => by obtain ⟨hS1, hS2, hS3, hS4, hS5, hS6, hS7⟩ := hSw; go_simp⟩) (by assumption) ?_
              simp only [List.getElem_toArray, List.getElem_cons_succ, List.getElem_cons_zero, Act.put, List.setIfInBounds_toArray, List.set_cons_zero, List.set_cons_succ]
              refine wpAnyH_take (i := 3) (v := .slice (some ⟨bI, 0, none⟩) M cI) rfl (by kernel_rfl) (by kernel_rfl) (by kernel_rfl) (fun _ _ _ h => h) (Or.inl ⟨by rfl, fun w hSw => by obtain ⟨hS1, hS2, hS3, hS4, hS5, hS6, hS7⟩ := hSw; go_simp⟩) (by assumption) ?_
              simp only [List.getElem_toArray, List.getElem_cons_succ, List.getElem_cons_zero, Act.put, List.setIfInBounds_toArray, List.set_cons_zero, List.set_cons_succ]
              refine wpAnyH_take (i := 4) (v := .int .i64 (i : Int)) rfl (by kernel_rfl) (by kernel_rfl) (by kernel_rfl) (fun _ _ _ h => h) (Or.inl ⟨by rfl, fun w hSw => by obtain ⟨hS1, hS2, hS3, hS4, hS5, hS6, hS7⟩ := hSw; go_simp⟩) (by assumption) ?_
              simp only [List.getElem_toArray, List.getElem_cons_succ, List.getElem_cons_zero, Act.put, List.setIfInBounds_toArray, List.set_cons_zero, List.set_cons_succ]
              refine wpAnyH_take (i := 5) (v := .pointer (some ⟨bI, i, none⟩)) rfl (by kernel_rfl) (by kernel_rfl) (by kernel_rfl) (fun _ _ _ h => h) (Or.inl ⟨by rfl, fun w hSw => by obtain ⟨hS1, hS2, hS3, hS4, hS5, hS6, hS7⟩ := hSw; go_simp⟩) (by assumption) ?_
              simp only [List.getElem_toArray, List.getElem_cons_succ, List.getElem_cons_zero, Act.put, List.setIfInBounds_toArray, List.set_cons_zero, List.set_cons_succ]
              refine wpAnyH_take (i := 6) (v := .slice (some ⟨gk, 0, none⟩) m m) rfl (by kernel_rfl) (by kernel_rfl) (by kernel_rfl) (fun _ _ _ h => h) (Or.inl ⟨by rfl, fun w hSw => by obtain ⟨hS1, hS2, hS3, hS4, hS5, hS6, hS7⟩ := hSw; go_simp⟩) (by assumption) ?_
              simp only [List.getElem_toArray, List.getElem_cons_succ, List.getElem_cons_zero, Act.put, List.setIfInBounds_toArray, List.set_cons_zero, List.set_cons_succ]
              refine wpAnyH_take (i := 7) (v := .int .i64 (j : Int)) rfl (by kernel_rfl) (by kernel_rfl) (by kernel_rfl) (fun _ _ _ h => h) (Or.inl ⟨by rfl, fun w hSw => by obtain ⟨hS1, hS2, hS3, hS4, hS5, hS6, hS7⟩ := hSw; go_simp⟩) (by assumption) ?_
              simp only [List.getElem_toArray, List.getElem_cons_succ, List.getElem_cons_zero, Act.put, List.setIfInBounds_toArray, List.set_cons_zero, List.set_cons_succ]
              refine wpAnyH_take (i := 8) (v := .pointer (some ⟨gk, j, none⟩)) rfl (by kernel_rfl) (by kernel_rfl) (by kernel_rfl) (fun _ _ _ h => h) (Or.inl ⟨by rfl, fun w hSw => by obtain ⟨hS1, hS2, hS3, hS4, hS5, hS6, hS7⟩ := hSw; go_simp⟩) (by assumption) ?_
              simp only [List.getElem_toArray, List.getElem_cons_succ, List.getElem_cons_zero, Act.put, List.setIfInBounds_toArray, List.set_cons_zero, List.set_cons_succ]
              refine wpAnyH_take (i := 9) (v := .slice (some ⟨tr, 0, none⟩) 3 3) rfl (by kernel_rfl) (by kernel_rfl) (by kernel_rfl) (fun _ _ _ h => h) (Or.inl ⟨by rfl, fun w hSw => by obtain ⟨hS1, hS2, hS3, hS4, hS5, hS6, hS7⟩ := hSw; go_simp⟩) (by assumption) ?_
              simp only [List.getElem_toArray, List.getElem_cons_succ, List.getElem_cons_zero, Act.put, List.setIfInBounds_toArray, List.set_cons_zero, List.set_cons_succ]
              refine wpAnyH_take (i := 10) (v := .string st) rfl (by kernel_rfl) (by kernel_rfl) (by kernel_rfl) (fun _ _ _ h => h) (Or.inl ⟨by rfl, fun w hSw => by obtain ⟨hS1, hS2, hS3, hS4, hS5, hS6, hS7⟩ := hSw; go_simp⟩) (by assumption) ?_
              simp only [List.getElem_toArray, List.getElem_cons_succ, List.getElem_cons_zero, Act.put, List.setIfInBounds_toArray, List.set_cons_zero, List.set_cons_succ]
              refine wpAnyH_take (i := 11) (v := .int .i64 (i : Int)) rfl (by kernel_rfl) (by kernel_rfl) (by kernel_rfl) (fun _ _ _ h => h) (Or.inl ⟨by rfl, fun w hSw => by obtain ⟨hS1, hS2, hS3, hS4, hS5, hS6, hS7⟩ := hSw; go_simp⟩) (by assumption) ?_
              simp only [List.getElem_toArray, List.getElem_cons_succ, List.getElem_cons_zero, Act.put, List.setIfInBounds_toArray, List.set_cons_zero, List.set_cons_succ]
              refine wpAnyH_take (i := 12) (v := .int .u8 wi) rfl (by kernel_rfl) (by kernel_rfl) (by kernel_rfl) (fun _ _ _ h => h) (Or.inl ⟨by rfl, fun w hSw => by obtain ⟨hS1, hS2, hS3, hS4, hS5, hS6, hS7⟩ := hSw; go_simp⟩) (by assumption) ?_
              simp only [List.getElem_toArray, List.getElem_cons_succ, List.getElem_cons_zero, Act.put, List.setIfInBounds_toArray, List.set_cons_zero, List.set_cons_succ]
              refine wpAnyH_take (i := 13) (v := .int .i64 (j : Int)) rfl (by kernel_rfl) (by kernel_rfl) (by kernel_rfl) (fun _ _ _ h => h) (Or.inl ⟨by rfl, fun w hSw => by obtain ⟨hS1, hS2, hS3, hS4, hS5, hS6, hS7⟩ := hSw; go_simp⟩) (by assumption) ?_
              simp only [List.getElem_toArray, List.getElem_cons_succ, List.getElem_cons_zero, Act.put, List.setIfInBounds_toArray, List.set_cons_zero, List.set_cons_succ]
              refine wpAnyH_take (i := 14) (v := .int .u8 wj) rfl (by kernel_rfl) (by kernel_rfl) (by kernel_rfl) (fun _ _ _ h => h) (Or.inl ⟨by rfl, fun w hSw => by obtain ⟨hS1, hS2, hS3, hS4, hS5, hS6, hS7⟩ := hSw; go_simp⟩) (by assumption) ?_
              simp only [List.getElem_toArray, List.getElem_cons_succ, List.getElem_cons_zero, Act.put, List.setIfInBounds_toArray, List.set_cons_zero, List.set_cons_succ]
              refine wpAnyH_ready (rs := [15]) (by kernel_rfl) (by simp) (AllReadyH.cons rfl (fun K hK => ?_) AllReadyH.nil)
              refine step_build3 (by rfl) (.tmp 131) (.tmp 133) _ rfl rfl rfl rfl ?_
              refine hK.out _ _ (unhide HSS _ hb3) (fun hHeld2 => ?_)
              clear hK K
              simp only [List.getElem_toArray, List.getElem_cons_succ, List.getElem_cons_zero, Act.put, List.setIfInBounds_toArray, List.set_cons_zero, List.set_cons_succ]
              refine wpAnyH_ready (rs := [16]) (by kernel_rfl) (by simp) (AllReadyH.cons rfl (fun K hK => ?_) AllReadyH.nil)
              refine step_conv (by rfl) (.tmp 134) rfl rfl hcv3 ?_
              refine hK.out _ _ (hHeld2) (fun hHeld3 => ?_)
              clear hK K
              simp only [List.getElem_toArray, List.getElem_cons_succ, List.getElem_cons_zero, Act.put, List.setIfInBounds_toArray, List.set_cons_zero, List.set_cons_succ]
              refine wpAnyH_take (i := 17) (v := .bool false) rfl (by kernel_rfl) (by kernel_rfl) (by kernel_rfl) (fun _ _ _ h => h) (Or.inl ⟨by rfl, fun w hSw => by obtain ⟨hS1, hS2, hS3, hS4, hS5, hS6, hS7⟩ := hSw; go_simp⟩) (by assumption) ?_
              simp only [List.getElem_toArray, List.getElem_cons_succ, List.getElem_cons_zero, Act.put, List.setIfInBounds_toArray, List.set_cons_zero, List.set_cons_succ]
              refine wpAnyH_take (i := 18) (v := .bool false) rfl (by kernel_rfl) (by kernel_rfl) (by kernel_rfl) (fun _ _ _ h => h) (Or.inl ⟨by rfl, fun w hSw => by obtain ⟨hS1, hS2, hS3, hS4, hS5, hS6, hS7⟩ := hSw; go_simp⟩) (by assumption) ?_
              simp only [List.getElem_toArray, List.getElem_cons_succ, List.getElem_cons_zero, Act.put, List.setIfInBounds_toArray, List.set_cons_zero, List.set_cons_succ]
              refine wpAnyH_take (i := 19) (v := .pointer (some ⟨sp, 0, none⟩)) rfl (by kernel_rfl) (by kernel_rfl) (by kernel_rfl) (fun _ _ _ h => h) (Or.inl ⟨by rfl, fun w hSw => by obtain ⟨hS1, hS2, hS3, hS4, hS5, hS6, hS7⟩ := hSw; go_simp⟩) (by assumption) ?_
              simp only [List.getElem_toArray, List.getElem_cons_succ, List.getElem_cons_zero, Act.put, List.setIfInBounds_toArray, List.set_cons_zero, List.set_cons_succ]
              refine wpAnyH_take (i := 20) (v := .pointer (some ⟨sp, 0, none⟩)) rfl (by kernel_rfl) (by kernel_rfl) (by kernel_rfl) (fun _ _ _ h => h) (Or.inl ⟨by rfl, fun w hSw => by obtain ⟨hS1, hS2, hS3, hS4, hS5, hS6, hS7⟩ := hSw; go_simp⟩) (by assumption) ?_
              simp only [List.getElem_toArray, List.getElem_cons_succ, List.getElem_cons_zero, Act.put, List.setIfInBounds_toArray, List.set_cons_zero, List.set_cons_succ]
              refine wpAnyH_take (i := 21) (v := .pointer (some ⟨sp, 3, none⟩)) rfl (by kernel_rfl) (by kernel_rfl) (by kernel_rfl) (fun _ _ _ h => h) (Or.inl ⟨by rfl, fun w hSw => by obtain ⟨hS1, hS2, hS3, hS4, hS5, hS6, hS7⟩ := hSw; go_simp⟩) (by assumption) ?_
              simp only [List.getElem_toArray, List.getElem_cons_succ, List.getElem_cons_zero, Act.put, List.setIfInBounds_toArray, List.set_cons_zero, List.set_cons_succ]
              refine wpAnyH_take (i := 22) (v := .slice (some ⟨bJ, 0, none⟩) M cJ) rfl (by kernel_rfl) (by kernel_rfl) (by kernel_rfl) (fun _ _ _ h => h) (Or.inl ⟨by rfl, fun w hSw => by obtain ⟨hS1, hS2, hS3, hS4, hS5, hS6, hS7⟩ := hSw; go_simp⟩) (by assumption) ?_
              simp only [List.getElem_toArray, List.getElem_cons_succ, List.getElem_cons_zero, Act.put, List.setIfInBounds_toArray, List.set_cons_zero, List.set_cons_succ]
              refine wpAnyH_take (i := 23) (v := .int .i64 (i : Int)) rfl (by kernel_rfl) (by kernel_rfl) (by kernel_rfl) (fun _ _ _ h => h) (Or.inl ⟨by rfl, fun w hSw => by obtain ⟨hS1, hS2, hS3, hS4, hS5, hS6, hS7⟩ := hSw; go_simp⟩) (by assumption) ?_
              simp only [List.getElem_toArray, List.getElem_cons_succ, List.getElem_cons_zero, Act.put, List.setIfInBounds_toArray, List.set_cons_zero, List.set_cons_succ]
              refine wpAnyH_take (i := 24) (v := .pointer (some ⟨bJ, i, none⟩)) rfl (by kernel_rfl) (by kernel_rfl) (by kernel_rfl) (fun _ _ _ h => h) (Or.inl ⟨by rfl, fun w hSw => by obtain ⟨hS1, hS2, hS3, hS4, hS5, hS6, hS7⟩ := hSw; go_simp⟩) (by assumption) ?_
              simp only [List.getElem_toArray, List.getElem_cons_succ, List.getElem_cons_zero, Act.put, List.setIfInBounds_toArray, List.set_cons_zero, List.set_cons_succ]
              refine wpAnyH_take (i := 25) (v := .slice (some ⟨hk, 0, none⟩) m5 ck) rfl (by kernel_rfl) (by kernel_rfl) (by kernel_rfl) (fun _ _ _ h => h) (Or.inl ⟨by rfl, fun w hSw => by obtain ⟨hS1, hS2, hS3, hS4, hS5, hS6, hS7⟩ := hSw; go_simp⟩) (by assumption) ?_
              simp only [List.getElem_toArray, List.getElem_cons_succ, List.getElem_cons_zero, Act.put, List.setIfInBounds_toArray, List.set_cons_zero, List.set_cons_succ]
              refine wpAnyH_take (i := 26) (v := .int .i64 (j : Int)) rfl (by kernel_rfl) (by kernel_rfl) (by kernel_rfl) (fun _ _ _ h => h) (Or.inl ⟨by rfl, fun w hSw => by obtain ⟨hS1, hS2, hS3, hS4, hS5, hS6, hS7⟩ := hSw; go_simp⟩) (by assumption) ?_
              simp only [List.getElem_toArray, List.getElem_cons_succ, List.getElem_cons_zero, Act.put, List.setIfInBounds_toArray, List.set_cons_zero, List.set_cons_succ]
              refine wpAnyH_take (i := 27) (v := .pointer (some ⟨hk, j, none⟩)) rfl (by kernel_rfl) (by kernel_rfl) (by kernel_rfl) (fun _ _ _ h => h) (Or.inl ⟨by rfl, fun w hSw => by obtain ⟨hS1, hS2, hS3, hS4, hS5, hS6, hS7⟩ := hSw; go_simp⟩) (by assumption) ?_
              simp only [List.getElem_toArray, List.getElem_cons_succ, List.getElem_cons_zero, Act.put, List.setIfInBounds_toArray, List.set_cons_zero, List.set_cons_succ]
              refine wpAnyH_take (i := 28) (v := .slice (some ⟨tr, 0, none⟩) 3 3) rfl (by kernel_rfl) (by kernel_rfl) (by kernel_rfl) (fun _ _ _ h => h) (Or.inl ⟨by rfl, fun w hSw => by obtain ⟨hS1, hS2, hS3, hS4, hS5, hS6, hS7⟩ := hSw; go_simp⟩) (by assumption) ?_
              simp only [List.getElem_toArray, List.getElem_cons_succ, List.getElem_cons_zero, Act.put, List.setIfInBounds_toArray, List.set_cons_zero, List.set_cons_succ]
              refine wpAnyH_take (i := 29) (v := .string st) rfl (by kernel_rfl) (by kernel_rfl) (by kernel_rfl) (fun _ _ _ h => h) (Or.inl ⟨by rfl, fun w hSw => by obtain ⟨hS1, hS2, hS3, hS4, hS5, hS6, hS7⟩ := hSw; go_simp⟩) (by assumption) ?_
              simp only [List.getElem_toArray, List.getElem_cons_succ, List.getElem_cons_zero, Act.put, List.setIfInBounds_toArray, List.set_cons_zero, List.set_cons_succ]
              refine wpAnyH_take (i := 30) (v := .pointer (some ⟨sp, 0, none⟩)) rfl (by kernel_rfl) (by kernel_rfl) (by kernel_rfl) (fun _ _ _ h => h) (Or.inl ⟨by rfl, fun w hSw => by obtain ⟨hS1, hS2, hS3, hS4, hS5, hS6, hS7⟩ := hSw; go_simp⟩) (by assumption) ?_
              simp only [List.getElem_toArray, List.getElem_cons_succ, List.getElem_cons_zero, Act.put, List.setIfInBounds_toArray, List.set_cons_zero, List.set_cons_succ]
              refine wpAnyH_take (i := 31) (v := .pointer (some ⟨sp, 0, none⟩)) rfl (by kernel_rfl) (by kernel_rfl) (by kernel_rfl) (fun _ _ _ h => h) (Or.inl ⟨by rfl, fun w hSw => by obtain ⟨hS1, hS2, hS3, hS4, hS5, hS6, hS7⟩ := hSw; go_simp⟩) (by assumption) ?_
              simp only [List.getElem_toArray, List.getElem_cons_succ, List.getElem_cons_zero, Act.put, List.setIfInBounds_toArray, List.set_cons_zero, List.set_cons_succ]
              refine wpAnyH_take (i := 32) (v := .pointer (some ⟨sp, 1, none⟩)) rfl (by kernel_rfl) (by kernel_rfl) (by kernel_rfl) (fun _ _ _ h => h) (Or.inl ⟨by rfl, fun w hSw => by obtain ⟨hS1, hS2, hS3, hS4, hS5, hS6, hS7⟩ := hSw; go_simp⟩) (by assumption) ?_
              simp only [List.getElem_toArray, List.getElem_cons_succ, List.getElem_cons_zero, Act.put, List.setIfInBounds_toArray, List.set_cons_zero, List.set_cons_succ]
              refine wpAnyH_take (i := 33) (v := .slice (some ⟨bI, 0, none⟩) M cI) rfl (by kernel_rfl) (by kernel_rfl) (by kernel_rfl) (fun _ _ _ h => h) (Or.inl ⟨by rfl, fun w hSw => by obtain ⟨hS1, hS2, hS3, hS4, hS5, hS6, hS7⟩ := hSw; go_simp⟩) (by assumption) ?_
              simp only [List.getElem_toArray, List.getElem_cons_succ, List.getElem_cons_zero, Act.put, List.setIfInBounds_toArray, List.set_cons_zero, List.set_cons_succ]
              refine wpAnyH_take (i := 34) (v := .int .i64 (i : Int)) rfl (by kernel_rfl) (by kernel_rfl) (by kernel_rfl) (fun _ _ _ h => h) (Or.inl ⟨by rfl, fun w hSw => by obtain ⟨hS1, hS2, hS3, hS4, hS5, hS6, hS7⟩ := hSw; go_simp⟩) (by assumption) ?_
              simp only [List.getElem_toArray, List.getElem_cons_succ, List.getElem_cons_zero, Act.put, List.setIfInBounds_toArray, List.set_cons_zero, List.set_cons_succ]
              refine wpAnyH_take (i := 35) (v := .pointer (some ⟨bI, i, none⟩)) rfl (by kernel_rfl) (by kernel_rfl) (by kernel_rfl) (fun _ _ _ h => h) (Or.inl ⟨by rfl, fun w hSw => by obtain ⟨hS1, hS2, hS3, hS4, hS5, hS6, hS7⟩ := hSw; go_simp⟩) (by assumption) ?_
              simp only [List.getElem_toArray, List.getElem_cons_succ, List.getElem_cons_zero, Act.put, List.setIfInBounds_toArray, List.set_cons_zero, List.set_cons_succ]
              refine wpAnyH_take (i := 36) (v := .slice (some ⟨gk, 0, none⟩) m m) rfl (by kernel_rfl) (by kernel_rfl) (by kernel_rfl) (fun _ _ _ h => h) (Or.inl ⟨by rfl, fun w hSw => by obtain ⟨hS1, hS2, hS3, hS4, hS5, hS6, hS7⟩ := hSw; go_simp⟩) (by assumption) ?_
              simp only [List.getElem_toArray, List.getElem_cons_succ, List.getElem_cons_zero, Act.put, List.setIfInBounds_toArray, List.set_cons_zero, List.set_cons_succ]
              refine wpAnyH_take (i := 37) (v := .int .i64 (j : Int)) rfl (by kernel_rfl) (by kernel_rfl) (by kernel_rfl) (fun _ _ _ h => h) (Or.inl ⟨by rfl, fun w hSw => by obtain ⟨hS1, hS2, hS3, hS4, hS5, hS6, hS7⟩ := hSw; go_simp⟩) (by assumption) ?_
              simp only [List.getElem_toArray, List.getElem_cons_succ, List.getElem_cons_zero, Act.put, List.setIfInBounds_toArray, List.set_cons_zero, List.set_cons_succ]
              refine wpAnyH_take (i := 38) (v := .pointer (some ⟨gk, j, none⟩)) rfl (by kernel_rfl) (by kernel_rfl) (by kernel_rfl) (fun _ _ _ h => h) (Or.inl ⟨by rfl, fun w hSw => by obtain ⟨hS1, hS2, hS3, hS4, hS5, hS6, hS7⟩ := hSw; go_simp⟩) (by assumption) ?_
              simp only [List.getElem_toArray, List.getElem_cons_succ, List.getElem_cons_zero, Act.put, List.setIfInBounds_toArray, List.set_cons_zero, List.set_cons_succ]
              refine wpAnyH_take (i := 39) (v := .slice (some ⟨tr, 0, none⟩) 3 3) rfl (by kernel_rfl) (by kernel_rfl) (by kernel_rfl) (fun _ _ _ h => h) (Or.inl ⟨by rfl, fun w hSw => by obtain ⟨hS1, hS2, hS3, hS4, hS5, hS6, hS7⟩ := hSw; go_simp⟩) (by assumption) ?_
              simp only [List.getElem_toArray, List.getElem_cons_succ, List.getElem_cons_zero, Act.put, List.setIfInBounds_toArray, List.set_cons_zero, List.set_cons_succ]
              refine wpAnyH_take (i := 40) (v := .string st) rfl (by kernel_rfl) (by kernel_rfl) (by kernel_rfl) (fun _ _ _ h => h) (Or.inl ⟨by rfl, fun w hSw => by obtain ⟨hS1, hS2, hS3, hS4, hS5, hS6, hS7⟩ := hSw; go_simp⟩) (by assumption) ?_
              simp only [List.getElem_toArray, List.getElem_cons_succ, List.getElem_cons_zero, Act.put, List.setIfInBounds_toArray, List.set_cons_zero, List.set_cons_succ]
              refine wpAnyH_take (i := 41) (v := .bool false) rfl (by kernel_rfl) (by kernel_rfl) (by kernel_rfl) (fun _ _ _ h => h) (Or.inl ⟨by rfl, fun w hSw => by obtain ⟨hS1, hS2, hS3, hS4, hS5, hS6, hS7⟩ := hSw; go_simp⟩) (by assumption) ?_
              simp only [List.getElem_toArray, List.getElem_cons_succ, List.getElem_cons_zero, Act.put, List.setIfInBounds_toArray, List.set_cons_zero, List.set_cons_succ]
              refine wpAnyH_take (i := 42) (v := .bool false) rfl (by kernel_rfl) (by kernel_rfl) (by kernel_rfl) (fun _ _ _ h => h) (Or.inl ⟨by rfl, fun w hSw => by obtain ⟨hS1, hS2, hS3, hS4, hS5, hS6, hS7⟩ := hSw; go_simp⟩) (by assumption) ?_
              simp only [List.getElem_toArray, List.getElem_cons_succ, List.getElem_cons_zero, Act.put, List.setIfInBounds_toArray, List.set_cons_zero, List.set_cons_succ]
              refine wpAnyH_done (by kernel_rfl) ?_ _
              clear hHeld hHeld2 hHeld3
              go_wp2
              go_roundw
              case rel => exact ⟨j + 1, by omega, by go_num, HB3⟩
              case measure => simp [intOf]; omega
            · have hjN : ¬ (j : Int) < (m : Int) := by omega
              go_wp2_with fail
              clear hjN hjm
              rename World => w2
              go_loopw [10] (fun jv W => ∃ j : Nat, j ≤ 5 ∧ jv = .int .i64 (j : Int) ∧ Hid (Below w1.heap.size w1 W)) (fun jv _ => 5 - (intOf jv).toNat)
              case atStart => exact ⟨0, by omega, rfl, HB2⟩
              case round =>
                clear hj HB2
                rename Nat => jo
                obtain ⟨j, hj, rfl, HB2⟩ := hrel
                by_cases hj5 : j < 5
                · have hjI : (j : Int) < 5 := by omega
                  obtain ⟨tr, hr1, htr⟩ := HLONG.out j hj5
                  have htr2 := htr.below HB2.out
                  obtain ⟨s, hs⟩ : ∃ s, s = m + j := ⟨_, rfl⟩
                  have hws : IntKind.i64.wrap ((m : Int) + (j : Int)) = (s : Int) := by have := HM0.out; rw [IntKind.wrap_i64]; omega
                  have hs5 : (s : Int) < (m5 : Int) := by have := HM5.out; omega
                  rw [← hs] at hr1
                  clear hs
                  obtain ⟨wi, hwi⟩ : ∃ wi, IntKind.u8.wrap (i : Int) = wi := ⟨_, rfl⟩
                  obtain ⟨wj, hwj⟩ : ∃ wj, IntKind.u8.wrap (j : Int) = wj := ⟨_, rfl⟩
                  obtain ⟨st, hst⟩ : ∃ st, mkS [wi, wj, 88] = st := ⟨_, rfl⟩
                  have HSS : Hid (∀ W, Below wr.heap.size wr W → (fun W => W.cell? ⟨sp, 3, none⟩ = some (.slice (some ⟨bJ, 0, none⟩) M cJ) ∧ W.cell? ⟨bJ, i, none⟩ = some (.slice (some ⟨hk, 0, none⟩) m5 ck) ∧ W.cell? ⟨hk, s, none⟩ = some (.slice (some ⟨tr, 0, none⟩) 3 3) ∧ (convert 23 9 (.slice (some ⟨tr, 0, none⟩) 3 3)).run Try.prog W = .ok (.string st) W) W) := hide (fun W hW => ⟨bkept hW (bkept HB2.out hc3), bkept hW (bkept HB2.out hcc), bkept hW (bkept HB2.out hr1), by have h9 := tri_conv (htr2.below hW) (by decide); rw [hwi, hwj, hst] at h9; exact h9⟩)
                  have hb3 : Below wr.heap.size wr (wr.drew.alloc (.cells #[.int .u8 wi, .int .u8 wj, .int .u8 88] 5)) := (Below.refl _ _).drew.alloc (by simp) _
                  have hcv3 : (convert 23 9 (.slice (some ⟨wr.drew.heap.size, 0, none⟩) 3 3)).run Try.prog (wr.drew.alloc (.cells #[.int .u8 wi, .int .u8 wj, .int .u8 88] 5)) = .ok (.string st) (wr.drew.alloc (.cells #[.int .u8 wi, .int .u8 wj, .int .u8 88] 5)) := by
                    have h9 : Arr (wr.drew.alloc (.cells #[.int .u8 wi, .int .u8 wj, .int .u8 88] 5)) wr.drew.heap.size 5 (tri i j 88) := by
                      unfold tri
                      rw [hwi, hwj]
                      exact Arr.new wr.drew [.int .u8 wi, .int .u8 wj, .int .u8 88] 5
                    have h10 := tri_conv h9 (by decide)
                    rw [hwi, hwj, hst] at h10
                    exact h10
                  have HB3 : Hid (Below w1.heap.size w1 (wr.drew.alloc (.cells #[.int .u8 wi, .int .u8 wj, .int .u8 88] 5))) := hide (HB2.out.trans (hb3.mono HB2.out.size))
                  clear hr1 HB2 htr htr2 hst
                  go_wp2_with fail
                  refine wp_region_held_drew (S := fun W => W.cell? ⟨sp, 3, none⟩ = some (.slice (some ⟨bJ, 0, none⟩) M cJ) ∧ W.cell? ⟨bJ, i, none⟩ = some (.slice (some ⟨hk, 0, none⟩) m5 ck) ∧ W.cell? ⟨hk, s, none⟩ = some (.slice (some ⟨tr, 0, none⟩) 3 3) ∧ (convert 23 9 (.slice (some ⟨tr, 0, none⟩) 3 3)).run Try.prog W = .ok (.string st) W) (by kernel_rfl) (unhide HSS _ (Below.refl _ _).drew) (fun hHeld => ?_)
                  refine wpAnyH_take (i := 0) (v := .pointer (some ⟨sp, 0, none⟩)) rfl (by kernel_rfl) (by kernel_rfl) (by kernel_rfl) (fun _ _ _ h => h) (Or.inl ⟨by rfl, fun w hSw => by obtain ⟨hS1, hS2, hS3, hS4⟩ := hSw; go_simp⟩) (by assumption) ?_
                  simp only [List.getElem_toArray, List.getElem_cons_zero, Act.put, List.setIfInBounds_toArray, List.set_cons_zero, List.set_cons_succ]
                  refine wpAnyH_take (i := 1) (v := .pointer (some ⟨sp, 0, none⟩)) rfl (by kernel_rfl) (by kernel_rfl) (by kernel_rfl) (fun _ _ _ h => h) (Or.inl ⟨by rfl, fun w hSw => by obtain ⟨hS1, hS2, hS3, hS4⟩ := hSw; go_simp⟩) (by assumption) ?_
                  simp only [List.getElem_toArray, List.getElem_cons_succ, List.getElem_cons_zero, Act.put, List.setIfInBounds_toArray, List.set_cons_zero, List.set_cons_succ]
                  refine wpAnyH_take (i := 2) (v := .pointer (some ⟨sp, 3, none⟩)) rfl (by kernel_rfl) (by kernel_rfl) (by kernel_rfl) (fun _ _ _ h => h) (Or.inl ⟨by rfl, fun w hSw => by obtain ⟨hS1, hS2, hS3, hS4⟩ := hSw; go_simp⟩) (by assumption) ?_
                  simp only [List.getElem_toArray, List.getElem_cons_succ, List.getElem_cons_zero, Act.put, List.setIfInBounds_toArray, List.set_cons_zero, List.set_cons_succ]
                  refine wpAnyH_take (i := 3) (v := .slice (some ⟨bJ, 0, none⟩) M cJ) rfl (by kernel_rfl) (by kernel_rfl) (by kernel_rfl) (fun _ _ _ h => h) (Or.inl ⟨by rfl, fun w hSw => by obtain ⟨hS1, hS2, hS3, hS4⟩ := hSw; go_simp⟩) (by assumption) ?_
                  simp only [List.getElem_toArray, List.getElem_cons_succ, List.getElem_cons_zero, Act.put, List.setIfInBounds_toArray, List.set_cons_zero, List.set_cons_succ]
                  refine wpAnyH_take (i := 4) (v := .int .i64 (i : Int)) rfl (by kernel_rfl) (by kernel_rfl) (by kernel_rfl) (fun _ _ _ h => h) (Or.inl ⟨by rfl, fun w hSw => by obtain ⟨hS1, hS2, hS3, hS4⟩ := hSw; go_simp⟩) (by assumption) ?_
                  simp only [List.getElem_toArray, List.getElem_cons_succ, List.getElem_cons_zero, Act.put, List.setIfInBounds_toArray, List.set_cons_zero, List.set_cons_succ]
                  refine wpAnyH_take (i := 5) (v := .pointer (some ⟨bJ, i, none⟩)) rfl (by kernel_rfl) (by kernel_rfl) (by kernel_rfl) (fun _ _ _ h => h) (Or.inl ⟨by rfl, fun w hSw => by obtain ⟨hS1, hS2, hS3, hS4⟩ := hSw; go_simp⟩) (by assumption) ?_
                  simp only [List.getElem_toArray, List.getElem_cons_succ, List.getElem_cons_zero, Act.put, List.setIfInBounds_toArray, List.set_cons_zero, List.set_cons_succ]
                  refine wpAnyH_take (i := 6) (v := .slice (some ⟨hk, 0, none⟩) m5 ck) rfl (by kernel_rfl) (by kernel_rfl) (by kernel_rfl) (fun _ _ _ h => h) (Or.inl ⟨by rfl, fun w hSw => by obtain ⟨hS1, hS2, hS3, hS4⟩ := hSw; go_simp⟩) (by assumption) ?_
                  simp only [List.getElem_toArray, List.getElem_cons_succ, List.getElem_cons_zero, Act.put, List.setIfInBounds_toArray, List.set_cons_zero, List.set_cons_succ]
                  refine wpAnyH_take (i := 7) (v := .int .i64 (m : Int)) rfl (by kernel_rfl) (by kernel_rfl) (by kernel_rfl) (fun _ _ _ h => h) (Or.inl ⟨by rfl, fun w hSw => by obtain ⟨hS1, hS2, hS3, hS4⟩ := hSw; go_simp⟩) (by assumption) ?_
                  simp only [List.getElem_toArray, List.getElem_cons_succ, List.getElem_cons_zero, Act.put, List.setIfInBounds_toArray, List.set_cons_zero, List.set_cons_succ]
                  refine wpAnyH_take (i := 8) (v := .int .i64 (j : Int)) rfl (by kernel_rfl) (by kernel_rfl) (by kernel_rfl) (fun _ _ _ h => h) (Or.inl ⟨by rfl, fun w hSw => by obtain ⟨hS1, hS2, hS3, hS4⟩ := hSw; go_simp⟩) (by assumption) ?_
                  simp only [List.getElem_toArray, List.getElem_cons_succ, List.getElem_cons_zero, Act.put, List.setIfInBounds_toArray, List.set_cons_zero, List.set_cons_succ]
                  refine wpAnyH_take (i := 9) (v := .int .i64 (s : Int)) rfl (by kernel_rfl) (by kernel_rfl) (by kernel_rfl) (fun _ _ _ h => h) (Or.inl ⟨by rfl, fun w hSw => by obtain ⟨hS1, hS2, hS3, hS4⟩ := hSw; go_simp⟩) (by assumption) ?_
                  simp only [List.getElem_toArray, List.getElem_cons_succ, List.getElem_cons_zero, Act.put, List.setIfInBounds_toArray, List.set_cons_zero, List.set_cons_succ]
                  refine wpAnyH_take (i := 10) (v := .pointer (some ⟨hk, s, none⟩)) rfl (by kernel_rfl) (by kernel_rfl) (by kernel_rfl) (fun _ _ _ h => h) (Or.inl ⟨by rfl, fun w hSw => by obtain ⟨hS1, hS2, hS3, hS4⟩ := hSw; go_simp⟩) (by assumption) ?_
                  simp only [List.getElem_toArray, List.getElem_cons_succ, List.getElem_cons_zero, Act.put, List.setIfInBounds_toArray, List.set_cons_zero, List.set_cons_succ]
                  refine wpAnyH_take (i := 11) (v := .slice (some ⟨tr, 0, none⟩) 3 3) rfl (by kernel_rfl) (by kernel_rfl) (by kernel_rfl) (fun _ _ _ h => h) (Or.inl ⟨by rfl, fun w hSw => by obtain ⟨hS1, hS2, hS3, hS4⟩ := hSw; go_simp⟩) (by assumption) ?_
                  simp only [List.getElem_toArray, List.getElem_cons_succ, List.getElem_cons_zero, Act.put, List.setIfInBounds_toArray, List.set_cons_zero, List.set_cons_succ]
                  refine wpAnyH_take (i := 12) (v := .string st) rfl (by kernel_rfl) (by kernel_rfl) (by kernel_rfl) (fun _ _ _ h => h) (Or.inl ⟨by rfl, fun w hSw => by obtain ⟨hS1, hS2, hS3, hS4⟩ := hSw; go_simp⟩) (by assumption) ?_
                  simp only [List.getElem_toArray, List.getElem_cons_succ, List.getElem_cons_zero, Act.put, List.setIfInBounds_toArray, List.set_cons_zero, List.set_cons_succ]
                  refine wpAnyH_take (i := 13) (v := .int .i64 (i : Int)) rfl (by kernel_rfl) (by kernel_rfl) (by kernel_rfl) (fun _ _ _ h => h) (Or.inl ⟨by rfl, fun w hSw => by obtain ⟨hS1, hS2, hS3, hS4⟩ := hSw; go_simp⟩) (by assumption) ?_
                  simp only [List.getElem_toArray, List.getElem_cons_succ, List.getElem_cons_zero, Act.put, List.setIfInBounds_toArray, List.set_cons_zero, List.set_cons_succ]
                  refine wpAnyH_take (i := 14) (v := .int .u8 wi) rfl (by kernel_rfl) (by kernel_rfl) (by kernel_rfl) (fun _ _ _ h => h) (Or.inl ⟨by rfl, fun w hSw => by obtain ⟨hS1, hS2, hS3, hS4⟩ := hSw; go_simp⟩) (by assumption) ?_
                  simp only [List.getElem_toArray, List.getElem_cons_succ, List.getElem_cons_zero, Act.put, List.setIfInBounds_toArray, List.set_cons_zero, List.set_cons_succ]
                  refine wpAnyH_take (i := 15) (v := .int .i64 (j : Int)) rfl (by kernel_rfl) (by kernel_rfl) (by kernel_rfl) (fun _ _ _ h => h) (Or.inl ⟨by rfl, fun w hSw => by obtain ⟨hS1, hS2, hS3, hS4⟩ := hSw; go_simp⟩) (by assumption) ?_
                  simp only [List.getElem_toArray, List.getElem_cons_succ, List.getElem_cons_zero, Act.put, List.setIfInBounds_toArray, List.set_cons_zero, List.set_cons_succ]
                  refine wpAnyH_take (i := 16) (v := .int .u8 wj) rfl (by kernel_rfl) (by kernel_rfl) (by kernel_rfl) (fun _ _ _ h => h) (Or.inl ⟨by rfl, fun w hSw => by obtain ⟨hS1, hS2, hS3, hS4⟩ := hSw; go_simp⟩) (by assumption) ?_
                  simp only [List.getElem_toArray, List.getElem_cons_succ, List.getElem_cons_zero, Act.put, List.setIfInBounds_toArray, List.set_cons_zero, List.set_cons_succ]
                  refine wpAnyH_ready (rs := [17]) (by kernel_rfl) (by simp) (AllReadyH.cons rfl (fun K hK => ?_) AllReadyH.nil)
                  refine step_build3 (by rfl) (.tmp 180) (.tmp 182) _ rfl rfl rfl rfl ?_
                  refine hK.out _ _ (unhide HSS _ hb3) (fun hHeld2 => ?_)
                  clear hK K
                  simp only [List.getElem_toArray, List.getElem_cons_succ, List.getElem_cons_zero, Act.put, List.setIfInBounds_toArray, List.set_cons_zero, List.set_cons_succ]
                  refine wpAnyH_ready (rs := [18]) (by kernel_rfl) (by simp) (AllReadyH.cons rfl (fun K hK => ?_) AllReadyH.nil)
                  refine step_conv (by rfl) (.tmp 183) rfl rfl hcv3 ?_
                  refine hK.out _ _ (hHeld2) (fun hHeld3 => ?_)
                  clear hK K
                  simp only [List.getElem_toArray, List.getElem_cons_succ, List.getElem_cons_zero, Act.put, List.setIfInBounds_toArray, List.set_cons_zero, List.set_cons_succ]
                  refine wpAnyH_take (i := 19) (v := .bool false) rfl (by kernel_rfl) (by kernel_rfl) (by kernel_rfl) (fun _ _ _ h => h) (Or.inl ⟨by rfl, fun w hSw => by obtain ⟨hS1, hS2, hS3, hS4⟩ := hSw; go_simp⟩) (by assumption) ?_
                  simp only [List.getElem_toArray, List.getElem_cons_succ, List.getElem_cons_zero, Act.put, List.setIfInBounds_toArray, List.set_cons_zero, List.set_cons_succ]
                  refine wpAnyH_done (by kernel_rfl) ?_ _
                  clear hHeld hHeld2 hHeld3
                  go_wp2
                  go_roundw
                  case rel => exact ⟨j + 1, by omega, by go_num, HB3⟩
                  case measure => simp [intOf]; omega
                · have hjN : ¬ (j : Int) < 5 := by omega
                  have HB4 : Hid (Below wS.heap.size wS wr) := hide (HB.out.trans (HB2.out.mono HB.out.size))
                  go_wp2
                  go_roundw
                  case rel => exact ⟨i + 1, by omega, by go_num, HB4⟩
                  case measure => simp [intOf]; omega
        · have hiM2 : ¬ (i : Int) < (M : Int) := by omega
          have hc3 := (unhide HC wr HB.out).2
          go_wp2
          go_ret
          exact ⟨rfl, HB.out⟩
end Go.Proofs.Ytfgjhlnaaopdeab
