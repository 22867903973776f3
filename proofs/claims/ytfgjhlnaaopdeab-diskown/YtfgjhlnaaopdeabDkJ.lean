/- A disk and the document's beside it: a Read of both. -/
import Derived.Test.YtfgjhlnaaopdeabDkH
import Derived.Deep.DeepCutAuto
namespace Go.Proofs.Ytfgjhlnaaopdeab
open Go.RowKit Go.Maps

/-- The program's disk and the document's. -/
structure Pr (w : World) (g p gl gm : Nat) (V : Nat → Value) (D : AD) (R : RD) : Prop where
  blk : ∃ a1 n1 c1 a2 n2 c2, Arr w g 89 (.pointer (some ⟨p, 0, none⟩) :: rdC R.n a1 n1 c1 a2 n2 c2 R.rd R.wt R.fl) ∧ IsAts w (.slice a1 n1 c1) R.la ∧ IsAts w (.slice a2 n2 c2) R.wr
  dk : Dk w p gl gm V D
  rel : Rel D R
def Fp (g p gl gm : Nat) (V : Nat → Value) (b : Nat) : Prop := b = g ∨ Ft p gl gm V b
theorem wpList_storeRow {ops : Array Oper} {rest : List Oper} {o : Oper} {a : Act} {w : World} {Q : Exit → Act → World → Prop} (hgd : o.guard = none) (x y : Operand) (t : TypeId) (ho : o.op = .store t x y) {b of : Nat} {cs : List Value} (hx : a.eval x = .pointer (some ⟨b, of, none⟩)) (hy : a.eval y = .agg cs.toArray) (ht : w.there b of cs.length) (hi : (Try.prog.info? t).map (·.size) = some cs.length) (h1 : ∀ u ∈ cs, u.oneCell' = true)
    (hk : wpList Try.prog ops Q rest (a.put o.dst undef) (w.setCells b of cs)) : wpList Try.prog ops Q (o :: rest) a w :=
  wpList_store_mid hgd t x y ho b of cs.toArray hx hy (by rw [List.size_toArray]; exact ht) (by rw [List.size_toArray]; exact hi) (all_oneCell_toArray h1) hk
theorem Arr.setTail {w : World} {g : Nat} {t : TypeId} {c : Value} {cs : List Value} (h : Arr w g t (c :: cs)) {ds : List Value} (hl : ds.length = cs.length) : Arr (w.setCells g 1 ds) g t (c :: ds) := by
  obtain ⟨c2, h1, h2, h3⟩ := setCells_row ds 1 w (c :: cs).toArray h (by simp; omega)
  unfold Arr
  rw [h1]
  congr 2
  apply Array.ext_getElem?
  intro q
  rw [h3 q]
  cases q with
  | zero => rw [if_neg (by omega)]; simp
  | succ q =>
    by_cases hq : q < ds.length
    · rw [if_pos (by omega)]; simp
    · rw [if_neg (by omega), Array.getElem?_eq_none (by simp; omega), Array.getElem?_eq_none (by simp; omega)]
theorem IsB.otherB {w w' : World} {g p : Nat} {v : Value} {xs : List Int} {n : Int} {a1 a2 : Option Addr} {n1 c1 n2 c2 : Nat} {rd wt fl : Int} (h : IsB w v xs) (hg : w.grownBy w' (some g)) (hc : Arr w g 89 (.pointer (some ⟨p, 0, none⟩) :: rdC n a1 n1 c1 a2 n2 c2 rd wt fl)) : IsB w' v xs := by
  obtain ⟨h1, a, cap, hv, hl, hm, hz, hcs⟩ := h
  refine ⟨h1, a, cap, hv, hl, hm, hz, fun hp => ?_⟩
  obtain ⟨b, off, ha, hcell⟩ := hcs hp
  have hne : b ≠ g := fun e => by
    subst e
    have h0 := hcell 0 hp
    rw [hc.cell] at h0
    have hm := List.mem_of_getElem? h0
    simp only [rdC, List.mem_cons, List.not_mem_nil, or_false] at hm
    rcases hm with h | h | h | h | h | h | h <;> first | cases h | (injection h with h; cases h)
  exact ⟨b, off, ha, fun j hj => hg.cell (hcell j hj) (by simpa using hne)⟩
theorem drew_size (w : World) : w.drew.heap.size = w.heap.size := rfl
def z36 : List Value := [.int .i64 0, .slice none 0 0, .slice none 0 0, .int .i64 0, .int .i64 0, .int .i64 0]
theorem rread_enter (v u : Value) (W : World) : (callFunc 40 #[v, u]).run Try.prog W = .ok (.enter 40 #[v, u]) W := by kernel_rfl
theorem read_enter (v u : Value) (W : World) : (callFunc 20 #[v, u]).run Try.prog W = .ok (.enter 20 #[v, u]) W := by kernel_rfl
section
variable {ops : Array Oper} {o : Oper} {a : Act} {w : World} {K : Act → World → Prop} {Q : Exit → Act → World → Prop} {E : Prop}
theorem alloc36_run (W : World) : (Instr.alloc 85 true (.tuple #[])).run Try.prog W = .ok (.pointer (some ⟨W.heap.size, 0, none⟩)) (W.alloc (.cells z36.toArray 85)) := by kernel_rfl
theorem step_alloc36 (hgd : o.guard = none) (ho : o.op = .alloc 85) (hk : K (a.put o.dst (.pointer (some ⟨w.heap.size, 0, none⟩))) (w.alloc (.cells z36.toArray 85))) : if Region.wanted o (yielded ops a.tmps) = true then Oper.wp Try.prog o a w K Q else E := by
  rw [if_pos (by simp [Region.wanted, hgd])]
  unfold Oper.wp execOp
  simp only [ho, Sem.run_bind, alloc36_run w, Result.andThen_ok, Sem.run_pure]
  exact hk
end
/-- The act of one Read, where the number is a sector's, and where it is none. -/
def rdOf (D : AD) (x : Int) : Bool := decide (0 ≤ x ∧ x < D.la.length)
theorem rread_any {w : World} {a1 a2 : Option Addr} {n1 n2 c1 c2 : Nat} {D : AD} {R : RD} (hR : Rel D R) (x : Int) (h : IsAts w (.slice a2 n2 c2) R.wr) (ha : IsAts w (.slice a1 n1 c1) R.la) (hr0 : 0 ≤ R.rd) (hr1 : R.rd ≤ 1152921504606846976) :
    Calls Try.prog 40 #[.agg (rdC R.n a1 n1 c1 a2 n2 c2 R.rd R.wt R.fl).toArray, .int .i64 x] w fun e w' => ∃ (R2 : Int) (u : Value) (f : Int), e = .returned (.tuple #[.agg (rdC R.n a1 n1 c1 a2 n2 c2 R2 R.wt R.fl).toArray, u, .int .i64 f]) ∧
      ((R2 = (if rdOf D x = true then R.rd + 1 else R.rd) ∧ f = (if rdOf D x = true then 0 else 31)) ∧ Own8 w' 0 u (if rdOf D x = true then D.now x.toNat else [])) ∧ Below w.heap.size w w' := by
  by_cases hx : 0 ≤ x ∧ x < D.la.length
  · have hd : rdOf D x = true := by unfold rdOf; exact decide_eq_true hx
    obtain ⟨i, rfl⟩ := Int.eq_ofNat_of_zero_le hx.1
    refine (rread_good (n := R.n) (x := i) h ha hR.wok hR.lok (by rw [hR.n]; exact hx.2) hr0 hr1).mono ?_
    rintro e w' ⟨u, rfl, hu, hb⟩
    refine ⟨_, u, 0, rfl, ⟨⟨by rw [if_pos hd], by rw [if_pos hd]⟩, ?_⟩, hb⟩
    rw [if_pos hd, Int.toNat_natCast, ← hR.now (by omega)]
    exact hu
  · have hd : rdOf D x = false := by unfold rdOf; exact decide_eq_false hx
    refine (rread_bad (n := R.n) (x := x) (by rw [hR.n]; omega)).mono ?_
    rintro e w' ⟨rfl, hb⟩
    exact ⟨_, _, 31, rfl, ⟨⟨by rw [if_neg (by rw [hd]; decide)], by rw [if_neg (by rw [hd]; decide)]⟩, by rw [if_neg (by rw [hd]; decide)]; exact ⟨World.ownsRow_nil _ _ _ _, by simp⟩⟩, hb⟩
def AD.readAt (D : AD) (x : Int) : AD := if rdOf D x = true then D.read else D
theorem pread_any {w : World} {p gl gm : Nat} {V : Nat → Value} {D : AD} (h : Dk w p gl gm V D) (x : Int) (hr0 : 0 ≤ D.rd) (hr1 : D.rd ≤ 1152921504606846976) :
    Calls Try.prog 20 #[.pointer (some ⟨p, 0, none⟩), .int .i64 x] w fun e w' => ∃ v, e = .returned (.tuple #[v, .int .i64 (if rdOf D x = true then 0 else 31)]) ∧ IsB w' v (if rdOf D x = true then D.now x.toNat else []) ∧ Dk w' p gl gm V (D.readAt x) ∧ Up (Ft p gl gm V) w w' := by
  by_cases hx : 0 ≤ x ∧ x < D.la.length
  · have hd : rdOf D x = true := by unfold rdOf; exact decide_eq_true hx
    obtain ⟨i, rfl⟩ := Int.eq_ofNat_of_zero_le hx.1
    refine (read_calls (i := i) h (by omega) hr0 hr1).mono ?_
    rintro e w' ⟨g, rfl, _, hA, hD, hg⟩
    refine ⟨_, by rw [if_pos hd], ?_, ?_, Up.of_grown hg (fun b hb => Or.inl (by injection hb with hb; exact hb.symm))⟩
    · rw [if_pos hd, Int.toNat_natCast]; exact isB_arrS hA (h.ok.now (by omega))
    · unfold AD.readAt; rw [if_pos hd]; exact hD
  · have hd : rdOf D x = false := by unfold rdOf; exact decide_eq_false hx
    have hn : ¬ rdOf D x = true := by rw [hd]; decide
    refine (read_bad (x := x) h.cells.1 (by omega)).mono ?_
    rintro e w' ⟨rfl, rfl⟩
    exact ⟨_, by rw [if_neg hn], by rw [if_neg hn]; exact isB_nil _, by unfold AD.readAt; rw [if_neg hn]; exact h, Up.refl _ _⟩
def RD.readAt (R : RD) (b : Bool) : RD := { R with rd := if b = true then R.rd + 1 else R.rd }
theorem Rel.readAt {D : AD} {R : RD} (h : Rel D R) (x : Int) : Rel (D.readAt x) (R.readAt (rdOf D x)) := by
  unfold AD.readAt RD.readAt
  by_cases hd : rdOf D x = true
  · rw [if_pos hd, if_pos hd]; exact h.read
  · rw [if_neg hd, if_neg hd]; exact h
set_option maxRecDepth 100000 in
set_option maxHeartbeats 4000000 in
theorem does_read {w : World} {g p gl gm : Nat} {V : Nat → Value} {D : AD} {R : RD} (h : Pr w g p gl gm V D R) (x y z : Int) (vb vf : Value) (hv1 : ∃ a n c, vb = .slice a n c) (hv2 : ∃ a n c, vf = .slice a n c) (hr0 : 0 ≤ D.rd) (hr1 : D.rd ≤ 1152921504606846976) :
    Calls Try.prog 29 #[.pointer (some ⟨g, 0, none⟩), .agg #[.int .i64 0, .int .i64 x, .int .i64 y, vb, .int .i64 z, vf]] w fun e w' => e = .returned (.bool true) ∧ Pr w' g p gl gm V (D.readAt x) (R.readAt (rdOf D x)) ∧ Up (Fp g p gl gm V) w w' := by
  obtain ⟨a1, n1, c1, a2, n2, c2, hG, hL, hW⟩ := h.blk
  obtain ⟨ba, bn, bc, rfl⟩ := hv1
  obtain ⟨fa, fn, fc, rfl⟩ := hv2
  have hDk := h.dk
  have hRel := h.rel
  have hgF : ¬ Ft p gl gm V g := fun hF => by
    have := hDk.tm g hF
    unfold Arr at hG
    exact (this _ _ _ hG).elim (by decide) (by decide)
  have hb1 := (Below.refl w.heap.size w).alloc (Nat.le_refl _) (.cells #[.int .i64 0, .int .i64 x, .int .i64 y, .slice ba bn bc, .int .i64 z, .slice fa fn fc] 67)
  have hO1 : Arr (w.alloc (.cells #[.int .i64 0, .int .i64 x, .int .i64 y, .slice ba bn bc, .int .i64 z, .slice fa fn fc] 67)) w.heap.size 67 [.int .i64 0, .int .i64 x, .int .i64 y, .slice ba bn bc, .int .i64 z, .slice fa fn fc] := Arr.new w _ _
  have hG1 := hG.below hb1
  have hL1 := hL.below hb1
  have hW1 := hW.below hb1
  have hD1 := hDk.below hb1
  have hoF : ¬ Ft p gl gm V w.heap.size := fun hF => by have := hDk.lt hF; omega
  have hgo : w.heap.size ≠ g := fun e => by have := hG.lt; omega
  have hrr := hRel.rd
  clear hDk hG hL hW h
  have HREL := hide hRel
  have hRn := hRel.n
  have hRT := hRel.readAt x
  clear hRel
  have HRT := hide hRT
  clear hRT
  go_enter Try.func29, Try.ntmps29
  go_wp2
  generalize w.alloc (.cells #[.int .i64 0, .int .i64 x, .int .i64 y, .slice ba bn bc, .int .i64 z, .slice fa fn fc] 67) = w1 at *
  have hund := Try.underlying85
  have HS : Hid (∀ W : World, Up (Ft p gl gm V) w1 W → W.cell? ⟨g, 0, none⟩ = some (.pointer (some ⟨p, 0, none⟩)) ∧ W.rangeAt g 1 (rdC R.n a1 n1 c1 a2 n2 c2 R.rd R.wt R.fl) ∧ W.cell? ⟨w.heap.size, 1, none⟩ = some (.int .i64 x)) := fun W hW =>
    ⟨(hG1.up hW hgF).cell_of rfl, fun j v hv => (hG1.up hW hgF).cell_of (j := 1 + j) (by rw [Nat.add_comm, List.getElem?_cons_succ]; exact hv), (hO1.up hW hoF).cell_of rfl⟩
  have HRR : Hid (∀ W, Below w1.heap.size w1 W → Calls Try.prog 40 #[.agg (rdC R.n a1 n1 c1 a2 n2 c2 R.rd R.wt R.fl).toArray, .int .i64 x] W fun e w' => ∃ (R2 : Int) (u : Value) (f : Int), e = .returned (.tuple #[.agg (rdC R.n a1 n1 c1 a2 n2 c2 R2 R.wt R.fl).toArray, u, .int .i64 f]) ∧
      ((R2 = (if rdOf D x = true then R.rd + 1 else R.rd) ∧ f = (if rdOf D x = true then 0 else 31)) ∧ Own8 w' 0 u (if rdOf D x = true then D.now x.toNat else [])) ∧ Below W.heap.size W w') := fun W hW => rread_any HREL.out x (hW1.below hW) (hL1.below hW) (by omega) (by omega)
  have HPR : Hid (∀ W, Below w1.heap.size w1 W → Calls Try.prog 20 #[.pointer (some ⟨p, 0, none⟩), .int .i64 x] W fun e w' => ∃ v, e = .returned (.tuple #[v, .int .i64 (if rdOf D x = true then 0 else 31)]) ∧ IsB w' v (if rdOf D x = true then D.now x.toNat else []) ∧ Dk w' p gl gm V (D.readAt x) ∧ Up (Ft p gl gm V) W w') := fun W hW => pread_any (hD1.below hW) x hr0 hr1
  have hglt := hG1.lt
  have hTm := hD1.tm
  have HLT : Hid (∀ b, Ft p gl gm V b → b < w1.heap.size) := fun b hb => hD1.lt hb
  have HTM : Hid (∀ W, Below w1.heap.size w1 W → Tm W (Ft p gl gm V)) := fun W hW => (hD1.below hW).tm
  have HG1 := hide hG1
  have HL1 := hide hL1
  have HW1 := hide hW1
  clear hG1 hL1 hW1 hD1 hO1 hrr
  go_cut [5, 6, 7] (fun v5 v6 v7 wc => ∃ g5 ua un uc f, v5 = .pointer (some ⟨g5, 0, none⟩) ∧ v6 = .slice ua un uc ∧ v7 = .int .i64 f ∧ Hid (∃ R2 : Int, (R2 = (if rdOf D x = true then R.rd + 1 else R.rd) ∧ f = (if rdOf D x = true then 0 else 31)) ∧ Own8 wc 0 (.slice ua un uc) (if rdOf D x = true then D.now x.toNat else []) ∧ Arr wc g5 85 (rdC R.n a1 n1 c1 a2 n2 c2 R2 R.wt R.fl) ∧ w1.heap.size ≤ g5 ∧ Below w1.heap.size w1 wc))
  case first =>
    refine wp_region_held_drew (S := fun W => W.cell? ⟨g, 0, none⟩ = some (.pointer (some ⟨p, 0, none⟩)) ∧ W.rangeAt g 1 (rdC R.n a1 n1 c1 a2 n2 c2 R.rd R.wt R.fl) ∧ W.cell? ⟨w.heap.size, 1, none⟩ = some (.int .i64 x)) (by kernel_rfl) (unhide HS _ (Up.of_below (Below.refl _ _).drew)) (fun hHeld => ?_)
    refine wpAnyH_take (i := 0) (v := .pointer (some ⟨g, 0, none⟩)) rfl (by kernel_rfl) (by kernel_rfl) (by kernel_rfl) (fun _ _ _ h => h) (Or.inl ⟨by rfl, fun w hSw => by obtain ⟨hS1, hS2, hS3⟩ := hSw; go_simp⟩) (by assumption) ?_
    simp only [List.getElem_toArray, List.getElem_cons_zero, Act.put, List.setIfInBounds_toArray, List.set_cons_zero, List.set_cons_succ]
    refine wpAnyH_take (i := 1) (v := .pointer (some ⟨g, 0, none⟩)) rfl (by kernel_rfl) (by kernel_rfl) (by kernel_rfl) (fun _ _ _ h => h) (Or.inl ⟨by rfl, fun w hSw => by obtain ⟨hS1, hS2, hS3⟩ := hSw; go_simp⟩) (by assumption) ?_
    simp only [List.getElem_toArray, List.getElem_cons_succ, List.getElem_cons_zero, Act.put, List.setIfInBounds_toArray, List.set_cons_zero, List.set_cons_succ]
    refine wpAnyH_take (i := 2) (v := .pointer (some ⟨g, 1, none⟩)) rfl (by kernel_rfl) (by kernel_rfl) (by kernel_rfl) (fun _ _ _ h => h) (Or.inl ⟨by rfl, fun w hSw => by obtain ⟨hS1, hS2, hS3⟩ := hSw; go_simp⟩) (by assumption) ?_
    simp only [List.getElem_toArray, List.getElem_cons_succ, List.getElem_cons_zero, Act.put, List.setIfInBounds_toArray, List.set_cons_zero, List.set_cons_succ]
    refine wpAnyH_take (i := 3) (v := .agg (rdC R.n a1 n1 c1 a2 n2 c2 R.rd R.wt R.fl).toArray) rfl (by kernel_rfl) (by kernel_rfl) (by kernel_rfl) (fun _ _ _ h => h) (yieldsIf_load_mid (by rfl) _ _ rfl _ _ rfl _ _ (fun w hSw => hSw.2.1) hund rfl info36) (by assumption) ?_
    simp only [List.getElem_toArray, List.getElem_cons_succ, List.getElem_cons_zero, Act.put, List.setIfInBounds_toArray, List.set_cons_zero, List.set_cons_succ]
    refine wpAnyH_take (i := 4) (v := .pointer (some ⟨w.heap.size, 1, none⟩)) rfl (by kernel_rfl) (by kernel_rfl) (by kernel_rfl) (fun _ _ _ h => h) (Or.inl ⟨by rfl, fun w hSw => by obtain ⟨hS1, hS2, hS3⟩ := hSw; go_simp⟩) (by assumption) ?_
    simp only [List.getElem_toArray, List.getElem_cons_succ, List.getElem_cons_zero, Act.put, List.setIfInBounds_toArray, List.set_cons_zero, List.set_cons_succ]
    refine wpAnyH_take (i := 5) (v := .int .i64 x) rfl (by kernel_rfl) (by kernel_rfl) (by kernel_rfl) (fun _ _ _ h => h) (Or.inl ⟨by rfl, fun w hSw => by obtain ⟨hS1, hS2, hS3⟩ := hSw; go_simp⟩) (by assumption) ?_
    simp only [List.getElem_toArray, List.getElem_cons_succ, List.getElem_cons_zero, Act.put, List.setIfInBounds_toArray, List.set_cons_zero, List.set_cons_succ]
    refine wpAnyH_ready (rs := [6, 11]) (by kernel_rfl) (by simp) (AllReadyH.cons rfl (fun K hK => ?_) (AllReadyH.cons rfl (fun K hK => ?_) AllReadyH.nil))
    · refine step_call2Q rfl 40 rread_enter (.tmp 28) (.tmp 30) _ rfl rfl rfl (unhide HRR _ (Below.refl _ _).drew) ?_
      rintro e w2 ⟨R2, u, f, rfl, hRR, hb2'⟩
      have hb2 : Below w1.heap.size w1 w2 := below_drew hb2'
      obtain ⟨ua, un, uc, rfl⟩ := (Own8.isB hRR.2).shape
      refine ⟨_, rfl, ?_⟩
      refine hK.out _ _ (unhide HS _ (Up.of_below hb2)) (fun hHeld2 => ?_)
      clear hK K
      simp only [List.getElem_toArray, List.getElem_cons_succ, List.getElem_cons_zero, Act.put, List.setIfInBounds_toArray, List.set_cons_zero, List.set_cons_succ]
      refine wpAnyH_take (i := 7) (v := .tuple #[.agg (rdC R.n a1 n1 c1 a2 n2 c2 R2 R.wt R.fl).toArray, .slice ua un uc, .int .i64 f]) rfl (by kernel_rfl) (by kernel_rfl) (by kernel_rfl) (fun _ _ _ h => h) (Or.inl ⟨by rfl, fun w hSw => by obtain ⟨hS1, hS2, hS3⟩ := hSw; go_simp⟩) (by assumption) ?_
      simp only [List.getElem_toArray, List.getElem_cons_succ, List.getElem_cons_zero, Act.put, List.setIfInBounds_toArray, List.set_cons_zero, List.set_cons_succ]
      refine wpAnyH_take (i := 8) (v := .agg (rdC R.n a1 n1 c1 a2 n2 c2 R2 R.wt R.fl).toArray) rfl (by kernel_rfl) (by kernel_rfl) (by kernel_rfl) (fun _ _ _ h => h) (Or.inl ⟨by rfl, fun w hSw => by obtain ⟨hS1, hS2, hS3⟩ := hSw; go_simp⟩) (by assumption) ?_
      simp only [List.getElem_toArray, List.getElem_cons_succ, List.getElem_cons_zero, Act.put, List.setIfInBounds_toArray, List.set_cons_zero, List.set_cons_succ]
      refine wpAnyH_take (i := 9) (v := .slice ua un uc) rfl (by kernel_rfl) (by kernel_rfl) (by kernel_rfl) (fun _ _ _ h => h) (Or.inl ⟨by rfl, fun w hSw => by obtain ⟨hS1, hS2, hS3⟩ := hSw; go_simp⟩) (by assumption) ?_
      simp only [List.getElem_toArray, List.getElem_cons_succ, List.getElem_cons_zero, Act.put, List.setIfInBounds_toArray, List.set_cons_zero, List.set_cons_succ]
      refine wpAnyH_take (i := 10) (v := .int .i64 f) rfl (by kernel_rfl) (by kernel_rfl) (by kernel_rfl) (fun _ _ _ h => h) (Or.inl ⟨by rfl, fun w hSw => by obtain ⟨hS1, hS2, hS3⟩ := hSw; go_simp⟩) (by assumption) ?_
      simp only [List.getElem_toArray, List.getElem_cons_succ, List.getElem_cons_zero, Act.put, List.setIfInBounds_toArray, List.set_cons_zero, List.set_cons_succ]
      refine wpAnyH_ready (rs := [11]) (by kernel_rfl) (by simp) (AllReadyH.cons rfl (fun K hK => ?_) AllReadyH.nil)
      refine step_alloc36 rfl rfl ?_
      refine hK.out _ _ (unhide HS _ (Up.of_below (hb2.alloc hb2.size _))) (fun hHeld3 => ?_)
      clear hK K
      simp only [List.getElem_toArray, List.getElem_cons_succ, List.getElem_cons_zero, Act.put, List.setIfInBounds_toArray, List.set_cons_zero, List.set_cons_succ]
      refine wpAnyH_ready (rs := [12]) (by kernel_rfl) (by simp) (AllReadyH.cons rfl (fun K hK => ?_) AllReadyH.nil)
      refine step_storeRow rfl (.tmp 5) (.tmp 32) 85 rfl rfl rfl (Arr.new w2 z36 85).there info36 (rdC_one _ _ _ _ _ _ _ _ _ _) ?_
      have hX3 := (Arr.new w2 z36 85).setAll (ds := rdC R.n a1 n1 c1 a2 n2 c2 R2 R.wt R.fl) rfl
      have hb3 : Below w2.heap.size w2 ((w2.alloc (.cells z36.toArray 85)).setCells w2.heap.size 0 (rdC R.n a1 n1 c1 a2 n2 c2 R2 R.wt R.fl)) := ((Below.refl _ _).alloc (Nat.le_refl _) _).grown (grown_setCells _ _ _ _) (by simp) (fun j hj => by injection hj with hj; omega)
      have hb4 := below_then hb2 hb3
      refine hK.out _ _ (unhide HS _ (Up.of_below hb4)) (fun hHeld4 => ?_)
      clear hK K
      simp only [List.getElem_toArray, List.getElem_cons_succ, List.getElem_cons_zero, Act.put]
      have hu4 := hRR.2.below hb3
      generalize (w2.alloc (.cells z36.toArray 85)).setCells w2.heap.size 0 (rdC R.n a1 n1 c1 a2 n2 c2 R2 R.wt R.fl) = w4 at *
      refine wpAnyH_take (i := 13) (v := .slice ua un uc) rfl (by kernel_rfl) (by kernel_rfl) (by kernel_rfl) (fun _ _ _ h => h) (Or.inl ⟨by rfl, fun w hSw => by obtain ⟨hS1, hS2, hS3⟩ := hSw; go_simp⟩) (by assumption) ?_
      simp only [List.getElem_toArray, List.getElem_cons_succ, List.getElem_cons_zero, Act.put, List.setIfInBounds_toArray, List.set_cons_zero, List.set_cons_succ]
      refine wpAnyH_take (i := 14) (v := .int .i64 f) rfl (by kernel_rfl) (by kernel_rfl) (by kernel_rfl) (fun _ _ _ h => h) (Or.inl ⟨by rfl, fun w hSw => by obtain ⟨hS1, hS2, hS3⟩ := hSw; go_simp⟩) (by assumption) ?_
      simp only [List.getElem_toArray, List.getElem_cons_succ, List.getElem_cons_zero, Act.put, List.setIfInBounds_toArray, List.set_cons_zero, List.set_cons_succ]
      refine wpAnyH_done (by kernel_rfl) ?_ _
      go_wp2
      go_meet
      exact ⟨w2.heap.size, ua, un, uc, f, rfl, rfl, rfl, hide ⟨R2, hRR.1, hu4, hX3, hb2.size, hb4⟩⟩
    · refine step_alloc36 rfl rfl ?_
      have hb0 : Below w1.heap.size w1 (w1.drew.alloc (.cells z36.toArray 85)) := ((Below.refl _ _).drew).alloc (Nat.le_refl _) _
      have hX0 : Arr (w1.drew.alloc (.cells z36.toArray 85)) w1.heap.size 85 z36 := Arr.new w1.drew z36 85
      refine hK.out _ _ (unhide HS _ (Up.of_below hb0)) (fun hHeld2 => ?_)
      clear hK K
      simp only [List.getElem_toArray, List.getElem_cons_succ, List.getElem_cons_zero, Act.put, List.setIfInBounds_toArray, List.set_cons_zero, List.set_cons_succ]
      simp only [drew_size]
      generalize w1.drew.alloc (.cells z36.toArray 85) = w0 at *
      refine wpAnyH_ready (rs := [6]) (by kernel_rfl) (by simp) (AllReadyH.cons rfl (fun K hK => ?_) AllReadyH.nil)
      refine step_call2Q rfl 40 rread_enter (.tmp 28) (.tmp 30) _ rfl rfl rfl (unhide HRR _ hb0) ?_
      rintro e w2 ⟨R2, u, f, rfl, hRR, hb2'⟩
      have hb2 : Below w1.heap.size w1 w2 := below_then hb0 hb2'
      have hX2 := hX0.below hb2'
      obtain ⟨ua, un, uc, rfl⟩ := (Own8.isB hRR.2).shape
      refine ⟨_, rfl, ?_⟩
      refine hK.out _ _ (unhide HS _ (Up.of_below hb2)) (fun hHeld3 => ?_)
      clear hK K
      simp only [List.getElem_toArray, List.getElem_cons_succ, List.getElem_cons_zero, Act.put, List.setIfInBounds_toArray, List.set_cons_zero, List.set_cons_succ]
      refine wpAnyH_take (i := 7) (v := .tuple #[.agg (rdC R.n a1 n1 c1 a2 n2 c2 R2 R.wt R.fl).toArray, .slice ua un uc, .int .i64 f]) rfl (by kernel_rfl) (by kernel_rfl) (by kernel_rfl) (fun _ _ _ h => h) (Or.inl ⟨by rfl, fun w hSw => by obtain ⟨hS1, hS2, hS3⟩ := hSw; go_simp⟩) (by assumption) ?_
      simp only [List.getElem_toArray, List.getElem_cons_succ, List.getElem_cons_zero, Act.put, List.setIfInBounds_toArray, List.set_cons_zero, List.set_cons_succ]
      refine wpAnyH_take (i := 8) (v := .agg (rdC R.n a1 n1 c1 a2 n2 c2 R2 R.wt R.fl).toArray) rfl (by kernel_rfl) (by kernel_rfl) (by kernel_rfl) (fun _ _ _ h => h) (Or.inl ⟨by rfl, fun w hSw => by obtain ⟨hS1, hS2, hS3⟩ := hSw; go_simp⟩) (by assumption) ?_
      simp only [List.getElem_toArray, List.getElem_cons_succ, List.getElem_cons_zero, Act.put, List.setIfInBounds_toArray, List.set_cons_zero, List.set_cons_succ]
      refine wpAnyH_take (i := 9) (v := .slice ua un uc) rfl (by kernel_rfl) (by kernel_rfl) (by kernel_rfl) (fun _ _ _ h => h) (Or.inl ⟨by rfl, fun w hSw => by obtain ⟨hS1, hS2, hS3⟩ := hSw; go_simp⟩) (by assumption) ?_
      simp only [List.getElem_toArray, List.getElem_cons_succ, List.getElem_cons_zero, Act.put, List.setIfInBounds_toArray, List.set_cons_zero, List.set_cons_succ]
      refine wpAnyH_take (i := 10) (v := .int .i64 f) rfl (by kernel_rfl) (by kernel_rfl) (by kernel_rfl) (fun _ _ _ h => h) (Or.inl ⟨by rfl, fun w hSw => by obtain ⟨hS1, hS2, hS3⟩ := hSw; go_simp⟩) (by assumption) ?_
      simp only [List.getElem_toArray, List.getElem_cons_succ, List.getElem_cons_zero, Act.put, List.setIfInBounds_toArray, List.set_cons_zero, List.set_cons_succ]
      refine wpAnyH_ready (rs := [12]) (by kernel_rfl) (by simp) (AllReadyH.cons rfl (fun K hK => ?_) AllReadyH.nil)
      refine step_storeRow rfl (.tmp 5) (.tmp 32) 85 rfl rfl rfl hX2.there info36 (rdC_one _ _ _ _ _ _ _ _ _ _) ?_
      have hX3 := hX2.setAll (ds := rdC R.n a1 n1 c1 a2 n2 c2 R2 R.wt R.fl) rfl
      have hg4 := grown_setCells w2 w1.heap.size 0 (rdC R.n a1 n1 c1 a2 n2 c2 R2 R.wt R.fl)
      have hu4 := hRR.2.other hg4 hX2 (by decide)
      have hb4 := hb2.grown hg4 hb2.size (fun j hj => by injection hj with hj; exact Nat.le_of_eq hj)
      refine hK.out _ _ (unhide HS _ (Up.of_below hb4)) (fun hHeld4 => ?_)
      clear hK K
      simp only [List.getElem_toArray, List.getElem_cons_succ, List.getElem_cons_zero, Act.put]
      generalize w2.setCells w1.heap.size 0 (rdC R.n a1 n1 c1 a2 n2 c2 R2 R.wt R.fl) = w4 at *
      refine wpAnyH_take (i := 13) (v := .slice ua un uc) rfl (by kernel_rfl) (by kernel_rfl) (by kernel_rfl) (fun _ _ _ h => h) (Or.inl ⟨by rfl, fun w hSw => by obtain ⟨hS1, hS2, hS3⟩ := hSw; go_simp⟩) (by assumption) ?_
      simp only [List.getElem_toArray, List.getElem_cons_succ, List.getElem_cons_zero, Act.put, List.setIfInBounds_toArray, List.set_cons_zero, List.set_cons_succ]
      refine wpAnyH_take (i := 14) (v := .int .i64 f) rfl (by kernel_rfl) (by kernel_rfl) (by kernel_rfl) (fun _ _ _ h => h) (Or.inl ⟨by rfl, fun w hSw => by obtain ⟨hS1, hS2, hS3⟩ := hSw; go_simp⟩) (by assumption) ?_
      simp only [List.getElem_toArray, List.getElem_cons_succ, List.getElem_cons_zero, Act.put, List.setIfInBounds_toArray, List.set_cons_zero, List.set_cons_succ]
      refine wpAnyH_done (by kernel_rfl) ?_ _
      go_wp2
      go_meet
      exact ⟨w1.heap.size, ua, un, uc, f, rfl, rfl, rfl, hide ⟨R2, hRR.1, hu4, hX3, Nat.le_refl _, hb4⟩⟩
  case rest =>
    obtain ⟨g5, ua, un, uc, f, rfl, rfl, rfl, HX⟩ := hcut
    obtain ⟨R2, ⟨hR2, hf⟩, hu, hX3, hg5, hb4⟩ := HX.out
    clear HX
    have hgx : g5 ≠ g := by omega
    go_wp2
    refine wp_region_held_drew (S := fun W => W.cell? ⟨g, 0, none⟩ = some (.pointer (some ⟨p, 0, none⟩)) ∧ W.rangeAt g 1 (rdC R.n a1 n1 c1 a2 n2 c2 R.rd R.wt R.fl) ∧ W.cell? ⟨w.heap.size, 1, none⟩ = some (.int .i64 x)) (by kernel_rfl) (unhide HS _ (Up.of_below hb4.drew)) (fun hHeld => ?_)
    refine wpAnyH_take (i := 0) (v := .pointer (some ⟨g, 0, none⟩)) rfl (by kernel_rfl) (by kernel_rfl) (by kernel_rfl) (fun _ _ _ h => h) (Or.inl ⟨by rfl, fun w hSw => by obtain ⟨hS1, hS2, hS3⟩ := hSw; go_simp⟩) (by assumption) ?_
    simp only [List.getElem_toArray, List.getElem_cons_zero, Act.put, List.setIfInBounds_toArray, List.set_cons_zero, List.set_cons_succ]
    refine wpAnyH_take (i := 1) (v := .pointer (some ⟨g, 0, none⟩)) rfl (by kernel_rfl) (by kernel_rfl) (by kernel_rfl) (fun _ _ _ h => h) (Or.inl ⟨by rfl, fun w hSw => by obtain ⟨hS1, hS2, hS3⟩ := hSw; go_simp⟩) (by assumption) ?_
    simp only [List.getElem_toArray, List.getElem_cons_succ, List.getElem_cons_zero, Act.put, List.setIfInBounds_toArray, List.set_cons_zero, List.set_cons_succ]
    refine wpAnyH_take (i := 2) (v := .pointer (some ⟨g, 0, none⟩)) rfl (by kernel_rfl) (by kernel_rfl) (by kernel_rfl) (fun _ _ _ h => h) (Or.inl ⟨by rfl, fun w hSw => by obtain ⟨hS1, hS2, hS3⟩ := hSw; go_simp⟩) (by assumption) ?_
    simp only [List.getElem_toArray, List.getElem_cons_succ, List.getElem_cons_zero, Act.put, List.setIfInBounds_toArray, List.set_cons_zero, List.set_cons_succ]
    refine wpAnyH_take (i := 3) (v := .pointer (some ⟨p, 0, none⟩)) rfl (by kernel_rfl) (by kernel_rfl) (by kernel_rfl) (fun _ _ _ h => h) (Or.inl ⟨by rfl, fun w hSw => by obtain ⟨hS1, hS2, hS3⟩ := hSw; go_simp⟩) (by assumption) ?_
    simp only [List.getElem_toArray, List.getElem_cons_succ, List.getElem_cons_zero, Act.put, List.setIfInBounds_toArray, List.set_cons_zero, List.set_cons_succ]
    refine wpAnyH_take (i := 4) (v := .pointer (some ⟨w.heap.size, 1, none⟩)) rfl (by kernel_rfl) (by kernel_rfl) (by kernel_rfl) (fun _ _ _ h => h) (Or.inl ⟨by rfl, fun w hSw => by obtain ⟨hS1, hS2, hS3⟩ := hSw; go_simp⟩) (by assumption) ?_
    simp only [List.getElem_toArray, List.getElem_cons_succ, List.getElem_cons_zero, Act.put, List.setIfInBounds_toArray, List.set_cons_zero, List.set_cons_succ]
    refine wpAnyH_take (i := 5) (v := .int .i64 x) rfl (by kernel_rfl) (by kernel_rfl) (by kernel_rfl) (fun _ _ _ h => h) (Or.inl ⟨by rfl, fun w hSw => by obtain ⟨hS1, hS2, hS3⟩ := hSw; go_simp⟩) (by assumption) ?_
    simp only [List.getElem_toArray, List.getElem_cons_succ, List.getElem_cons_zero, Act.put, List.setIfInBounds_toArray, List.set_cons_zero, List.set_cons_succ]
    refine wpAnyH_ready (rs := [6]) (by kernel_rfl) (by simp) (AllReadyH.cons rfl (fun K hK => ?_) AllReadyH.nil)
    refine step_call2Q rfl 20 read_enter (.tmp 39) (.tmp 41) _ rfl rfl rfl (unhide HPR _ hb4.drew) ?_
    rintro e w5 ⟨v5, rfl, hI5, hD5, hU5'⟩
    have hU5 : Up (Ft p gl gm V) wc w5 := ⟨hU5'.os, hU5'.tape, hU5'.output, hU5'.size, hU5'.block⟩
    obtain ⟨va, vn, vc, rfl⟩ := hI5.shape
    have hU6 : Up (Ft p gl gm V) w1 w5 := (Up.of_below hb4).trans (F' := Ft p gl gm V) hU5 (fun _ h => Or.inl h)
    refine ⟨_, rfl, ?_⟩
    refine hK.out _ _ (unhide HS _ hU6) (fun hHeld2 => ?_)
    clear hK K
    simp only [List.getElem_toArray, List.getElem_cons_succ, List.getElem_cons_zero, Act.put, List.setIfInBounds_toArray, List.set_cons_zero, List.set_cons_succ]
    refine wpAnyH_take (i := 7) (v := .tuple #[.slice va vn vc, .int .i64 f]) rfl (by kernel_rfl) (by kernel_rfl) (by kernel_rfl) (fun _ _ _ h => h) (Or.inl ⟨by rfl, fun w hSw => by obtain ⟨hS1, hS2, hS3⟩ := hSw; go_simp⟩) (by assumption) ?_
    simp only [List.getElem_toArray, List.getElem_cons_succ, List.getElem_cons_zero, Act.put, List.setIfInBounds_toArray, List.set_cons_zero, List.set_cons_succ]
    refine wpAnyH_take (i := 8) (v := .slice va vn vc) rfl (by kernel_rfl) (by kernel_rfl) (by kernel_rfl) (fun _ _ _ h => h) (Or.inl ⟨by rfl, fun w hSw => by obtain ⟨hS1, hS2, hS3⟩ := hSw; go_simp⟩) (by assumption) ?_
    simp only [List.getElem_toArray, List.getElem_cons_succ, List.getElem_cons_zero, Act.put, List.setIfInBounds_toArray, List.set_cons_zero, List.set_cons_succ]
    refine wpAnyH_take (i := 9) (v := .int .i64 f) rfl (by kernel_rfl) (by kernel_rfl) (by kernel_rfl) (fun _ _ _ h => h) (Or.inl ⟨by rfl, fun w hSw => by obtain ⟨hS1, hS2, hS3⟩ := hSw; go_simp⟩) (by assumption) ?_
    simp only [List.getElem_toArray, List.getElem_cons_succ, List.getElem_cons_zero, Act.put, List.setIfInBounds_toArray, List.set_cons_zero, List.set_cons_succ]
    refine wpAnyH_take (i := 10) (v := .slice va vn vc) rfl (by kernel_rfl) (by kernel_rfl) (by kernel_rfl) (fun _ _ _ h => h) (Or.inl ⟨by rfl, fun w hSw => by obtain ⟨hS1, hS2, hS3⟩ := hSw; go_simp⟩) (by assumption) ?_
    simp only [List.getElem_toArray, List.getElem_cons_succ, List.getElem_cons_zero, Act.put, List.setIfInBounds_toArray, List.set_cons_zero, List.set_cons_succ]
    refine wpAnyH_take (i := 11) (v := .int .i64 f) rfl (by kernel_rfl) (by kernel_rfl) (by kernel_rfl) (fun _ _ _ h => h) (Or.inl ⟨by rfl, fun w hSw => by obtain ⟨hS1, hS2, hS3⟩ := hSw; go_simp⟩) (by assumption) ?_
    simp only [List.getElem_toArray, List.getElem_cons_succ, List.getElem_cons_zero, Act.put, List.setIfInBounds_toArray, List.set_cons_zero, List.set_cons_succ]
    refine wpAnyH_done (by kernel_rfl) ?_ _
    have hgF5 : ¬ Ft p gl gm V g5 := fun hF => by have := unhide HLT _ hF; omega
    have hX5 := hX3.up hU5 hgF5
    have hG5 := HG1.out.up hU6 hgF
    have hu5 := hu.tm hU5 (unhide HTM _ hb4)
    have hL5 := HL1.out.tm hU6 hTm
    have hW5 := HW1.out.tm hU6 hTm
    have hcv1 := conv_isB hI5
    have hcv2 := conv_isB (Own8.isB hu5)
    have hgl5 := hG5.lt
    have hth : w5.there g 1 (rdC R.n a1 n1 c1 a2 n2 c2 R2 R.wt R.fl).length := fun j hj => by
      have hj6 : j < 6 := hj
      refine ⟨?_, hG5.frozen _⟩
      rw [hG5.cell, List.getElem?_eq_getElem (by show 1 + j < 7; omega)]
      rfl
    have hone := rdC_one R.n a1 n1 c1 a2 n2 c2 R2 R.wt R.fl
    have hrg := hX5.range
    have hkg := grown_setCells w5 g 1 (rdC R.n a1 n1 c1 a2 n2 c2 R2 R.wt R.fl)
    have hkA : ∀ (v : Value) (xs : List Int), Own8 w5 0 v xs → Own8 (w5.setCells g 1 (rdC R.n a1 n1 c1 a2 n2 c2 R2 R.wt R.fl)) 0 v xs := fun v xs hv => hv.other hkg hG5 (by decide)
    have HFIN : Hid (Pr (w5.setCells g 1 (rdC R.n a1 n1 c1 a2 n2 c2 R2 R.wt R.fl)) g p gl gm V (D.readAt x) (R.readAt (rdOf D x)) ∧ Up (Fp g p gl gm V) w (w5.setCells g 1 (rdC R.n a1 n1 c1 a2 n2 c2 R2 R.wt R.fl))) := by
      refine ⟨⟨⟨a1, n1, c1, a2, n2, c2, ?_, hL5.other hkg hG5 (by decide) (by decide), hW5.other hkg hG5 (by decide) (by decide)⟩, hD5.up (Up.of_grown (F := fun b => b = g) hkg (fun b hb => by injection hb with hb; exact hb.symm)) (fun b hb e => hgF (e ▸ hb)), HRT.out⟩, ?_⟩
      · have := hG5.setTail (ds := rdC R.n a1 n1 c1 a2 n2 c2 R2 R.wt R.fl) rfl
        rw [hR2] at this ⊢
        unfold RD.readAt
        exact this
      · refine ((Up.of_below (F := Fp g p gl gm V) hb1).trans (hU6.mono (F' := Fp g p gl gm V) (fun b hb => Or.inr hb)) (fun _ h => Or.inl h)).trans (F' := Fp g p gl gm V) (Up.of_grown hkg (fun b hb => ?_)) (fun _ h => Or.inl h)
        injection hb with hb
        exact Or.inl hb.symm
    have hcw1 : (convert 23 9 (.slice va vn vc)).run Try.prog (w5.setCells g 1 (rdC R.n a1 n1 c1 a2 n2 c2 R2 R.wt R.fl)) = .ok (.string (mkS (if rdOf D x = true then D.now x.toNat else []))) (w5.setCells g 1 (rdC R.n a1 n1 c1 a2 n2 c2 R2 R.wt R.fl)) := conv_isB (hI5.otherB hkg hG5)
    have hcw2 : (convert 23 9 (.slice ua un uc)).run Try.prog (w5.setCells g 1 (rdC R.n a1 n1 c1 a2 n2 c2 R2 R.wt R.fl)) = .ok (.string (mkS (if rdOf D x = true then D.now x.toNat else []))) (w5.setCells g 1 (rdC R.n a1 n1 c1 a2 n2 c2 R2 R.wt R.fl)) := conv_isB (Own8.isB (hkA _ _ hu5))
    clear hR2 hRn hcv1 hcv2 hI5 hu5 hL5 hW5 hG5 hkA hkg HRT hX3 hu hD5 hU5 hU6 hb4 HG1 HL1 HW1 HS HRR HPR
    generalize mkS (if rdOf D x = true then D.now x.toNat else []) = st at *
    generalize (if rdOf D x = true then (0 : Int) else 31) = ff at *
    subst hf
    have hund2 := Try.underlying85
    generalize hw6 : w5.setCells g 1 (rdC R.n a1 n1 c1 a2 n2 c2 R2 R.wt R.fl) = w6 at *
    go_wp2_with (first
      | (refine wpList_load_mid rfl 85 (.tmp 5) rfl g5 0 rfl (rdC R.n a1 n1 c1 a2 n2 c2 R2 R.wt R.fl) _ hrg hund2 rfl info36 ?_)
      | (refine wpList_storeRow rfl (.tmp 48) (.tmp 46) 85 rfl rfl rfl hth info36 hone ?_; rw [hw6]))
    go_ret
    exact ⟨rfl, HFIN.out.1, HFIN.out.2⟩
end Go.Proofs.Ytfgjhlnaaopdeab
