/- DiskOwn: settle. -/
import Derived.Test.YtfgjhlnaaopdeabOwF
namespace Go.Proofs.Ytfgjhlnaaopdeab
open Go.RowKit Go.Maps

section
variable {w wr : World} {sp N M m nB nI nC nJ B p q bB cB bI cI : Nat} {gB gI : Nat → Nat} {Rb Ri : Nat → List Value} {vC vJ : Value} {uB uI uC uJ : List Value} {A : Nat → Prop} {G : Nat → Nat} {D E : AD}
theorem Fz.sps (h : Fz w wr sp N M m gB gI Rb Ri (.slice (some ⟨bB, 0, none⟩) N cB) (.slice (some ⟨bI, 0, none⟩) M cI) vC vJ uB uI uC uJ nB nI nC nJ A B p q G D E) : wr.cell? ⟨sp, 0, none⟩ = some (.slice (some ⟨bB, 0, none⟩) N cB) ∧ wr.cell? ⟨sp, 1, none⟩ = some (.slice (some ⟨bI, 0, none⟩) M cI) ∧ wr.cell? ⟨sp, 2, none⟩ = some vC ∧ wr.cell? ⟨sp, 3, none⟩ = some vJ := ⟨h.sh.sh.cell_of rfl, h.sh.sh.cell_of rfl, h.sh.sh.cell_of rfl, h.sh.sh.cell_of rfl⟩
theorem Fz.atB (h : Fz w wr sp N M m gB gI Rb Ri (.slice (some ⟨bB, 0, none⟩) N cB) (.slice (some ⟨bI, 0, none⟩) M cI) vC vJ uB uI uC uJ nB nI nC nJ A B p q G D E) {i : Nat} (hi : i < N) : wr.cell? ⟨bB, i, none⟩ = some (.slice (some ⟨gB i, 0, none⟩) 512 512) ∧ ∀ j, j < 512 → (∃ u, wr.cell? ⟨gB i, j, none⟩ = some u) ∧ wr.frozen? ⟨gB i, j, none⟩ = false := by
  refine ⟨?_, fun j hj => ⟨⟨(Rb i)[j]'(by rw [(h.sh.aB i hi).2]; exact hj), (h.sh.aB i hi).1.cell_of (List.getElem?_eq_getElem _)⟩, (h.sh.aB i hi).1.frozen j⟩⟩
  rw [h.sh.rB.cellAt (by rw [h.sh.lB]; exact hi)]
  exact h.sh.eB i hi
theorem Fz.atI (h : Fz w wr sp N M m gB gI Rb Ri (.slice (some ⟨bB, 0, none⟩) N cB) (.slice (some ⟨bI, 0, none⟩) M cI) vC vJ uB uI uC uJ nB nI nC nJ A B p q G D E) {i : Nat} (hi : i < M) : wr.cell? ⟨bI, i, none⟩ = some (.slice (some ⟨gI i, 0, none⟩) m m) ∧ ∀ j, j < m → (∃ u, wr.cell? ⟨gI i, j, none⟩ = some u) ∧ wr.frozen? ⟨gI i, j, none⟩ = false := by
  refine ⟨?_, fun j hj => ⟨⟨(Ri i)[j]'(by rw [(h.sh.aI i hi).2]; exact hj), (h.sh.aI i hi).1.cell_of (List.getElem?_eq_getElem _)⟩, (h.sh.aI i hi).1.frozen j⟩⟩
  rw [h.sh.rI.cellAt (by rw [h.sh.lI]; exact hi)]
  exact h.sh.eI i hi
/-- One mark more in a row. -/
theorem Fz.markB (h : Fz w wr sp N M m gB gI Rb Ri (.slice (some ⟨bB, 0, none⟩) N cB) (.slice (some ⟨bI, 0, none⟩) M cI) vC vJ uB uI uC uJ nB nI nC 0 A B p q G D E) {i j : Nat} (hi : i < N) (hni : nB = i) (hj : j < 512) (hr : ∀ k, k < j → (Rb i)[k]? = some (.int .u8 (mkO i k))) :
    ∃ Rb', Fz w (wr.setCell ⟨gB i, j, none⟩ (.int .u8 (mkO i j))) sp N M m gB gI Rb' Ri (.slice (some ⟨bB, 0, none⟩) N cB) (.slice (some ⟨bI, 0, none⟩) M cI) vC vJ uB uI uC uJ nB nI nC 0 A B p q G D E ∧ ∀ k, k < j + 1 → (Rb' i)[k]? = some (.int .u8 (mkO i k)) := by
  subst hni
  refine ⟨_, h.setB hi (Nat.le_refl _) rfl _, fun k hk => ?_⟩
  rw [updF_same, set_at (h.sh.aB _ hi).2 hj]
  by_cases e : k = j
  · subst e; rw [if_pos rfl]
  · rw [if_neg e]; exact hr k (by omega)
theorem Fz.rowB (h : Fz w wr sp N M m gB gI Rb Ri (.slice (some ⟨bB, 0, none⟩) N cB) (.slice (some ⟨bI, 0, none⟩) M cI) vC vJ uB uI uC uJ nB nI nC 0 A B p q G D E) {i : Nat} (hni : nB = i) (hr : ∀ k, k < 512 → (Rb i)[k]? = some (.int .u8 (mkO i k))) : Fz w wr sp N M m gB gI Rb Ri (.slice (some ⟨bB, 0, none⟩) N cB) (.slice (some ⟨bI, 0, none⟩) M cI) vC vJ uB uI uC uJ (i + 1) nI nC 0 A B p q G D E := by
  subst hni
  refine ⟨h.sh, ⟨fun k hk => ?_, h.x.fI, h.x.lC, h.x.fC, h.x.lJ, h.x.fJ⟩, h.d, h.aB⟩
  by_cases e : k = nB
  · subst e; exact hr
  · exact h.x.fB k (by omega)
/-- One place more of an image. -/
theorem Fz.markI (h : Fz w wr sp N M m gB gI Rb Ri (.slice (some ⟨bB, 0, none⟩) N cB) (.slice (some ⟨bI, 0, none⟩) M cI) vC vJ uB uI uC uJ nB nI nC 0 A B p q G D E) {i j : Nat} (hi : i < M) (hni : nI = i) (hj : j < m) (hr : ∀ k, k < j → ∃ y, (Ri i)[k]? = some (.slice (some ⟨y, 0, none⟩) 3 3) ∧ Arr wr y 5 (tri i k 77)) :
    ∃ Ri', Fz w ((wr.alloc (.cells (tri i j 77).toArray 5)).setCell ⟨gI i, j, none⟩ (.slice (some ⟨wr.heap.size, 0, none⟩) 3 3)) sp N M m gB gI Rb Ri' (.slice (some ⟨bB, 0, none⟩) N cB) (.slice (some ⟨bI, 0, none⟩) M cI) vC vJ uB uI uC uJ nB nI nC 0 A B p q G D E ∧ ∀ k, k < j + 1 → ∃ y, (Ri' i)[k]? = some (.slice (some ⟨y, 0, none⟩) 3 3) ∧ Arr ((wr.alloc (.cells (tri i j 77).toArray 5)).setCell ⟨gI i, j, none⟩ (.slice (some ⟨wr.heap.size, 0, none⟩) 3 3)) y 5 (tri i k 77) := by
  subst hni
  have hb := (Below.refl wr.heap.size wr).alloc (Nat.le_refl _) (.cells (tri nI j 77).toArray 5)
  have h2 := h.below hb
  have hI := (h2.sh.aI _ hi).1
  have kp : ∀ {y : Nat} {cs : List Value}, Arr (wr.alloc (.cells (tri nI j 77).toArray 5)) y 5 cs → Arr ((wr.alloc (.cells (tri nI j 77).toArray 5)).setCell ⟨gI nI, j, none⟩ (.slice (some ⟨wr.heap.size, 0, none⟩) 3 3)) y 5 cs := fun {y cs} ha => ha.other _ _ (arr_ne3 ha hI (by decide))
  refine ⟨_, h2.setI hi (Nat.le_refl _) rfl _, fun k hk => ?_⟩
  rw [updF_same, set_at (h.sh.aI _ hi).2 hj]
  by_cases e : k = j
  · subst e; rw [if_pos rfl]; exact ⟨_, rfl, kp (Arr.new _ _ _)⟩
  · rw [if_neg e]
    obtain ⟨y, y1, y2⟩ := hr k (by omega)
    exact ⟨y, y1, kp (y2.below hb)⟩
theorem Fz.rowI (h : Fz w wr sp N M m gB gI Rb Ri (.slice (some ⟨bB, 0, none⟩) N cB) (.slice (some ⟨bI, 0, none⟩) M cI) vC vJ uB uI uC uJ nB nI nC 0 A B p q G D E) {i : Nat} (hni : nI = i) (hr : ∀ k, k < m → ∃ y, (Ri i)[k]? = some (.slice (some ⟨y, 0, none⟩) 3 3) ∧ Arr wr y 5 (tri i k 77)) : Fz w wr sp N M m gB gI Rb Ri (.slice (some ⟨bB, 0, none⟩) N cB) (.slice (some ⟨bI, 0, none⟩) M cI) vC vJ uB uI uC uJ nB (i + 1) nC 0 A B p q G D E := by
  subst hni
  refine ⟨h.sh, ⟨h.x.fB, fun k hk => ?_, h.x.lC, h.x.fC, h.x.lJ, h.x.fJ⟩, h.d, h.aB⟩
  by_cases e : k = nI
  · subst e; exact hr
  · exact h.x.fI k (by omega)
end
theorem Up.belowX {F : Nat → Prop} {w w' : World} {X : Nat} (h : Up F w w') (hX : X ≤ w.heap.size) (hF : ∀ b, F b → X ≤ b) : Below X w w' := h.below hX hF
theorem Gr.below {X : Nat} {W W' : World} {e : TypeId} {v : Value} {xs : List Value} (h : Gr X W e v xs) (hb : Below W.heap.size W W') : Gr X W' e v xs := by
  rcases h with ⟨b, h1, h2⟩ | h
  · exact Or.inl ⟨b, h1, fun j u hu => bkept hb (h2 j u hu)⟩
  · exact Or.inr (h.up3 (F := fun _ => False) (Up.of_below hb) (fun _ _ h => h))
section
variable {ops : Array Oper} {rest : List Oper} {o : Oper} {a : Act} {Q : Exit → Act → World → Prop} {w : World}
set_option maxRecDepth 100000 in
theorem wpList_appU {t e : TypeId} {z : Value} {bytes : Nat} (hU : Try.prog.underlying t = some (.slice e)) (hI : (Try.prog.info? e).map (fun i => (i.zero, i.size, i.bytes)) = some (some z, 1, bytes)) (hzc : z.cells.size = 1) (hby : bytes ≤ 24) (hgd : o.guard = none) (x y : Operand) (ho : o.op = .call { callee := .builtin .append, args := #[x, y], argTypes := #[t, t] }) {X g : Nat} {v u : Value} {us : List Value} (hx : a.eval x = v) (hrow : Gr X w e v us) (hy : a.eval y = .slice (some ⟨g, 0, none⟩) 1 1)
    (hc : w.cell? ⟨g, 0, none⟩ = some u) (h1 : u.oneCell' = true) (hl : us.length ≤ 1000000) (hX : X ≤ w.heap.size)
    (hk : ∀ v' w', Row w' X e v' (us ++ [u]) → Up (fun b => X ≤ b ∧ ∃ cur, w.heap[b]? = some (.cells cur e)) w w' → wpList Try.prog ops Q rest (a.put o.dst v') w') : wpList Try.prog ops Q (o :: rest) a w := by
  have hbt : (us.length + 1) * bytes ≤ 140737488355328 := Nat.le_trans (Nat.mul_le_mul (show us.length + 1 ≤ 1000001 by omega) hby) (by decide)
  obtain ⟨i0, hi, hz0, hz1, hz2⟩ := info_parts hI
  have hcc : ∀ j z, [u][j]? = some z → w.cell? (Addr.add ⟨g, 0, none⟩ j) = some z := fun j z hu => by
    cases j with
    | zero =>
      injection hu with hu
      subst hu
      exact hc
    | succ j => simp at hu
  have h1c : ∀ z ∈ [u], z.oneCell' = true := fun z hz => by rw [List.mem_singleton.1 hz]; exact h1
  rcases hrow with ⟨b, rfl, hcs⟩ | hrow
  · refine wpList_append_grows w hgd x y t ho e i0 z 1 bytes hU hi hz0 hz1 hz2 hzc (by decide) (some ⟨b, 0, none⟩) us.length us.length us hx (fun h => by cases h) (by omega) (fun b' hb' j z hz => ?_) ⟨g, 0, none⟩ 1 1 [u] hy rfl hcc h1c (by omega) (by unfold maxLen; omega) hbt (fun v' w' r1 r2 => ?_)
    · injection hb' with hb'
      subst hb'
      rw [Addr.add_lit, Nat.zero_add]
      exact hcs j z hz
    · refine hk v' w' ?_ (Up.of_grown r2 (fun g hg => by cases hg))
      have r3 : Row w' w.heap.size e v' (us ++ [u]) := by
        unfold Row
        rw [List.length_append]
        exact r1
      exact r3.mono hX
  · obtain ⟨v', w', hr, h2, h3, h4, h5⟩ := run_append_share (P := Try.prog) w X t o.type e i0 z bytes hU hi hz0 hz1 hz2 hzc v us hrow ⟨g, 0, none⟩ 1 1 [u] rfl hcc h1c (by unfold maxLen; omega) hbt hX
    refine wpList_plain hgd fun K hK => ?_
    unfold Oper.wp execOp
    simp only [ho, resolve, invoke, builtin, Sem.run_bind, Sem.run_pure, Result.andThen_ok, List.map_toArray, List.map_cons, List.map_nil, hx, hy, hr]
    exact hK _ _ (hk v' w' h2 (Up.of_grown h3 (fun g hg => by obtain ⟨cur, hc, hb, _⟩ := hrow.blk3 hg; exact ⟨hb, cur, hc⟩)))
end
/-- A row of bytes that is lengthened. -/
def Lb (w1 W : World) (i j : Nat) (bv : Value) : Prop := Below w1.heap.size w1 W ∧ ∃ cs, Gr w1.heap.size W 5 bv cs ∧ (j = 0 ∨ Row W w1.heap.size 5 bv cs) ∧ cs.length = 512 + j ∧ (∀ k, k < 512 → cs[k]? = some (.int .u8 (mkO i k))) ∧ ∀ k, k < j → cs[512 + k]? = some (.int .u8 (mkP i k))
theorem Lb.next {w1 W : World} {i j : Nat} {bv : Value} (h : Lb w1 W i j bv) (hj : j < 70) : ∃ cs, Gr w1.heap.size (W.alloc (.cells #[.int .u8 (mkP i j)] 5)) 5 bv cs ∧ cs.length ≤ 1000000 ∧ w1.heap.size ≤ (W.alloc (.cells #[.int .u8 (mkP i j)] 5)).heap.size ∧ ∀ v3 w3, Row w3 w1.heap.size 5 v3 (cs ++ [.int .u8 (mkP i j)]) → Up (fun b => w1.heap.size ≤ b ∧ ∃ cur, (W.alloc (.cells #[.int .u8 (mkP i j)] 5)).heap[b]? = some (.cells cur 5)) (W.alloc (.cells #[.int .u8 (mkP i j)] 5)) w3 → (∃ a n c, v3 = .slice a n c) ∧ Lb w1 w3 i (j + 1) v3 := by
  obtain ⟨hb, cs, h1, _, h3, h4, h5⟩ := h
  have hb2 := (Below.refl W.heap.size W).alloc (Nat.le_refl _) (.cells #[.int .u8 (mkP i j)] 5)
  have hsz : w1.heap.size ≤ (W.alloc (.cells #[.int .u8 (mkP i j)] 5)).heap.size := Nat.le_trans hb.size hb2.size
  refine ⟨cs, h1.below hb2, by omega, hsz, fun v3 w3 hr hu => ?_⟩
  obtain ⟨a, c, e⟩ := hr.shape
  refine ⟨⟨a, _, c, e⟩, (hb.trans (hb2.mono hb.size)).trans (hu.below hsz (fun b hb => hb.1)), _, Or.inr hr, Or.inr hr, by rw [List.length_append, h3]; rfl, fun k hk => ?_, fun k hk => ?_⟩
  · rw [List.getElem?_append_left (by omega)]; exact h4 k hk
  · by_cases e : k = j
    · subst e; rw [List.getElem?_append_right (by omega), h3, Nat.sub_self]; rfl
    · rw [List.getElem?_append_left (by omega)]; exact h5 k (by omega)
/-- An image that is lengthened. -/
def Li (w1 W : World) (m i j : Nat) (R : List Value) (lv : Value) : Prop := Below w1.heap.size w1 W ∧ ∃ us, Gr w1.heap.size W 23 lv us ∧ (j = 0 ∨ Row W w1.heap.size 23 lv us) ∧ us.length = m + j ∧ (∀ k, k < m → us[k]? = R[k]?) ∧ ∀ k, k < j → ∃ y, us[m + k]? = some (.slice (some ⟨y, 0, none⟩) 3 3) ∧ Arr W y 5 (tri i k 88)
def triW (W : World) (i j : Nat) : World := W.alloc (.cells #[.int .u8 (IntKind.u8.wrap (i : Int)), .int .u8 (IntKind.u8.wrap (j : Int)), .int .u8 88] 5)
def triX (W : World) (i j : Nat) : World := (triW W i j).alloc (.cells #[.slice (some ⟨W.heap.size, 0, none⟩) 3 3] 23)
theorem Li.next {w1 W : World} {m i j : Nat} {R : List Value} {lv : Value} (h : Li w1 W m i j R lv) (hj : j < 5) (hm : m ≤ 20) : ∃ us, Gr w1.heap.size (triX W i j) 23 lv us ∧ us.length ≤ 1000000 ∧ w1.heap.size ≤ (triX W i j).heap.size ∧ ∀ v3 w3, Row w3 w1.heap.size 23 v3 (us ++ [.slice (some ⟨W.heap.size, 0, none⟩) 3 3]) → Up (fun b => w1.heap.size ≤ b ∧ ∃ cur, (triX W i j).heap[b]? = some (.cells cur 23)) (triX W i j) w3 → (∃ a n c, v3 = .slice a n c) ∧ Li w1 w3 m i (j + 1) R v3 := by
  obtain ⟨hb, us, h1, _, h3, h4, h5⟩ := h
  have hbA : Below W.heap.size W (triW W i j) := (Below.refl W.heap.size W).alloc (Nat.le_refl _) _
  have hbB : Below (triW W i j).heap.size (triW W i j) (triX W i j) := (Below.refl _ _).alloc (Nat.le_refl _) _
  have hb2 : Below W.heap.size W (triX W i j) := hbA.trans (hbB.mono hbA.size)
  have hsz : w1.heap.size ≤ (triX W i j).heap.size := Nat.le_trans hb.size hb2.size
  have hn : Arr (triX W i j) W.heap.size 5 (tri i j 88) := Arr.below (w := triW W i j) (Arr.new W (tri i j 88) 5) hbB
  refine ⟨us, h1.below hb2, by omega, hsz, fun v3 w3 hr hu => ?_⟩
  have kp : ∀ {y : Nat} {cs : List Value}, Arr (triX W i j) y 5 cs → Arr w3 y 5 cs := fun {y cs} ha => ha.up3 hu (fun ⟨_, cur, hc⟩ => arr_ne3 ha hc (by decide) rfl)
  obtain ⟨a, c, e⟩ := hr.shape
  refine ⟨⟨a, _, c, e⟩, (hb.trans (hb2.mono hb.size)).trans (hu.below hsz (fun b hb => hb.1)), _, Or.inr hr, Or.inr hr, by rw [List.length_append, h3]; rfl, fun k hk => ?_, fun k hk => ?_⟩
  · rw [List.getElem?_append_left (by omega)]; exact h4 k hk
  · by_cases e : k = j
    · subst e; exact ⟨_, by rw [List.getElem?_append_right (by omega), h3, Nat.sub_self]; rfl, kp hn⟩
    · obtain ⟨y, y1, y2⟩ := h5 k (by omega)
      exact ⟨y, by rw [List.getElem?_append_left (by omega)]; exact y1, kp (y2.below hb2)⟩
set_option maxRecDepth 100000 in
set_option maxHeartbeats 8000000 in
theorem settled_calls {w wS : World} {sp N M m B p q : Nat} {gB gI : Nat → Nat} {Rb0 Ri0 : Nat → List Value} {vB vI : Value} {uB uI : List Value} {A : Nat → Prop} {G : Nat → Nat} {D E : AD} (h : Fz w wS sp N M m gB gI Rb0 Ri0 vB vI (.slice none 0 0) (.slice none 0 0) uB uI [] [] 0 0 0 0 A B p q G D E) (hN0 : 0 < N) (hM0 : 0 < M) (hN : N ≤ 20000) (hM : M ≤ 2000) (hm : m ≤ 20) :
    Calls Try.prog 26 #[.pointer (some ⟨sp, 0, none⟩)] wS fun e w' => e = .returned (.bool true) ∧ ∃ Rb Ri vB vI vC vJ uB uI uC uJ, Fz w w' sp N M m gB gI Rb Ri vB vI vC vJ uB uI uC uJ N M N M A B p q G D E := by
  obtain ⟨bB, cB, eB, _⟩ := h.sh.rB.head (by rw [h.sh.lB]; exact hN0)
  obtain ⟨bI, cI, eI, _⟩ := h.sh.rI.head (by rw [h.sh.lI]; exact hM0)
  rw [h.sh.lB] at eB
  rw [h.sh.lI] at eI
  subst eB eI
  have H0 := hide h
  have HN0 := hide hN0
  have HM0 := hide hM0
  have HMM := hide hm
  clear h hN0 hM0 hm
  go_enter Try.func26, Try.ntmps26
  go_wp2
  go_loopw [3] (fun iv W => ∃ i : Nat, i ≤ N ∧ iv = .int .i64 (i : Int) ∧ Hid (∃ Rb, Fz w W sp N M m gB gI Rb Ri0 (.slice (some ⟨bB, 0, none⟩) N cB) (.slice (some ⟨bI, 0, none⟩) M cI) (.slice none 0 0) (.slice none 0 0) uB uI [] [] i 0 0 0 A B p q G D E)) (fun iv _ => N - (intOf iv).toNat)
  case atStart => exact ⟨0, by omega, rfl, hide ⟨_, H0.out⟩⟩
  case round =>
    clear H0
    obtain ⟨i, hi, rfl, HZ⟩ := hrel
    obtain ⟨hc0, _, _, _⟩ := (HZ.out.choose_spec).sps
    by_cases hiN : i < N
    · have hiI : (i : Int) < (N : Int) := by omega
      obtain ⟨hcb, _⟩ := (HZ.out.choose_spec).atB hiN
      obtain ⟨gk, hgk⟩ : ∃ gk, gk = gB i := ⟨_, rfl⟩
      have HGK := hide hgk
      rw [← hgk] at hcb
      clear hgk
      have HJ : Hid (∃ Rb, (Fz w wr sp N M m gB gI Rb Ri0 (.slice (some ⟨bB, 0, none⟩) N cB) (.slice (some ⟨bI, 0, none⟩) M cI) (.slice none 0 0) (.slice none 0 0) uB uI [] [] i 0 0 0 A B p q G D E) ∧ ∀ k, k < 0 → (Rb i)[k]? = some (.int .u8 (mkO i k))) := hide (by obtain ⟨Rb, h⟩ := HZ.out; exact ⟨Rb, h, fun k hk => by omega⟩)
      clear HZ
      go_wp2_with fail
      clear hc0 hcb
      go_loopw [4] (fun jv W => ∃ j : Nat, j ≤ 512 ∧ jv = .int .i64 (j : Int) ∧ Hid (∃ Rb, (Fz w W sp N M m gB gI Rb Ri0 (.slice (some ⟨bB, 0, none⟩) N cB) (.slice (some ⟨bI, 0, none⟩) M cI) (.slice none 0 0) (.slice none 0 0) uB uI [] [] i 0 0 0 A B p q G D E) ∧ ∀ k, k < j → (Rb i)[k]? = some (.int .u8 (mkO i k)))) (fun jv _ => 512 - (intOf jv).toNat)
      case atStart => exact ⟨0, by omega, rfl, HJ⟩
      case round =>
        clear HJ
        obtain ⟨j, hj, rfl, HJ⟩ := hrel
        obtain ⟨Rb, hz, hr⟩ := HJ.out
        have hzd := hz.below ((Below.refl wr.heap.size wr).drew)
        obtain ⟨hc0, _, _, _⟩ := hz.sps
        obtain ⟨hcb, _⟩ := hz.atB hiN
        obtain ⟨hd0, _, _, _⟩ := hzd.sps
        obtain ⟨hdb, hcg⟩ := hzd.atB hiN
        rw [← HGK.out] at hcb hcg hdb
        by_cases hj5 : j < 512
        · have hjI : (j : Int) < 512 := by omega
          obtain ⟨⟨u, hcg⟩, hfg⟩ := hcg j hj5
          obtain ⟨Rb', hz2, hr2⟩ := hzd.markB hiN rfl hj5 hr
          rw [← HGK.out] at hz2
          obtain ⟨hc02, _, _, _⟩ := hz2.sps
          have hcb2 := (hz2.atB hiN).1
          rw [← HGK.out] at hcb2
          obtain ⟨e, e8, q1, hand, hmul, he0, he64, hshr, hcv⟩ := mark_facts i j (by omega)
          have HS3 : Hid (∃ Rb, (Fz w (wr.drew.setCell ⟨gk, j, none⟩ (.int .u8 (mkO i j))) sp N M m gB gI Rb Ri0 (.slice (some ⟨bB, 0, none⟩) N cB) (.slice (some ⟨bI, 0, none⟩) M cI) (.slice none 0 0) (.slice none 0 0) uB uI [] [] i 0 0 0 A B p q G D E) ∧ ∀ k, k < j + 1 → (Rb i)[k]? = some (.int .u8 (mkO i k))) := hide ⟨Rb', hz2, hr2⟩
          clear hz hr hzd hz2 hr2 HJ
          generalize mkO i j = V at hcv HS3 hc02 hcb2
          go_wp2_with fail
          refine wp_region_held_drew (S := fun W => W.cell? ⟨sp, 0, none⟩ = some (.slice (some ⟨bB, 0, none⟩) N cB) ∧ W.cell? ⟨bB, i, none⟩ = some (.slice (some ⟨gk, 0, none⟩) 512 512)) (by kernel_rfl) (⟨hd0, hdb⟩) (fun hHeld => ?_)
          refine wpAnyH_take (i := 0) (v := .pointer (some ⟨sp, 0, none⟩)) rfl (by kernel_rfl) (by kernel_rfl) (by kernel_rfl) (fun _ _ _ h => h) (Or.inl ⟨by rfl, fun w hSw => by obtain ⟨hS1, hS2⟩ := hSw; go_simp⟩) (by assumption) ?_
          simp only [List.getElem_toArray, List.getElem_cons_zero, Act.put, List.setIfInBounds_toArray, List.set_cons_zero, List.set_cons_succ]
          refine wpAnyH_take (i := 1) (v := .pointer (some ⟨sp, 0, none⟩)) rfl (by kernel_rfl) (by kernel_rfl) (by kernel_rfl) (fun _ _ _ h => h) (Or.inl ⟨by rfl, fun w hSw => by obtain ⟨hS1, hS2⟩ := hSw; go_simp⟩) (by assumption) ?_
          simp only [List.getElem_toArray, List.getElem_cons_succ, List.getElem_cons_zero, Act.put, List.setIfInBounds_toArray, List.set_cons_zero, List.set_cons_succ]
          refine wpAnyH_take (i := 2) (v := .pointer (some ⟨sp, 0, none⟩)) rfl (by kernel_rfl) (by kernel_rfl) (by kernel_rfl) (fun _ _ _ h => h) (Or.inl ⟨by rfl, fun w hSw => by obtain ⟨hS1, hS2⟩ := hSw; go_simp⟩) (by assumption) ?_
          simp only [List.getElem_toArray, List.getElem_cons_succ, List.getElem_cons_zero, Act.put, List.setIfInBounds_toArray, List.set_cons_zero, List.set_cons_succ]
          refine wpAnyH_take (i := 3) (v := .slice (some ⟨bB, 0, none⟩) N cB) rfl (by kernel_rfl) (by kernel_rfl) (by kernel_rfl) (fun _ _ _ h => h) (Or.inl ⟨by rfl, fun w hSw => by obtain ⟨hS1, hS2⟩ := hSw; go_simp⟩) (by assumption) ?_
          simp only [List.getElem_toArray, List.getElem_cons_succ, List.getElem_cons_zero, Act.put, List.setIfInBounds_toArray, List.set_cons_zero, List.set_cons_succ]
          refine wpAnyH_take (i := 4) (v := .int .i64 (i : Int)) rfl (by kernel_rfl) (by kernel_rfl) (by kernel_rfl) (fun _ _ _ h => h) (Or.inl ⟨by rfl, fun w hSw => by obtain ⟨hS1, hS2⟩ := hSw; go_simp⟩) (by assumption) ?_
          simp only [List.getElem_toArray, List.getElem_cons_succ, List.getElem_cons_zero, Act.put, List.setIfInBounds_toArray, List.set_cons_zero, List.set_cons_succ]
          refine wpAnyH_take (i := 5) (v := .pointer (some ⟨bB, i, none⟩)) rfl (by kernel_rfl) (by kernel_rfl) (by kernel_rfl) (fun _ _ _ h => h) (Or.inl ⟨by rfl, fun w hSw => by obtain ⟨hS1, hS2⟩ := hSw; go_simp⟩) (by assumption) ?_
          simp only [List.getElem_toArray, List.getElem_cons_succ, List.getElem_cons_zero, Act.put, List.setIfInBounds_toArray, List.set_cons_zero, List.set_cons_succ]
          refine wpAnyH_take (i := 6) (v := .slice (some ⟨gk, 0, none⟩) 512 512) rfl (by kernel_rfl) (by kernel_rfl) (by kernel_rfl) (fun _ _ _ h => h) (Or.inl ⟨by rfl, fun w hSw => by obtain ⟨hS1, hS2⟩ := hSw; go_simp⟩) (by assumption) ?_
          simp only [List.getElem_toArray, List.getElem_cons_succ, List.getElem_cons_zero, Act.put, List.setIfInBounds_toArray, List.set_cons_zero, List.set_cons_succ]
          refine wpAnyH_take (i := 7) (v := .int .i64 (j : Int)) rfl (by kernel_rfl) (by kernel_rfl) (by kernel_rfl) (fun _ _ _ h => h) (Or.inl ⟨by rfl, fun w hSw => by obtain ⟨hS1, hS2⟩ := hSw; go_simp⟩) (by assumption) ?_
          simp only [List.getElem_toArray, List.getElem_cons_succ, List.getElem_cons_zero, Act.put, List.setIfInBounds_toArray, List.set_cons_zero, List.set_cons_succ]
          refine wpAnyH_take (i := 8) (v := .int .i64 (i : Int)) rfl (by kernel_rfl) (by kernel_rfl) (by kernel_rfl) (fun _ _ _ h => h) (Or.inl ⟨by rfl, fun w hSw => by obtain ⟨hS1, hS2⟩ := hSw; go_simp⟩) (by assumption) ?_
          simp only [List.getElem_toArray, List.getElem_cons_succ, List.getElem_cons_zero, Act.put, List.setIfInBounds_toArray, List.set_cons_zero, List.set_cons_succ]
          refine wpAnyH_take (i := 9) (v := .int .i64 (j : Int)) rfl (by kernel_rfl) (by kernel_rfl) (by kernel_rfl) (fun _ _ _ h => h) (Or.inl ⟨by rfl, fun w hSw => by obtain ⟨hS1, hS2⟩ := hSw; go_simp⟩) (by assumption) ?_
          simp only [List.getElem_toArray, List.getElem_cons_succ, List.getElem_cons_zero, Act.put, List.setIfInBounds_toArray, List.set_cons_zero, List.set_cons_succ]
          refine wpAnyH_take (i := 10) (v := .int .i64 e) rfl (by kernel_rfl) (by kernel_rfl) (by kernel_rfl) (fun _ _ _ h => h) (Or.inl ⟨by rfl, fun w hSw => by obtain ⟨hS1, hS2⟩ := hSw; go_simp⟩) (by assumption) ?_
          simp only [List.getElem_toArray, List.getElem_cons_succ, List.getElem_cons_zero, Act.put, List.setIfInBounds_toArray, List.set_cons_zero, List.set_cons_succ]
          refine wpAnyH_take (i := 11) (v := .int .i64 e8) rfl (by kernel_rfl) (by kernel_rfl) (by kernel_rfl) (fun _ _ _ h => h) (Or.inl ⟨by rfl, fun w hSw => by obtain ⟨hS1, hS2⟩ := hSw; go_simp⟩) (by assumption) ?_
          simp only [List.getElem_toArray, List.getElem_cons_succ, List.getElem_cons_zero, Act.put, List.setIfInBounds_toArray, List.set_cons_zero, List.set_cons_succ]
          refine wpAnyH_take (i := 12) (v := .int .i64 q1) rfl (by kernel_rfl) (by kernel_rfl) (by kernel_rfl) (fun _ _ _ h => h) (Or.inl ⟨by rfl, fun w hSw => by obtain ⟨hS1, hS2⟩ := hSw; go_simp⟩) (by assumption) ?_
          simp only [List.getElem_toArray, List.getElem_cons_succ, List.getElem_cons_zero, Act.put, List.setIfInBounds_toArray, List.set_cons_zero, List.set_cons_succ]
          refine wpAnyH_take (i := 13) (v := .int .u8 V) rfl (by kernel_rfl) (by kernel_rfl) (by kernel_rfl) (fun _ _ _ h => h) (Or.inl ⟨by rfl, fun w hSw => by obtain ⟨hS1, hS2⟩ := hSw; go_simp⟩) (by assumption) ?_
          simp only [List.getElem_toArray, List.getElem_cons_succ, List.getElem_cons_zero, Act.put, List.setIfInBounds_toArray, List.set_cons_zero, List.set_cons_succ]
          refine wpAnyH_take (i := 14) (v := .pointer (some ⟨gk, j, none⟩)) rfl (by kernel_rfl) (by kernel_rfl) (by kernel_rfl) (fun _ _ _ h => h) (Or.inl ⟨by rfl, fun w hSw => by obtain ⟨hS1, hS2⟩ := hSw; go_simp⟩) (by assumption) ?_
          simp only [List.getElem_toArray, List.getElem_cons_succ, List.getElem_cons_zero, Act.put, List.setIfInBounds_toArray, List.set_cons_zero, List.set_cons_succ]
          refine wpAnyH_ready (rs := [15]) (by kernel_rfl) (by simp) (AllReadyH.cons rfl (fun K hK => ?_) AllReadyH.nil)
          refine step_store8 (by rfl) (.tmp 48) (.tmp 47) rfl rfl rfl hcg hfg ?_
          refine hK.out _ _ (⟨hc02, hcb2⟩) (fun hHeld2 => ?_)
          clear hK K
          simp only [List.getElem_toArray, List.getElem_cons_succ, List.getElem_cons_zero, Act.put]
          refine wpAnyH_done (by kernel_rfl) ?_ _
          clear hHeld hHeld2
          go_wp2
          go_roundw
          case rel => exact ⟨j + 1, by omega, by go_num, HS3⟩
          case measure => simp [intOf]; omega
        · have hjN : ¬ (j : Int) < 512 := by omega
          have HZ : Hid (∃ Rb, Fz w wr sp N M m gB gI Rb Ri0 (.slice (some ⟨bB, 0, none⟩) N cB) (.slice (some ⟨bI, 0, none⟩) M cI) (.slice none 0 0) (.slice none 0 0) uB uI [] [] (i + 1) 0 0 0 A B p q G D E) := hide ⟨Rb, hz.rowB rfl (fun k hk => hr k (by omega))⟩
          clear hz hr hzd HJ hcg hd0 hdb
          go_wp2
          go_roundw
          case rel => exact ⟨i + 1, by omega, by go_num, HZ⟩
          case measure => simp [intOf]; omega
    · have hiN2 : ¬ (i : Int) < (N : Int) := by omega
      have HEI : Hid (i = N) := hide (by omega)
      obtain ⟨Rb1, HQ⟩ : ∃ Rb1, Hid (Fz w wr sp N M m gB gI Rb1 Ri0 (.slice (some ⟨bB, 0, none⟩) N cB) (.slice (some ⟨bI, 0, none⟩) M cI) (.slice none 0 0) (.slice none 0 0) uB uI [] [] N 0 0 0 A B p q G D E) := by obtain ⟨Rb1, h⟩ := HZ.out; exact ⟨Rb1, hide (by rw [HEI.out] at h; exact h)⟩
      clear HZ
      go_wp2
      clear hiN hiN2 hi hc0 HEI
      rename Nat => io
      rename World => w0
      go_loopw [5] (fun iv W => ∃ i : Nat, i ≤ M ∧ iv = .int .i64 (i : Int) ∧ Hid (∃ Ri, Fz w W sp N M m gB gI Rb1 Ri (.slice (some ⟨bB, 0, none⟩) N cB) (.slice (some ⟨bI, 0, none⟩) M cI) (.slice none 0 0) (.slice none 0 0) uB uI [] [] N i 0 0 A B p q G D E)) (fun iv _ => M - (intOf iv).toNat)
      case atStart => exact ⟨0, by omega, rfl, hide ⟨_, HQ.out⟩⟩
      case round =>
        clear HQ
        obtain ⟨i, hi, rfl, HZ⟩ := hrel
        obtain ⟨_, hc1, _, _⟩ := (HZ.out.choose_spec).sps
        by_cases hiM : i < M
        · have hiI : (i : Int) < (M : Int) := by omega
          obtain ⟨hcb, _⟩ := (HZ.out.choose_spec).atI hiM
          obtain ⟨gk, hgk⟩ : ∃ gk, gk = gI i := ⟨_, rfl⟩
          have HGK := hide hgk
          rw [← hgk] at hcb
          clear hgk
          have HJ : Hid (∃ Ri, (Fz w wr sp N M m gB gI Rb1 Ri (.slice (some ⟨bB, 0, none⟩) N cB) (.slice (some ⟨bI, 0, none⟩) M cI) (.slice none 0 0) (.slice none 0 0) uB uI [] [] N i 0 0 A B p q G D E) ∧ ∀ k, k < 0 → ∃ y, (Ri i)[k]? = some (.slice (some ⟨y, 0, none⟩) 3 3) ∧ Arr wr y 5 (tri i k 77)) := hide (by obtain ⟨Ri, h⟩ := HZ.out; exact ⟨Ri, h, fun k hk => by omega⟩)
          have hmm : (m : Int) < 4611686018427387904 := by have := HMM.out; omega
          clear HZ
          go_wp2_with fail
          clear hc1 hcb
          go_loopw [6] (fun jv W => ∃ j : Nat, j ≤ m ∧ jv = .int .i64 (j : Int) ∧ Hid (∃ Ri, (Fz w W sp N M m gB gI Rb1 Ri (.slice (some ⟨bB, 0, none⟩) N cB) (.slice (some ⟨bI, 0, none⟩) M cI) (.slice none 0 0) (.slice none 0 0) uB uI [] [] N i 0 0 A B p q G D E) ∧ ∀ k, k < j → ∃ y, (Ri i)[k]? = some (.slice (some ⟨y, 0, none⟩) 3 3) ∧ Arr W y 5 (tri i k 77))) (fun jv _ => m - (intOf jv).toNat)
          case atStart => exact ⟨0, by omega, rfl, HJ⟩
          case round =>
            clear HJ
            obtain ⟨j, hj, rfl, HJ⟩ := hrel
            obtain ⟨Ri, hz, hr⟩ := HJ.out
            obtain ⟨_, hc1, _, _⟩ := hz.sps
            obtain ⟨hcb, hcg⟩ := hz.atI hiM
            rw [← HGK.out] at hcb hcg
            by_cases hjm : j < m
            · have hjI : (j : Int) < (m : Int) := by omega
              obtain ⟨⟨u, hcg⟩, _⟩ := hcg j hjm
              obtain ⟨wi, hwi⟩ : ∃ wi, IntKind.u8.wrap (i : Int) = wi := ⟨_, rfl⟩
              obtain ⟨wj, hwj⟩ : ∃ wj, IntKind.u8.wrap (j : Int) = wj := ⟨_, rfl⟩
              have hza := hz.below ((Below.refl wr.heap.size wr).alloc (Nat.le_refl _) (.cells #[.int .u8 wi, .int .u8 wj, .int .u8 77] 5))
              obtain ⟨_, hga⟩ := hza.atI hiM
              rw [← HGK.out] at hga
              obtain ⟨⟨ua, hcga⟩, hfga⟩ := hga j hjm
              obtain ⟨Ri', hz2, hr2⟩ := hz.markI hiM rfl hjm hr
              have HS3 : Hid (∃ Ri, (Fz w ((wr.alloc (.cells #[.int .u8 wi, .int .u8 wj, .int .u8 77] 5)).setCell ⟨gk, j, none⟩ (.slice (some ⟨wr.heap.size, 0, none⟩) 3 3)) sp N M m gB gI Rb1 Ri (.slice (some ⟨bB, 0, none⟩) N cB) (.slice (some ⟨bI, 0, none⟩) M cI) (.slice none 0 0) (.slice none 0 0) uB uI [] [] N i 0 0 A B p q G D E) ∧ ∀ k, k < j + 1 → ∃ y, (Ri i)[k]? = some (.slice (some ⟨y, 0, none⟩) 3 3) ∧ Arr ((wr.alloc (.cells #[.int .u8 wi, .int .u8 wj, .int .u8 77] 5)).setCell ⟨gk, j, none⟩ (.slice (some ⟨wr.heap.size, 0, none⟩) 3 3)) y 5 (tri i k 77)) := hide (by rw [HGK.out, ← hwi, ← hwj]; exact ⟨Ri', hz2, hr2⟩)
              clear hz hr hza hz2 hr2 HJ
              go_wp2
              go_roundw
              case rel => exact ⟨j + 1, by omega, by go_num, HS3⟩
              case measure => simp [intOf]; omega
            · have hjN : ¬ (j : Int) < (m : Int) := by omega
              have HZ : Hid (∃ Ri, Fz w wr sp N M m gB gI Rb1 Ri (.slice (some ⟨bB, 0, none⟩) N cB) (.slice (some ⟨bI, 0, none⟩) M cI) (.slice none 0 0) (.slice none 0 0) uB uI [] [] N (i + 1) 0 0 A B p q G D E) := hide ⟨Ri, hz.rowI rfl (fun k hk => hr k (by omega))⟩
              clear hz hr HJ hcg
              go_wp2
              go_roundw
              case rel => exact ⟨i + 1, by omega, by go_num, HZ⟩
              case measure => simp [intOf]; omega
        · have hiM2 : ¬ (i : Int) < (M : Int) := by omega
          have HEI : Hid (i = M) := hide (by omega)
          obtain ⟨Ri1, HQ⟩ : ∃ Ri1, Hid (Fz w wr sp N M m gB gI Rb1 Ri1 (.slice (some ⟨bB, 0, none⟩) N cB) (.slice (some ⟨bI, 0, none⟩) M cI) (.slice none 0 0) (.slice none 0 0) uB uI [] [] N M 0 0 A B p q G D E) := by obtain ⟨Ri1, h⟩ := HZ.out; exact ⟨Ri1, hide (by rw [HEI.out] at h; exact h)⟩
          clear HZ
          go_wp2
          clear hiM hiM2 hi hc1 HEI
          rename Nat => i1
          rename World => w00
          go_loopw [7] (fun iv W => ∃ i : Nat, i ≤ N ∧ iv = .int .i64 (i : Int) ∧ Hid (∃ vC uC, Fz w W sp N M m gB gI Rb1 Ri1 (.slice (some ⟨bB, 0, none⟩) N cB) (.slice (some ⟨bI, 0, none⟩) M cI) vC (.slice none 0 0) uB uI uC [] N M i 0 A B p q G D E)) (fun iv _ => N - (intOf iv).toNat)
          case atStart => exact ⟨0, by omega, rfl, hide ⟨_, _, HQ.out⟩⟩
          case round =>
            clear HQ
            obtain ⟨i, hi, rfl, HZ⟩ := hrel
            obtain ⟨vC, uC, hz⟩ := HZ.out
            obtain ⟨hc0, _, hc2, _⟩ := hz.sps
            by_cases hiN : i < N
            · have hiI : (i : Int) < (N : Int) := by omega
              obtain ⟨hcb, _⟩ := hz.atB hiN
              obtain ⟨gk, hgk⟩ : ∃ gk, gk = gB i := ⟨_, rfl⟩
              rw [← hgk] at hcb
              have HLB : Hid (Lb wr wr i 0 (.slice (some ⟨gk, 0, none⟩) 512 512)) := hide ⟨Below.refl _ _, Rb1 i, Or.inl ⟨gk, by rw [(hz.sh.aB i hiN).2], fun k u hu => by rw [hgk]; exact (hz.sh.aB i hiN).1.cell_of hu⟩, Or.inl rfl, (hz.sh.aB i hiN).2, fun k hk => hz.x.fB i hiN k hk, fun k hk => by omega⟩
              have HZ1 := hide hz
              clear HZ hz hgk
              rename World => w1
              go_wp2_with fail
              clear hc0 hcb hc2
              go_loopw [8, 9] (fun bv jv W => ∃ j : Nat, j ≤ 70 ∧ jv = .int .i64 (j : Int) ∧ (∃ a n c, bv = .slice a n c) ∧ Hid (Lb w1 W i j bv)) (fun _ jv _ => 70 - (intOf jv).toNat)
              case atStart => exact ⟨0, by omega, rfl, ⟨_, _, _, rfl⟩, HLB⟩
              case round =>
                clear HLB
                obtain ⟨j, hj, rfl, ⟨ba, bn, bc, rfl⟩, HL⟩ := hrel
                by_cases hj7 : j < 70
                · have hjI : (j : Int) < 70 := by omega
                  obtain ⟨e, e8, q1, hand, hmul, he0, he64, hshr, hcv⟩ := mark_facts i j (by omega)
                  have hadd : IntKind.u8.wrap (mkO i j + 101) = mkP i j := rfl
                  obtain ⟨cs, hgr, hl, hsz, hnx⟩ := HL.out.next hj7
                  have HG := hide hgr
                  have HNX := hide hnx
                  clear hgr hnx HL
                  generalize mkP i j = V2 at hadd HG HNX hsz
                  generalize mkO i j = V at hcv hadd
                  have hcn : (wr.alloc (.cells #[.int .u8 V2] 5)).cell? ⟨wr.heap.size, 0, none⟩ = some (.int .u8 V2) := by simp
                  go_wp2_with (first
                    | (at_builtin; refine wpList_appU Try.underlying23 info8O rfl (by decide) rfl (.tmp 104) (.tmp 112) rfl rfl HG.out rfl hcn rfl hl hsz ?_; intro v3 w3 hr3 hu3
                       obtain ⟨⟨a3, n3, c3, rfl⟩, hS3⟩ := unhide HNX v3 w3 hr3 hu3
                       have HS3 := hide hS3
                       clear hr3 hu3 HNX hS3 HG hcn hl hsz))
                  go_roundw
                  case rel => exact ⟨j + 1, by omega, by go_num, ⟨_, _, _, rfl⟩, HS3⟩
                  case measure => simp [intOf]; omega
                · have hjN : ¬ (j : Int) < 70 := by omega
                  obtain ⟨hb, cs, _, hrow, hcl, hm1, hm2⟩ := HL.out
                  have hr0 : Row wr w.heap.size 5 (.slice ba bn bc) cs := (hrow.resolve_left (by omega)).mono HZ1.out.sh.bel.size
                  have hb2 := (Below.refl wr.heap.size wr).alloc (Nat.le_refl _) (.cells #[.slice ba bn bc] 23)
                  have hz2 := HZ1.out.below hb
                  have hz3 := hz2.below hb2
                  have hr2 : Row (wr.alloc (.cells #[.slice ba bn bc] 23)) w.heap.size 5 (.slice ba bn bc) cs := hr0.up3 (F := fun _ => False) (Up.of_below hb2) (fun _ _ h => h)
                  obtain ⟨_, _, hc2, _⟩ := hz2.sps
                  have HR := hide hz3.sh.rC
                  have hl : uC.length ≤ 1000000 := by rw [hz3.x.lC]; omega
                  have hsz : w.heap.size ≤ (wr.alloc (.cells #[.slice ba bn bc] 23)).heap.size := hz3.sh.bel.size
                  have HNX := hide (fun v3 w3 hr3 hg3 hat3 => hz3.pushC (v' := v3) (w2 := w3) hr2 (by omega) hm1 (fun k hk => hm2 k (by omega)) hg3 hr3 hat3)
                  have hcn : (wr.alloc (.cells #[.slice ba bn bc] 23)).cell? ⟨wr.heap.size, 0, none⟩ = some (.slice ba bn bc) := by simp
                  clear hb hrow hcl hm1 hm2 hr0 hb2 hz2 hz3 hr2 HL HZ1
                  go_wp2_with (first
                    | (at_builtin; refine wpList_appL Try.underlying33 infoSlO rfl (.tmp 118) (.tmp 120) rfl rfl HR.out rfl hcn rfl hl hsz ?_; intro v3 w3 hr3 hg3 hat3
                       obtain ⟨⟨a3, n3, c3, rfl⟩, ⟨z3, hz3⟩, hf3, hS3⟩ := unhide HNX v3 w3 hr3 hg3 hat3
                       have HS3 := hide hS3
                       clear hr3 hg3 hat3 HNX hS3 HR hcn hl hsz))
                  go_roundw
                  case rel => exact ⟨i + 1, by omega, by go_num, hide ⟨_, _, HS3.out⟩⟩
                  case measure => simp [intOf]; omega
            · have hiN2 : ¬ (i : Int) < (N : Int) := by omega
              have HEI : Hid (i = N) := hide (by omega)
              have HQ : Hid (Fz w wr sp N M m gB gI Rb1 Ri1 (.slice (some ⟨bB, 0, none⟩) N cB) (.slice (some ⟨bI, 0, none⟩) M cI) vC (.slice none 0 0) uB uI uC [] N M N 0 A B p q G D E) := hide (by rw [HEI.out] at hz; exact hz)
              clear HZ hz
              go_wp2
              clear hiN hiN2 hi hc0 hc2 HEI
              rename Nat => i2
              rename World => w01
              go_loopw [10] (fun iv W => ∃ i : Nat, i ≤ M ∧ iv = .int .i64 (i : Int) ∧ Hid (∃ vJ uJ, Fz w W sp N M m gB gI Rb1 Ri1 (.slice (some ⟨bB, 0, none⟩) N cB) (.slice (some ⟨bI, 0, none⟩) M cI) vC vJ uB uI uC uJ N M N i A B p q G D E)) (fun iv _ => M - (intOf iv).toNat)
              case atStart => exact ⟨0, by omega, rfl, hide ⟨_, _, HQ.out⟩⟩
              case round =>
                clear HQ
                obtain ⟨i, hi, rfl, HZ⟩ := hrel
                obtain ⟨vJ, uJ, hz⟩ := HZ.out
                obtain ⟨_, hc1, _, hc3⟩ := hz.sps
                by_cases hiM : i < M
                · have hiI : (i : Int) < (M : Int) := by omega
                  obtain ⟨hcb, _⟩ := hz.atI hiM
                  obtain ⟨gk, hgk⟩ : ∃ gk, gk = gI i := ⟨_, rfl⟩
                  rw [← hgk] at hcb
                  have HLI : Hid (Li wr wr m i 0 (Ri1 i) (.slice (some ⟨gk, 0, none⟩) m m)) := hide ⟨Below.refl _ _, Ri1 i, Or.inl ⟨gk, by rw [(hz.sh.aI i hiM).2], fun k u hu => by rw [hgk]; exact (hz.sh.aI i hiM).1.cell_of hu⟩, Or.inl rfl, (hz.sh.aI i hiM).2, fun k hk => rfl, fun k hk => by omega⟩
                  have HZ1 := hide hz
                  clear HZ hz hgk
                  rename World => w1
                  go_wp2_with fail
                  clear hc1 hcb hc3
                  go_loopw [11, 12] (fun lv jv W => ∃ j : Nat, j ≤ 5 ∧ jv = .int .i64 (j : Int) ∧ (∃ a n c, lv = .slice a n c) ∧ Hid (Li w1 W m i j (Ri1 i) lv)) (fun _ jv _ => 5 - (intOf jv).toNat)
                  case atStart => exact ⟨0, by omega, rfl, ⟨_, _, _, rfl⟩, HLI⟩
                  case round =>
                    clear HLI
                    obtain ⟨j, hj, rfl, ⟨ba, bn, bc, rfl⟩, HL⟩ := hrel
                    by_cases hj5 : j < 5
                    · have hjI : (j : Int) < 5 := by omega
                      obtain ⟨us, hgr, hl, hsz, hnx⟩ := HL.out.next hj5 HMM.out
                      unfold triX triW at hgr hsz hnx
                      have HG := hide hgr
                      have HNX := hide hnx
                      clear hgr hnx HL
                      generalize hwi : IntKind.u8.wrap (i : Int) = wi at HG HNX hsz
                      generalize hwj : IntKind.u8.wrap (j : Int) = wj at HG HNX hsz
                      have hcn0 : ((wr.alloc (.cells #[.int .u8 wi, .int .u8 wj, .int .u8 88] 5)).alloc (.cells #[.slice (some ⟨wr.heap.size, 0, none⟩) 3 3] 23)).cell? ⟨(wr.alloc (.cells #[.int .u8 wi, .int .u8 wj, .int .u8 88] 5)).heap.size, 0, none⟩ = some (.slice (some ⟨wr.heap.size, 0, none⟩) 3 3) := (Arr.new _ [.slice (some ⟨wr.heap.size, 0, none⟩) 3 3] 23).cell_of rfl
                      have hcs : (wr.alloc (.cells #[.int .u8 wi, .int .u8 wj, .int .u8 88] 5)).heap.size = wr.heap.size + 1 := by simp
                      have hcn : ((wr.alloc (.cells #[.int .u8 wi, .int .u8 wj, .int .u8 88] 5)).alloc (.cells #[.slice (some ⟨wr.heap.size, 0, none⟩) 3 3] 23)).cell? ⟨wr.heap.size + 1, 0, none⟩ = some (.slice (some ⟨wr.heap.size, 0, none⟩) 3 3) := by rw [← hcs]; exact hcn0
                      clear hcn0 hcs
                      go_wp2_with (first
                        | (at_builtin; refine wpList_appU Try.underlying33 infoSlO rfl (by decide) rfl (.tmp 144) (.tmp 150) rfl rfl HG.out rfl hcn rfl hl hsz ?_; intro v3 w3 hr3 hu3
                           obtain ⟨⟨a3, n3, c3, rfl⟩, hS3⟩ := unhide HNX v3 w3 hr3 hu3
                           have HS3 := hide hS3
                           clear hr3 hu3 HNX hS3 HG hcn hl hsz))
                      go_roundw
                      case rel => exact ⟨j + 1, by omega, by go_num, ⟨_, _, _, rfl⟩, HS3⟩
                      case measure => simp [intOf]; omega
                    · have hjN : ¬ (j : Int) < 5 := by omega
                      obtain ⟨hb, us, _, hrow, hcl, hm1, hm2⟩ := HL.out
                      have hr0 : Row wr w.heap.size 23 (.slice ba bn bc) us := (hrow.resolve_left (by omega)).mono HZ1.out.sh.bel.size
                      have hb2 := (Below.refl wr.heap.size wr).alloc (Nat.le_refl _) (.cells #[.slice ba bn bc] 33)
                      have hz2 := HZ1.out.below hb
                      have hz3 := hz2.below hb2
                      have hr2 : Row (wr.alloc (.cells #[.slice ba bn bc] 33)) w.heap.size 23 (.slice ba bn bc) us := hr0.up3 (F := fun _ => False) (Up.of_below hb2) (fun _ _ h => h)
                      obtain ⟨_, _, _, hc3⟩ := hz2.sps
                      have HR := hide hz3.sh.rJ
                      have hl : uJ.length ≤ 1000000 := by rw [hz3.x.lJ]; omega
                      have hsz : w.heap.size ≤ (wr.alloc (.cells #[.slice ba bn bc] 33)).heap.size := hz3.sh.bel.size
                      have HNX := hide (fun v3 w3 hr3 hg3 hat3 => hz3.pushJ (v' := v3) (w2 := w3) hr2 (by omega) hm1 (fun k hk => by obtain ⟨y, y1, y2⟩ := hm2 k (by omega); exact ⟨y, y1, y2.below hb2⟩) hg3 hr3 hat3)
                      have hcn : (wr.alloc (.cells #[.slice ba bn bc] 33)).cell? ⟨wr.heap.size, 0, none⟩ = some (.slice ba bn bc) := by simp
                      clear hb hrow hcl hm1 hm2 hr0 hb2 hz2 hz3 hr2 HL HZ1
                      go_wp2_with (first
                        | (at_builtin; refine wpList_appL Try.underlying54 infoSlP rfl (.tmp 156) (.tmp 158) rfl rfl HR.out rfl hcn rfl hl hsz ?_; intro v3 w3 hr3 hg3 hat3
                           obtain ⟨⟨a3, n3, c3, rfl⟩, ⟨z3, hz3⟩, hf3, hS3⟩ := unhide HNX v3 w3 hr3 hg3 hat3
                           have HS3 := hide hS3
                           clear hr3 hg3 hat3 HNX hS3 HR hcn hl hsz))
                      go_roundw
                      case rel => exact ⟨i + 1, by omega, by go_num, hide ⟨_, _, HS3.out⟩⟩
                      case measure => simp [intOf]; omega
                · have hiM2 : ¬ (i : Int) < (M : Int) := by omega
                  have HEI : Hid (i = M) := hide (by omega)
                  have HQ := hide (show (Fz w wr sp N M m gB gI Rb1 Ri1 (.slice (some ⟨bB, 0, none⟩) N cB) (.slice (some ⟨bI, 0, none⟩) M cI) vC vJ uB uI uC uJ N M N M A B p q G D E) by rw [HEI.out] at hz; exact hz)
                  have HST := hide (stands_calls HQ.out HN0.out HM0.out hN hM HMM.out)
                  clear HZ hz
                  go_wp2_with fail
                  refine (unhide HST).mono ?_
                  rintro e w9 ⟨rfl, hb9⟩
                  have H9 := hide (HQ.out.below hb9)
                  clear HST HQ hb9
                  go_wp2
                  go_ret
                  exact ⟨rfl, _, _, _, _, _, _, _, _, _, _, H9.out⟩
end Go.Proofs.Ytfgjhlnaaopdeab
