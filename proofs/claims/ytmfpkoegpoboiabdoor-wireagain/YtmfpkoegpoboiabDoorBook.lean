/- A book of lists of bytes that were handed out: Keep. -/
import Derived.Test.YtmfpkoegpoboiabDoorKept
import Derived.Laws.AppendOwnNone
namespace Go.Proofs.YtmfpkoegpoboiabDoor
open Go.RowKit

section
variable {ops : Array Oper} {rest : List Oper} {o : Oper} {a : Act} {Q : Exit → Act → World → Prop} {w : World} {K : Act → World → Prop}
/-- The operation comes. -/
theorem wpList_on (hw : Region.wanted o (yielded ops a.tmps) = true) (h : ∀ K : Act → World → Prop, (∀ a w, wpList Tryd.prog ops Q rest a w → K a w) → o.wp Tryd.prog a w K Q) : wpList Tryd.prog ops Q (o :: rest) a w :=
  wpList_step fun K hK => by rw [if_pos hw]; exact h K hK
theorem Own8.shape {B : Nat} {v : Value} {xs : List Int} (h : Own8 w B v xs) : ∃ a n c, v = .slice a n c := h.isB.shape
theorem Own8.nil (w : World) (B : Nat) : Own8 w B (.slice none 0 0) [] := ⟨World.ownsRow_nil _ _ _ _, by simp⟩
theorem Own8.kept {w' : World} {B : Nat} {v : Value} {xs : List Int} {row : Option Nat} (h : Own8 w B v xs) (hg : w.grownBy w' row) (hne : v.ownBlock = none ∨ v.ownBlock ≠ row) : Own8 w' B v xs := ⟨h.1.kept hg hne, h.2⟩
/-- Bytes appended to a row of bytes of the call's own. -/
theorem wp_appB (x y : Operand) (ho : o.op = .call { callee := .builtin .append, args := #[x, y], argTypes := #[23, 23] }) {B : Nat} {v u : Value} {xs ys : List Int} (hx : a.eval x = v) (hown : Own8 w B v xs) (hy : a.eval y = u) (hys : IsB w u ys)
    (hl : xs.length + ys.length ≤ 140737488355328) (hB : B ≤ w.heap.size) (hk : ∀ v' w', Own8 w' B v' (xs ++ ys) → w.grownBy w' v.ownBlock → K (a.put o.dst v') w') : o.wp Tryd.prog a w K Q := by
  obtain ⟨i0, hi, hz0, hz1, hz2⟩ := info_parts info8
  have hys' := hys
  obtain ⟨_, ad, cap, rfl, _, _, hz, hc⟩ := hys
  cases ad with
  | none =>
    have h0 : ys = [] := by
      by_cases hp : 0 < ys.length
      · obtain ⟨b2, off2, ha, _⟩ := hc hp
        cases ha
      · exact List.eq_nil_of_length_eq_zero (by omega)
    subst h0
    obtain rfl := hz rfl
    have hrun := run_append_owned_none (P := Tryd.prog) (w := w) B 23 o.type 5 i0 1 Tryd.underlying23 hi v _ _ hown.1
    have := hk v w (by rw [List.append_nil]; exact hown) ⟨rfl, rfl, rfl, Nat.le_refl _, fun _ _ _ => rfl⟩
    unfold Oper.wp
    simp [execOp, ho, resolve, invoke, builtin, hx, hy, hrun, Result.andThen]
    exact this
  | some ad =>
    refine wp_append_own w x y 23 ho B 5 i0 (.int .u8 0) 1 1 Tryd.underlying23 hi hz0 hz1 hz2 rfl (by decide) v xs.length (xs.map (Value.int .u8)) hx hown.1 ad ys.length cap (ys.map (Value.int .u8)) hy (by simp) hys'.cells (u8_one ys) (by unfold maxLen; omega) (by omega) hB ?_
    intro v' w' h2 h3 _
    refine hk v' w' ⟨?_, fun x hx => ?_⟩ h3
    · rw [List.length_append, List.map_append]; exact h2
    · rcases List.mem_append.1 hx with hx | hx
      · exact hown.2 x hx
      · exact hys'.mem x hx
theorem wpList_appB (hw : Region.wanted o (yielded ops a.tmps) = true) (x y : Operand) (ho : o.op = .call { callee := .builtin .append, args := #[x, y], argTypes := #[23, 23] }) {B : Nat} {v u : Value} {xs ys : List Int} (hx : a.eval x = v) (hown : Own8 w B v xs) (hy : a.eval y = u) (hys : IsB w u ys)
    (hl : xs.length + ys.length ≤ 140737488355328) (hB : B ≤ w.heap.size) (hk : ∀ v' w', Own8 w' B v' (xs ++ ys) → w.grownBy w' v.ownBlock → wpList Tryd.prog ops Q rest (a.put o.dst v') w') : wpList Tryd.prog ops Q (o :: rest) a w :=
  wpList_on hw fun _ hK => wp_appB x y ho hx hown hy hys hl hB fun v' w' h1 h2 => hK _ _ (hk v' w' h1 h2)
end

def Ap (u v : Value) : Prop := u.ownBlock = none ∨ u.ownBlock ≠ v.ownBlock
theorem Ap.symm {u v : Value} (h : Ap u v) : Ap v u := by
  unfold Ap at *
  cases hu : u.ownBlock with
  | none => cases hv : v.ownBlock with
    | none => exact Or.inl rfl
    | some k => exact Or.inr (by simp)
  | some g =>
    rcases h with h | h
    · rw [hu] at h; cases h
    · rw [hu] at h; exact Or.inr fun e => h e.symm
/-- The blocks of A, as far as they are there, stay. -/
structure Kp (A : Nat → Prop) (w w' : World) : Prop where
  os : w'.os = w.os
  tape : w'.tape = w.tape
  output : w'.output = w.output
  size : w.heap.size ≤ w'.heap.size
  block : ∀ k, k < w.heap.size → A k → w'.heap[k]? = w.heap[k]?
theorem Kp.refl (A : Nat → Prop) (w : World) : Kp A w w := ⟨rfl, rfl, rfl, Nat.le_refl _, fun _ _ _ => rfl⟩
theorem Kp.trans {A : Nat → Prop} {a b c : World} (h : Kp A a b) (k : Kp A b c) : Kp A a c :=
  ⟨k.os.trans h.os, k.tape.trans h.tape, k.output.trans h.output, Nat.le_trans h.size k.size, fun i hi ho => (k.block i (Nat.lt_of_lt_of_le hi h.size) ho).trans (h.block i hi ho)⟩
theorem Kp.grown {A : Nat → Prop} {a w w' : World} {row : Option Nat} (h : Kp A a w) (hg : w.grownBy w' row) (hr : ∀ k, row = some k → ¬ A k) : Kp A a w' :=
  ⟨hg.os.trans h.os, hg.tape.trans h.tape, hg.output.trans h.output, Nat.le_trans h.size hg.size, fun k hk ho => (hg.block k (Nat.lt_of_lt_of_le hk h.size) (fun e => hr k e.symm ho)).trans (h.block k hk ho)⟩
theorem Kp.of_below {A : Nat → Prop} {w w' : World} (h : Below w.heap.size w w') : Kp A w w' := ⟨h.os, h.tape, h.output, h.size, fun k hk _ => h.block k hk⟩
theorem Kp.below {A : Nat → Prop} {w w' : World} {b : Nat} (h : Kp A w w') (hb : b ≤ w.heap.size) (hA : ∀ k, k < b → A k) : Below b w w' := ⟨h.os, h.tape, h.output, h.size, fun k hk => h.block k (by omega) (hA k hk)⟩
theorem Row.kp {A : Nat → Prop} {w w' : World} {b : Nat} {t : TypeId} {v : Value} {xs : List Value} (h : Row w b t v xs) (ho : Kp A w w') (hA : ∀ k, v.ownBlock = some k → A k) : Row w' b t v xs := by
  refine ⟨h.1, ?_⟩
  rcases h.2 with hn | ⟨g, cap, cur, rfl, hb, hgg, rest⟩
  · exact .inl hn
  · refine .inr ⟨g, cap, cur, rfl, hb, ?_, rest⟩
    rw [ho.block g (Array.getElem?_eq_some_iff.1 hgg).1 (hA g rfl)]
    exact hgg
theorem Own8.kp {A : Nat → Prop} {w w' : World} {b : Nat} {v : Value} {xs : List Int} (h : Own8 w b v xs) (ho : Kp A w w') (hA : ∀ k, v.ownBlock = some k → A k) : Own8 w' b v xs := (h.row.kp ho hA).own8 h.2
theorem Lines.kp {A : Nat → Prop} {w w' : World} {B S : Nat} {t : TypeId} {U : Nat → Value} {R : Nat → List Value} {n : Nat} (h : Lines w B S t U R n) (ho : Kp A w w') (hA : ∀ k, B ≤ k → k < S → A k) : Lines w' B S t U R n :=
  ⟨fun k hk => (h.row k hk).kp ho fun g hg => hA g ((h.row k hk).lt g hg).1 (h.hi k hk g hg), h.hi, h.apart⟩
theorem Was.kp {A : Nat → Prop} {w w' : World} {b S n : Nat} {v : Value} {X : Nat → List Int} (h : Was w b v X n) (hS : w.heap.size ≤ S) (ho : Kp A w w') (hA : ∀ k, b ≤ k → k < S → A k) : Was w' b v X n := by
  obtain ⟨ks, h1, h2, h3⟩ := h
  refine ⟨ks, h1, h2.kp ho fun k hk => hA k (h2.lt k hk).1 (Nat.lt_of_lt_of_le (h2.lt k hk).2 hS), fun k hk => ?_⟩
  obtain ⟨u, hu, ho2⟩ := h3 k hk
  exact ⟨u, hu, ho2.kp ho fun g hg => hA g (ho2.1.lt g hg).1 (Nat.lt_of_lt_of_le (ho2.1.lt g hg).2 hS)⟩
theorem grown_set1 (w : World) (g j : Nat) (u : Value) : w.grownBy (w.setCell ⟨g, j, none⟩ u) (some g) :=
  ⟨rfl, rfl, rfl, by simp, fun k _ hk => heap_setCell_other w ⟨g, j, none⟩ k u (fun e => hk (by simp [e]))⟩

theorem cell_one_at (w : World) (x : Value) (t : TypeId) {k : Nat} (hk : w.heap.size = k) : ∀ j u, [x][j]? = some u → (w.alloc (.cells #[x] t)).cell? ((⟨k, 0, none⟩ : Addr).add j) = some u := by
  subst hk
  exact cell_one_new w x t
/-- A book: the lists that were handed out, each with what it held. -/
structure Bk (w : World) (B gB M : Nat) (A : Nat → Prop) (n : Nat) (U : Nat → Value) (X : Nat → List Int) : Prop where
  book : ∃ vL vW ls ks, w.heap[gB]? = some (.cells #[vL, vW] 63 (0, 0)) ∧ ls.length = n ∧ ks.length = n ∧ Row w B 23 vL ls ∧ Row w B 23 vW ks ∧ Ap vL vW ∧ (∀ g, vL.ownBlock = some g → ¬ A g) ∧ (∀ g, vW.ownBlock = some g → ¬ A g) ∧
    (∀ k, k < n → ls[k]? = some (U k)) ∧ (∀ k, k < n → ∃ u, ks[k]? = some u ∧ Own8 w B u (X k))
  lines : Lines w B w.heap.size 5 U (fun k => (X k).map (Value.int .u8)) n
  ok : ∀ k, k < n → (X k).length ≤ M ∧ ∀ x ∈ X k, 0 ≤ x ∧ x ≤ 255
  low : gB < B ∧ B ≤ w.heap.size ∧ ¬ A gB
  old : ∀ g, A g → g < w.heap.size
theorem Bk.widen {w w' : World} {B gB M n : Nat} {A A' : Nat → Prop} {U : Nat → Value} {X : Nat → List Int} (h : Bk w B gB M A n U X) (hb : Below w.heap.size w w') (hA : ∀ g, A' g → A g ∨ (w.heap.size ≤ g ∧ g < w'.heap.size)) : Bk w' B gB M A' n U X := by
  obtain ⟨vL, vW, ls, ks, h1, h2, h3, h4, h5, h6, h7, h8, h9, h10⟩ := h.book
  have hgB := h.low
  refine ⟨⟨vL, vW, ls, ks, ?_, h2, h3, h4.grown (below_grown hb), h5.grown (below_grown hb), h6, ?_, ?_, h9, fun k hk => ?_⟩, ?_, h.ok, ⟨hgB.1, Nat.le_trans hgB.2.1 hb.size, ?_⟩, ?_⟩
  · rw [hb.block gB (by omega)]; exact h1
  · intro g hg ha
    rcases hA g ha with ha | ha
    · exact h7 g hg ha
    · have := (h4.lt g hg).2; omega
  · intro g hg ha
    rcases hA g ha with ha | ha
    · exact h8 g hg ha
    · have := (h5.lt g hg).2; omega
  · obtain ⟨u, hu, ho⟩ := h10 k hk
    exact ⟨u, hu, ho.below hb⟩
  · have := h.lines.below hb
    exact ⟨this.row, fun k hk g hg => Nat.lt_of_lt_of_le (h.lines.hi k hk g hg) hb.size, this.apart⟩
  · intro ha
    rcases hA gB ha with ha | ha
    · exact hgB.2.2 ha
    · omega
  · intro g ha
    rcases hA g ha with ha | ha
    · exact Nat.lt_of_lt_of_le (h.old g ha) hb.size
    · exact ha.2

set_option maxRecDepth 100000 in
set_option maxHeartbeats 4000000 in
theorem keep_calls {w : World} {B gB M n : Nat} {A : Nat → Prop} {U : Nat → Value} {X : Nat → List Int} {v : Value} {xs : List Int} (h : Bk w B gB M A n U X) (hv : Own8 w B v xs) (hM : xs.length ≤ M) (hM2 : M ≤ 140737488355328) (hn : n ≤ 100000) (hap : ∀ k, k < n → Ap (U k) v) :
    Calls Tryd.prog 29 #[.pointer (some ⟨gB, 0, none⟩), v] w fun e w' => (∃ r, e = .returned r) ∧ Bk w' B gB M A (n + 1) (upd U n v) (upd X n xs) ∧ Kp A w w' := by
  obtain ⟨i0, hi, hz0, hz1, hz2⟩ := info_parts info23
  obtain ⟨vL, vW, ls, ks, h1, h2, h3, h4, h5, h6, h7, h8, h9, h10⟩ := h.book
  obtain ⟨hg1, hg2, hg3⟩ := h.low
  obtain ⟨av, mv, cv, rfl⟩ := hv.isB.shape
  obtain ⟨aL, cL, hvL⟩ := h4.shape
  obtain ⟨aW, cW, hvW⟩ := h5.shape
  have HL := hide h2
  have HK := hide h3
  rw [h2] at hvL
  rw [h3] at hvW
  subst hvL hvW
  have H := hide h
  have H9 := hide h9
  have H10 := hide h10
  have HAP := hide hap
  clear h h9 h10 hap h2 h3
  go_enter Tryd.func29, Tryd.ntmps29
  have HW : Hid (∀ W, w.grownBy W none → W.heap[gB]? = some (.cells #[.slice aL n cL, .slice aW n cW] 63 (0, 0)) ∧ W.cell? ⟨gB, 0, none⟩ = some (.slice aL n cL) ∧ Row W B 23 (.slice aL n cL) ls ∧ Row W B 23 (.slice aW n cW) ks ∧ B ≤ W.heap.size) := fun W hW => by
    have e : W.heap[gB]? = some (.cells #[.slice aL n cL, .slice aW n cW] 63 (0, 0)) := by rw [hW.block gB (by omega) (by simp)]; exact h1
    exact ⟨e, cell_of_row W gB 0 _ _ _ e, h4.grown hW, h5.grown hW, Nat.le_trans hg2 hW.size⟩
  have HL2 : Hid (∀ (W : World) v2 w2, W.heap[gB]? = some (.cells #[.slice aL n cL, .slice aW n cW] 63 (0, 0)) → Row W B 23 (.slice aW n cW) ks → W.grownBy w2 (Value.slice aL n cL).ownBlock → (w2.frozen? ⟨gB, 0, none⟩ = false ∧ w2.cell? ⟨gB, 0, none⟩ = some (.slice aL n cL)) ∧ w2.cell? ⟨gB, 1, none⟩ = some (.slice aW n cW) ∧ Row (w2.setCell ⟨gB, 0, none⟩ v2) B 23 (.slice aW n cW) ks ∧ (w2.setCell ⟨gB, 0, none⟩ v2).heap[gB]? = some (.cells #[v2, .slice aW n cW] 63 (0, 0))) := fun W v2 w2 e hr hg => by
    have hlt : gB < W.heap.size := (Array.getElem?_eq_some_iff.1 e).1
    have e2 : w2.heap[gB]? = some (.cells #[.slice aL n cL, .slice aW n cW] 63 (0, 0)) := by
      rw [hg.block gB hlt (fun h => by have := (h4.lt gB h.symm).1; omega)]; exact e
    have e3 := heap_setCell_same w2 gB 0 _ _ v2 e2
    refine ⟨⟨frozen_of_row w2 gB 0 _ _ e2, cell_of_row w2 gB 0 _ _ _ e2⟩, ?_, (hr.kept hg h6.symm).kept (grown_set1 w2 gB 0 v2) (Or.inr fun h => by have := (h5.lt gB h).1; omega), e3⟩
    rw [cell_of_row _ gB 1 _ _ _ e2]; rfl
  have HL4 : Hid (∀ (W : World) (v2 v4 : Value) w4, W.heap[gB]? = some (.cells #[v2, .slice aW n cW] 63 (0, 0)) → W.grownBy w4 (Value.slice aW n cW).ownBlock → (w4.frozen? ⟨gB, 1, none⟩ = false ∧ w4.cell? ⟨gB, 1, none⟩ = some (.slice aW n cW)) ∧ (w4.setCell ⟨gB, 1, none⟩ v4).heap[gB]? = some (.cells #[v2, v4] 63 (0, 0))) := fun W v2 v4 w4 e hg => by
    have hlt : gB < W.heap.size := (Array.getElem?_eq_some_iff.1 e).1
    have e2 : w4.heap[gB]? = some (.cells #[v2, .slice aW n cW] 63 (0, 0)) := by
      rw [hg.block gB hlt (fun h => by have := (h5.lt gB h.symm).1; omega)]; exact e
    have e3 := heap_setCell_same w4 gB 1 _ _ v4 e2
    exact ⟨⟨frozen_of_row w4 gB 1 _ _ e2, by rw [cell_of_row w4 gB 1 _ _ _ e2]; rfl⟩, e3⟩
  go_wp2_with (first
    | (at_builtin; refine wpList_appB rfl _ _ rfl rfl (Own8.nil w w.heap.size) rfl hv.isB (by simp; omega) (Nat.le_refl _) ?_; intro vc w1 hc1 hgr1; rw [List.nil_append] at hc1; obtain ⟨ac, nc, cc, rfl⟩ := hc1.isB.shape; obtain ⟨hw1, hcL1, hL1, hW1, hB1⟩ := unhide HW w1 hgr1)
    | (at_builtin; refine wpList_append_own_at _ rfl _ _ 37 rfl B 23 i0 (.slice none 0 0) 1 24 Tryd.underlying37 hi hz0 hz1 hz2 rfl (by decide) _ _ _ rfl (World.ownsRow.alloc hL1 _) ⟨w1.heap.size, 0, none⟩ 1 1 [.slice av mv cv] rfl rfl (cell_one_new _ _ _) (by intro u hu; simp at hu; subst hu; rfl) (by have := HL.out; unfold maxLen; omega) (by have := HL.out; omega) (by simp; omega) ?_; intro v2 w2 hL2 hgr2 _ hat2; obtain ⟨a2, c2, rfl⟩ := owns_slice hL2; have hG2 := (World.grownBy_alloc w1 _ _).trans hgr2; obtain ⟨⟨hfr2, hco2⟩, hcW3, hW3, hw3⟩ := unhide HL2 w1 (.slice a2 (ls.length + 1) c2) w2 hw1 hW1 hG2; have hB3 : B ≤ (w2.setCell ⟨gB, 0, none⟩ (.slice a2 (ls.length + 1) c2)).heap.size := (by simp; exact Nat.le_trans hB1 hG2.size))
    | (at_builtin; refine wpList_append_own_at _ rfl _ _ 37 rfl B 23 i0 (.slice none 0 0) 1 24 Tryd.underlying37 hi hz0 hz1 hz2 rfl (by decide) _ _ _ rfl (World.ownsRow.alloc hW3 _) ⟨w2.heap.size, 0, none⟩ 1 1 [.slice ac nc cc] rfl rfl (cell_one_at _ _ _ (by simp)) (by intro u hu; simp at hu; subst hu; rfl) (by have := HK.out; unfold maxLen; omega) (by have := HK.out; omega) (by simp at hB3 ⊢; omega) ?_; intro v4 w4 hW4 hgr4 _ hat4; obtain ⟨a4, c4, rfl⟩ := owns_slice hW4; have hG4 := (World.grownBy_alloc (w2.setCell ⟨gB, 0, none⟩ (.slice a2 (ls.length + 1) c2)) _ _).trans hgr4; obtain ⟨⟨hfr4, hco4⟩, hw5⟩ := unhide HL4 _ _ (.slice a4 (ks.length + 1) c4) w4 hw3 hG4))
  have hh := H.out
  have hvw : (Value.slice aW n cW).ownBlock = some gB → False := fun h => by have := (h5.lt gB h).1; omega
  have hgr1' : w.grownBy w1 none := hgr1
  have hset3 := grown_set1 w2 gB 0 (.slice a2 (ls.length + 1) c2)
  have hset5 := grown_set1 w4 gB 1 (.slice a4 (ks.length + 1) c4)
  have hnb : ∀ (W : World) (b : Nat) (tt : TypeId) (u : Value) (zs : List Value), B ≤ b → Row W b tt u zs → u.ownBlock = none ∨ u.ownBlock ≠ some gB := fun W b tt u zs hb hr => Or.inr fun h => by have := (hr.lt gB h).1; omega
  have kp1 : ∀ b u zs, B ≤ b → Row w1 b 5 u zs → Row (w4.setCell ⟨gB, 1, none⟩ (.slice a4 (ks.length + 1) c4)) b 5 u zs := fun b u zs hb h => by
    have r2 := h.kept hG2 (h.apart hL1 (by decide))
    have r3 := r2.kept hset3 (hnb _ _ _ _ _ hb r2)
    have r4 := r3.kept hG4 (r3.apart hW3 (by decide))
    exact r4.kept hset5 (hnb _ _ _ _ _ hb r4)
  have kp0 : ∀ u zs, Row w B 5 u zs → Row (w4.setCell ⟨gB, 1, none⟩ (.slice a4 (ks.length + 1) c4)) B 5 u zs := fun u zs h => kp1 B u zs (Nat.le_refl _) (h.grown hgr1')
  have kpO : ∀ u zs, Own8 w B u zs → Own8 (w4.setCell ⟨gB, 1, none⟩ (.slice a4 (ks.length + 1) c4)) B u zs := fun u zs h => (kp0 _ _ h.row).own8 h.2
  have hL2r : Row w2 B 23 (.slice a2 (ls.length + 1) c2) (ls ++ [.slice av mv cv]) := by unfold Row; rw [List.length_append]; exact hL2
  have hW4r : Row w4 B 23 (.slice a4 (ks.length + 1) c4) (ks ++ [.slice ac nc cc]) := by unfold Row; rw [List.length_append]; exact hW4
  have hsz1 := hgr1'.size
  have hsz2 := hG2.size
  have hsz3 := hset3.size
  have hsz4 := hG4.size
  have hsz5 := hset5.size
  have a2v : ∀ g, (Value.slice a2 (ls.length + 1) c2).ownBlock = some g → (Value.slice aL n cL).ownBlock = some g ∨ w1.heap.size ≤ g := fun g hg => by
    rcases hat2 with h | h
    · exact Or.inl (h.symm.trans hg)
    · rw [h] at hg; injection hg with hg; simp at hg; omega
  have a4v : ∀ g, (Value.slice a4 (ks.length + 1) c4).ownBlock = some g → (Value.slice aW n cW).ownBlock = some g ∨ w2.heap.size ≤ g := fun g hg => by
    rcases hat4 with h | h
    · exact Or.inl (h.symm.trans hg)
    · rw [h] at hg; injection hg with hg; simp at hg; omega
  have ap1 : Ap (.slice a2 (ls.length + 1) c2) (.slice aW n cW) := by
    refine (Classical.em _).imp_right fun hne => ?_
    intro e
    cases e2 : (Value.slice a2 (ls.length + 1) c2).ownBlock with
    | none => exact hne e2
    | some g =>
      rw [e2] at e
      rcases a2v g e2 with h | h
      · rcases h6 with h6 | h6
        · rw [h6] at h; cases h
        · exact h6 (h.trans e)
      · have := (h5.lt g e.symm).2; omega
  have ap2 : Ap (.slice a2 (ls.length + 1) c2) (.slice a4 (ks.length + 1) c4) := by
    refine (Classical.em _).imp_right fun hne => ?_
    intro e
    cases e2 : (Value.slice a2 (ls.length + 1) c2).ownBlock with
    | none => exact hne e2
    | some g =>
      rw [e2] at e
      rcases a4v g e.symm with h | h
      · rcases ap1 with ap1 | ap1
        · exact hne ap1
        · exact ap1 (e2.trans h.symm)
      · have := (hL2r.lt g e2).2; omega
  have hL5 : Row (w4.setCell ⟨gB, 1, none⟩ (.slice a4 (ks.length + 1) c4)) B 23 (.slice a2 (ls.length + 1) c2) (ls ++ [.slice av mv cv]) := by
    have r3 := hL2r.kept hset3 (hnb _ _ _ _ _ (Nat.le_refl _) hL2r)
    have r4 := r3.kept hG4 ap1
    exact r4.kept hset5 (hnb _ _ _ _ _ (Nat.le_refl _) r4)
  have hW5 : Row (w4.setCell ⟨gB, 1, none⟩ (.slice a4 (ks.length + 1) c4)) B 23 (.slice a4 (ks.length + 1) c4) (ks ++ [.slice ac nc cc]) := hW4r.kept hset5 (hnb _ _ _ _ _ (Nat.le_refl _) hW4r)
  have hKp : Kp A w (w4.setCell ⟨gB, 1, none⟩ (.slice a4 (ks.length + 1) c4)) := by
    refine (((((Kp.refl A w).grown hgr1' (fun k hk => by cases hk)).grown hG2 h7).grown hset3 (fun k hk => ?_)).grown hG4 h8).grown hset5 (fun k hk => ?_)
    · injection hk with hk; subst hk; exact hg3
    · injection hk with hk; subst hk; exact hg3
  have hlast := kp0 _ _ hv.row
  have hblk := hw5
  refine bodyPost_end (results_none rfl _ _ _) rfl ?_
  refine ⟨⟨_, rfl⟩, ⟨⟨_, _, _, _, hblk, by simp [HL.out], by simp [HK.out], hL5, hW5, ap2, ?_, ?_, ?_, ?_⟩, ⟨?_, ?_, ?_⟩, ?_, ⟨hg1, by omega, hg3⟩, ?_⟩, hKp⟩
  · intro g hg ha
    rcases a2v g hg with h | h
    · exact h7 g h ha
    · have := hh.old g ha; omega
  · intro g hg ha
    rcases a4v g hg with h | h
    · exact h8 g h ha
    · have := hh.old g ha; omega
  · intro k hk
    by_cases e : k = n
    · subst e
      rw [upd_same, List.getElem?_append_right (by rw [HL.out]; exact Nat.le_refl _), HL.out, Nat.sub_self]; rfl
    · rw [upd_other _ _ e, List.getElem?_append_left (by rw [HL.out]; omega)]
      exact unhide H9 k (by omega)
  · intro k hk
    by_cases e : k = n
    · subst e
      rw [upd_same]
      refine ⟨.slice ac nc cc, by rw [List.getElem?_append_right (by rw [HK.out]; exact Nat.le_refl _), HK.out, Nat.sub_self]; rfl, ?_⟩
      exact ((kp1 _ _ _ hg2 hc1.row).mono hg2).own8 hc1.2
    · rw [upd_other _ _ e]
      obtain ⟨u, hu, ho⟩ := unhide H10 k (by omega)
      exact ⟨u, by rw [List.getElem?_append_left (by rw [HK.out]; omega)]; exact hu, kpO _ _ ho⟩
  · intro k hk
    by_cases e : k = n
    · subst e
      simp only [upd_same]
      exact hlast
    · simp only [upd_other _ _ e]
      exact kp0 _ _ (hh.lines.row k (by omega))
  · intro k hk g hg
    by_cases e : k = n
    · subst e
      rw [upd_same] at hg
      have := (hv.1.lt g hg).2; omega
    · rw [upd_other _ _ e] at hg
      have := hh.lines.hi k (by omega) g hg; omega
  · intro j k hj hk hjk
    by_cases e : j = n
    · subst e
      rw [upd_same, upd_other _ _ (fun h => hjk h.symm)]
      exact (unhide HAP k (by omega)).symm
    · rw [upd_other _ _ e]
      by_cases e2 : k = n
      · subst e2
        rw [upd_same]
        exact unhide HAP j (by omega)
      · rw [upd_other _ _ e2]
        exact hh.lines.apart j k (by omega) (by omega) hjk
  · intro k hk
    by_cases e : k = n
    · subst e
      rw [upd_same]
      exact ⟨hM, hv.2⟩
    · rw [upd_other _ _ e]
      exact hh.ok k (by omega)
  · intro g ha
    have := hh.old g ha; omega
end Go.Proofs.YtmfpkoegpoboiabDoor
