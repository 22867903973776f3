/- DiskOwn: asked; the shelf while it is marked and lengthened. -/
import Derived.Test.YtfgjhlnaaopdeabOwA
import Derived.Test.YtfgjhlnaaopdeabApp
import Derived.ArgAppend
namespace Go.Proofs.Ytfgjhlnaaopdeab
open Go.RowKit Go.Maps

theorem infoSlO : (Try.prog.info? 23).map (fun i => (i.zero, i.size, i.bytes)) = some (some (.slice none 0 0), 1, 24) := by kernel_rfl
theorem infoSlP : (Try.prog.info? 33).map (fun i => (i.zero, i.size, i.bytes)) = some (some (.slice none 0 0), 1, 24) := by kernel_rfl
section
variable {ops : Array Oper} {rest : List Oper} {o : Oper} {a : Act} {Q : Exit → Act → World → Prop} {w : World} {K : Act → World → Prop} {E : Prop}
set_option maxRecDepth 100000 in
/-- One slice appended to a row of slices, and where it lies then. -/
theorem wp_appL {t e : TypeId} (hU : Try.prog.underlying t = some (.slice e)) (hI : (Try.prog.info? e).map (fun i => (i.zero, i.size, i.bytes)) = some (some (.slice none 0 0), 1, 24)) (x y : Operand) (ho : o.op = .call { callee := .builtin .append, args := #[x, y], argTypes := #[t, t] }) {B g : Nat} {v u : Value} {us : List Value} (hx : a.eval x = v) (hrow : Row w B e v us) (hy : a.eval y = .slice (some ⟨g, 0, none⟩) 1 1)
    (hc : w.cell? ⟨g, 0, none⟩ = some u) (h1 : u.oneCell' = true) (hl : us.length ≤ 1000000) (hB : B ≤ w.heap.size)
    (hk : ∀ v' w', Row w' B e v' (us ++ [u]) → w.grownBy w' v.ownBlock → (v'.ownBlock = v.ownBlock ∨ v'.ownBlock = some w.heap.size) → K (a.put o.dst v') w') : Oper.wp Try.prog o a w K Q := by
  obtain ⟨i0, hi, hz0, hz1, hz2⟩ := info_parts hI
  obtain ⟨v', w', hr, h2, h3, h4, h5⟩ := run_append_share (P := Try.prog) w B t o.type e i0 (.slice none 0 0) 24 hU hi hz0 hz1 hz2 rfl v us hrow ⟨g, 0, none⟩ 1 1 [u] rfl (fun j z hu => by
    cases j with
    | zero =>
      injection hu with hu
      subst hu
      exact hc
    | succ j => simp at hu) (fun z hz => by rw [List.mem_singleton.1 hz]; exact h1) (by unfold maxLen; omega) (by omega) hB
  unfold Oper.wp execOp
  simp only [ho, resolve, invoke, builtin, Sem.run_bind, Sem.run_pure, Result.andThen_ok, List.map_toArray, List.map_cons, List.map_nil, hx, hy, hr]
  exact hk v' w' h2 h3 h4
theorem wpList_appL {t e : TypeId} (hU : Try.prog.underlying t = some (.slice e)) (hI : (Try.prog.info? e).map (fun i => (i.zero, i.size, i.bytes)) = some (some (.slice none 0 0), 1, 24)) (hgd : o.guard = none) (x y : Operand) (ho : o.op = .call { callee := .builtin .append, args := #[x, y], argTypes := #[t, t] }) {B g : Nat} {v u : Value} {us : List Value} (hx : a.eval x = v) (hrow : Row w B e v us) (hy : a.eval y = .slice (some ⟨g, 0, none⟩) 1 1)
    (hc : w.cell? ⟨g, 0, none⟩ = some u) (h1 : u.oneCell' = true) (hl : us.length ≤ 1000000) (hB : B ≤ w.heap.size)
    (hk : ∀ v' w', Row w' B e v' (us ++ [u]) → w.grownBy w' v.ownBlock → (v'.ownBlock = v.ownBlock ∨ v'.ownBlock = some w.heap.size) → wpList Try.prog ops Q rest (a.put o.dst v') w') : wpList Try.prog ops Q (o :: rest) a w :=
  wpList_plain hgd fun _ hK => wp_appL hU hI x y ho hx hrow hy hc h1 hl hB fun v' w' h1 h2 h3 => hK _ _ (hk v' w' h1 h2 h3)
theorem step_appL (hgd : o.guard = none) (x y : Operand) (ho : o.op = .call { callee := .builtin .append, args := #[x, y], argTypes := #[33, 33] }) {B g : Nat} {v u : Value} {us : List Value} (hx : a.eval x = v) (hrow : Row w B 23 v us) (hy : a.eval y = .slice (some ⟨g, 0, none⟩) 1 1)
    (hc : w.cell? ⟨g, 0, none⟩ = some u) (h1 : u.oneCell' = true) (hl : us.length ≤ 1000000) (hB : B ≤ w.heap.size)
    (hk : ∀ v' w', Row w' B 23 v' (us ++ [u]) → w.grownBy w' v.ownBlock → (v'.ownBlock = v.ownBlock ∨ v'.ownBlock = some w.heap.size) → K (a.put o.dst v') w') : if Region.wanted o (yielded ops a.tmps) = true then Oper.wp Try.prog o a w K Q else E := by
  rw [if_pos (by simp [Region.wanted, hgd])]
  exact wp_appL Try.underlying33 infoSlO x y ho hx hrow hy hc h1 hl hB hk
theorem buildSl_run (W : World) (ua : Option Addr) (un uc : Nat) : (Instr.buildSlice 33 1 #[(0, .slice ua un uc)]).run Try.prog W = .ok (.slice (some ⟨W.heap.size, 0, none⟩) 1 1) (W.alloc (.cells #[.slice ua un uc] 23)) := by kernel_rfl
theorem step_buildSl (hgd : o.guard = none) (x : Operand) (ho : o.op = .buildSlice 33 1 #[(0, x)]) {ua : Option Addr} {un uc : Nat} (hx : a.eval x = .slice ua un uc)
    (hk : K (a.put o.dst (.slice (some ⟨w.heap.size, 0, none⟩) 1 1)) (w.alloc (.cells #[.slice ua un uc] 23))) : if Region.wanted o (yielded ops a.tmps) = true then Oper.wp Try.prog o a w K Q else E := by
  rw [if_pos (by simp [Region.wanted, hgd])]
  unfold Oper.wp execOp
  simp only [ho, List.map_toArray, List.map_cons, List.map_nil, hx, Sem.run_bind, buildSl_run w, Result.andThen_ok, Sem.run_pure]
  exact hk
theorem loadSl_run {W : World} {ad : Addr} {v : Value} (h : W.cell? ad = some v) : (Instr.loadAt 33 (.pointer (some ad))).run Try.prog W = .ok v W := by
  have hu := Try.underlying33
  go_simp
theorem step_loadSl (hgd : o.guard = none) (x : Operand) (ho : o.op = .load 33 x) {ad : Addr} {v : Value} (hx : a.eval x = .pointer (some ad)) (hc : w.cell? ad = some v) (hk : K (a.put o.dst v) w) : if Region.wanted o (yielded ops a.tmps) = true then Oper.wp Try.prog o a w K Q else E := by
  rw [if_pos (by simp [Region.wanted, hgd])]
  unfold Oper.wp execOp
  simp only [ho, hx, Sem.run_bind, loadSl_run hc, Result.andThen_ok, Sem.run_pure]
  exact hk
theorem storeSl_run {W : World} {ad : Addr} {v u : Value} {aa : Option Addr} {n c : Nat} (hv : v = .slice aa n c) (h : W.cell? ad = some u) (hf : W.frozen? ad = false) : (Instr.storeAt 33 (.pointer (some ad)) v).run Try.prog W = .ok () (W.setCell ad v) := by
  subst hv
  obtain ⟨b, o, s⟩ := ad
  have hs : s = none := by
    cases s with
    | none => rfl
    | some x => simp [World.cell?] at h; split at h <;> simp at h
  subst hs
  go_simp
theorem step_storeSl (hgd : o.guard = none) (x y : Operand) (ho : o.op = .store 33 x y) {ad : Addr} {v u : Value} {aa : Option Addr} {n c : Nat} (hx : a.eval x = .pointer (some ad)) (hy : a.eval y = v) (hv : v = .slice aa n c) (hc : w.cell? ad = some u) (hf : w.frozen? ad = false) (hk : K (a.put o.dst undef) (w.setCell ad v)) : if Region.wanted o (yielded ops a.tmps) = true then Oper.wp Try.prog o a w K Q else E := by
  rw [if_pos (by simp [Region.wanted, hgd])]
  unfold Oper.wp execOp
  simp only [ho, hx, hy, Sem.run_bind, storeSl_run hv hc hf, Result.andThen_ok, Sem.run_pure]
  exact hk
end
/-- What changes but blocks of other kinds. -/
theorem Dka.step {A F : Nat → Prop} {wr w' : World} {B n : Nat} {P G : Nat → Nat} {D : Nat → AD} (h : Dka A wr wr B n P G D) (hu : Up F wr w') (hF : ∀ b, F b → ∃ cs t mm, wr.heap[b]? = some (.cells cs t mm) ∧ t ≠ 77 ∧ t ≠ 75) : Dka A w' w' B n P G D := by
  obtain ⟨gm, V, h1, h2, h3⟩ := h.all
  refine ⟨⟨gm, V, fun j hj => (h1 j hj).up hu (fun b hb hf => ?_), h2, h3⟩, h.few, Up.refl _ _, fun b hA => Nat.lt_of_lt_of_le (h.lt b hA) hu.size⟩
  obtain ⟨cs, t, mm, hc, ht1, ht2⟩ := hF b hf
  exact ((h1 j hj).tm _ hb _ _ _ hc).elim ht1 ht2
/-- One more row of bytes, beside the disks. -/
theorem Sh.next {w w1 : World} {sp N M m g B : Nat} {gB gI : Nat → Nat} {Rb Ri : Nat → List Value} {vB vI : Value} {uB uI R : List Value} {A : Nat → Prop} {P G : Nat → Nat} {D : Nat → AD} (hS : Sh w w1 sp N M m gB gI Rb Ri vB vI (.slice none 0 0) (.slice none 0 0) uB uI [] []) (hA : Arr w1 g 77 R) (hR : R.length = 512) (hn : w.heap.size ≤ g) (hd : ∀ k, k < N → gB k ≠ g) (hdk : Dka A w1 w1 B 2 P G D)
    {v3 : Value} {w3 : World} (ho : Row w3 w.heap.size 23 v3 (uB ++ [.slice (some ⟨g, 0, none⟩) 512 512])) (hg3 : (w1.alloc (.cells #[.slice (some ⟨g, 0, none⟩) 512 512] 23)).grownBy w3 vB.ownBlock) (hat : v3.ownBlock = vB.ownBlock ∨ v3.ownBlock = some (w1.alloc (.cells #[.slice (some ⟨g, 0, none⟩) 512 512] 23)).heap.size) :
    (∃ a3 n3 c3, v3 = .slice a3 n3 c3) ∧ (∃ z, w3.cell? ⟨sp, 0, none⟩ = some z) ∧ w3.frozen? ⟨sp, 0, none⟩ = false ∧ Sh w (w3.setCell ⟨sp, 0, none⟩ v3) sp (N + 1) M m (updF gB N g) gI (updF Rb N R) Ri v3 vI (.slice none 0 0) (.slice none 0 0) (uB ++ [.slice (some ⟨g, 0, none⟩) 512 512]) uI [] [] ∧ Dka A (w3.setCell ⟨sp, 0, none⟩ v3) (w3.setCell ⟨sp, 0, none⟩ v3) B 2 P G D ∧ Up (fun b => b = sp ∨ vB.ownBlock = some b) w1 (w3.setCell ⟨sp, 0, none⟩ v3) := by
  have hb2 := (Below.refl w1.heap.size w1).alloc (Nat.le_refl _) (.cells #[.slice (some ⟨g, 0, none⟩) 512 512] 23)
  have hS2 := hS.below hb2
  obtain ⟨a3, c3, hv3⟩ := ho.shape
  have hks : Arr w3 sp 56 [vB, vI, .slice none 0 0, .slice none 0 0] := hS2.sh.keep (hg3.block sp hS2.sh.lt (fun e => by
    obtain ⟨cur, hcur, _⟩ := hS2.rB.blk3 e.symm
    exact arr_ne3 hS2.sh hcur (by decide) rfl))
  have u3 : Up (fun b => vB.ownBlock = some b) (w1.alloc (.cells #[.slice (some ⟨g, 0, none⟩) 512 512] 23)) w3 := Up.of_grown hg3 (fun b hb => hb)
  have u4 : Up (fun b => b = sp) w3 (w3.setCell ⟨sp, 0, none⟩ v3) := Up.of_grown (grown_cell w3 sp 0 v3) (fun b hb => (Option.some.inj hb).symm)
  have k2 := hdk.anew (A' := A) hb2 (fun b hb => Or.inl hb)
  have k3 := k2.step (F := fun b => vB.ownBlock = some b) u3 (fun b hb => by
    obtain ⟨cur, hcur, _⟩ := hS2.rB.blk3 hb
    exact ⟨_, _, _, hcur, by decide, by decide⟩)
  have k4 := k3.step (F := fun b => b = sp) u4 (fun b hb => by
    rw [hb]
    exact ⟨_, _, _, hks, by decide, by decide⟩)
  refine ⟨⟨a3, _, c3, hv3⟩, ⟨_, hks.cell_of rfl⟩, hks.frozen 0, hS2.pushB (hA.below hb2) hR hn hd hg3 ho hat, k4, ?_⟩
  exact ((Up.of_below (F := fun b => b = sp ∨ vB.ownBlock = some b) hb2).trans u3 (fun x h => Or.inl (Or.inr h))).trans u4 (fun x h => Or.inl (Or.inl h))

def Sq (w wr : World) (B sp N M m p q : Nat) (D E : AD) : Prop := ∃ D' : AD, D'.la = D.la ∧ D'.wr = D.wr ∧ So w wr B sp N M m p q D' E
/-- On the way through an image: those of its rows that are to come are not on the shelf yet. -/
def Sj (w wr : World) (B sp N M m p q g0 j : Nat) (D E : AD) (f : Nat → Nat) (us : List Value) (gI : Nat → Nat) (Ri : Nat → List Value) (vI : Value) (uI : List Value) (A : Nat → Prop) (G : Nat → Nat) : Prop :=
  ∃ (gB : Nat → Nat) (Rb : Nat → List Value) (vB : Value) (uB : List Value), Sh w wr sp (N + j) M m gB gI Rb Ri vB vI (.slice none 0 0) (.slice none 0 0) uB uI [] [] ∧ (∀ k, k < N + j → A (gB k)) ∧ (∀ k, k < N + j → ∀ j', j ≤ j' → j' < m → gB k ≠ f j') ∧ Dka A wr wr B 2 (two p q) G (two D E) ∧ Arr wr g0 23 us ∧ (∀ j', j' < m → Arr wr (f j') 77 (u8V (D.la.getD j' zsec))) ∧ vB.ownBlock ≠ some g0
/-- The facts of one step of it. -/
theorem Sj.facts {w wr : World} {B sp N M m p q g0 j : Nat} {D E : AD} {f : Nat → Nat} {us : List Value} {gI : Nat → Nat} {Ri : Nat → List Value} {vI : Value} {uI : List Value} {A : Nat → Prop} {G : Nat → Nat} (h : Sj w wr B sp N M m p q g0 j D E f us gI Ri vI uI A G) (hj : j < m) (hf : ∀ j', j' < m → w.heap.size ≤ f j' ∧ us[j']? = some (.slice (some ⟨f j', 0, none⟩) 512 512)) (hfd : ∀ j j', j < m → j' < m → j ≠ j' → f j ≠ f j') (hA : ∀ j', j' < m → A (f j')) (hs : ∀ j', j' < m → (u8V (D.la.getD j' zsec)).length = 512) (hN : N ≤ 20000) (hm20 : m ≤ 20) :
    ∃ (vB : Value) (uB : List Value), wr.cell? ⟨sp, 0, none⟩ = some vB ∧ wr.cell? ⟨g0, j, none⟩ = some (.slice (some ⟨f j, 0, none⟩) 512 512) ∧ Row wr w.heap.size 23 vB uB ∧ uB.length ≤ 1000000 ∧ w.heap.size ≤ wr.heap.size ∧ sp < wr.heap.size ∧ g0 < wr.heap.size ∧ vB.ownBlock ≠ some g0 ∧ vB.ownBlock ≠ some sp ∧
      ∀ v3 w3, Row w3 w.heap.size 23 v3 (uB ++ [.slice (some ⟨f j, 0, none⟩) 512 512]) → (wr.alloc (.cells #[.slice (some ⟨f j, 0, none⟩) 512 512] 23)).grownBy w3 vB.ownBlock → (v3.ownBlock = vB.ownBlock ∨ v3.ownBlock = some (wr.alloc (.cells #[.slice (some ⟨f j, 0, none⟩) 512 512] 23)).heap.size) →
        (∃ a3 n3 c3, v3 = .slice a3 n3 c3) ∧ (∃ z, w3.cell? ⟨sp, 0, none⟩ = some z) ∧ w3.frozen? ⟨sp, 0, none⟩ = false ∧ Sj w (w3.setCell ⟨sp, 0, none⟩ v3) B sp N M m p q g0 (j + 1) D E f us gI Ri vI uI A G := by
  obtain ⟨gB, Rb, vB, uB, hS, h1, h2, hd, hU, hF, hx⟩ := h
  have hlt := hU.lt
  refine ⟨vB, uB, hS.sh.cell_of rfl, hU.cell_of (hf j hj).2, hS.rB, by rw [hS.lB]; omega, hS.bel.size, hS.sh.lt, hlt, hx, fun e => ?_, fun v3 w3 ho hg3 hat => ?_⟩
  · obtain ⟨cur, hcur, _⟩ := hS.rB.blk3 e
    exact arr_ne3 hS.sh hcur (by decide) rfl
  · obtain ⟨x1, x2, x3, x4, x5, x6⟩ := hS.next (hF j hj) (hs j hj) (hf j hj).1 (fun k hk => h2 k hk j (Nat.le_refl _) hj) hd ho hg3 hat
    refine ⟨x1, x2, x3, ⟨_, _, v3, _, x4, fun k hk => ?_, fun k hk j' hj1 hj2 => ?_, x5, hU.up3 x6 (fun e => ?_), fun j' hj' => (hF j' hj').up3 x6 (fun e => ?_), fun e => ?_⟩⟩
    · by_cases e : k = N + j
      · rw [e, updF_same]; exact hA j hj
      · rw [updF_other _ _ e]; exact h1 k (by omega)
    · by_cases e : k = N + j
      · rw [e, updF_same]; exact hfd j j' hj hj2 (by omega)
      · rw [updF_other _ _ e]; exact h2 k (by omega) j' (by omega) hj2
    · rcases e with e | e
      · exact arr_ne3 hU hS.sh (by decide) e
      · exact hx e
    · rcases e with e | e
      · exact arr_ne3 (hF j' hj') hS.sh (by decide) e
      · obtain ⟨cur, hcur, _⟩ := hS.rB.blk3 e
        exact arr_ne3 (hF j' hj') hcur (by decide) rfl
    · rcases hat with hat | hat
      · exact hx (hat ▸ e)
      · rw [hat] at e
        injection e with e
        simp at e
        omega
/-- What stays the same on the way through an image. -/
def Sk (w : World) (M m g0 : Nat) (D D' : AD) (f : Nat → Nat) (us : List Value) (gI : Nat → Nat) (A : Nat → Prop) : Prop :=
  D'.la = D.la ∧ D'.wr = D.wr ∧ (∀ b, b < w.heap.size → A b) ∧ (∀ j', j' < m → w.heap.size ≤ f j' ∧ us[j']? = some (.slice (some ⟨f j', 0, none⟩) 512 512)) ∧ (∀ j j', j < m → j' < m → j ≠ j' → f j ≠ f j') ∧ (∀ j', j' < m → A (f j')) ∧ us.length = m ∧ (∀ k, k < M → gI k ≠ g0) ∧ w.heap.size ≤ g0 ∧ (∀ j', j' < m → (u8V (D'.la.getD j' zsec)).length = 512)
theorem Sq.image {w wr : World} {B sp N M m p q : Nat} {D E : AD} (h : Sq w wr B sp N M m p q D E) (hm : D.la.length = m) :
    Calls Try.prog 13 #[.pointer (some ⟨p, 0, none⟩)] wr fun e w' => ∃ (D' : AD) (g0 : Nat) (f : Nat → Nat) (us : List Value) (gI : Nat → Nat) (Ri : Nat → List Value) (vI : Value) (uI : List Value) (A : Nat → Prop) (G : Nat → Nat), e = .returned (.slice (some ⟨g0, 0, none⟩) m m) ∧ Hid (Sk w M m g0 D D' f us gI A) ∧ Hid (Sj w w' B sp N M m p q g0 0 D' E f us gI Ri vI uI A G) := by
  obtain ⟨D', hd1, hd2, gB, gI, Rb, Ri, vB, vI, uB, uI, A, G, hSh, hA1, hA2, hDk⟩ := h
  have hlen : D'.la.length = m := by rw [hd1]; exact hm
  obtain ⟨gm, V, hk1, _, _⟩ := hDk.all
  have hok := (hk1 0 (by decide)).ok.las
  refine (imageN_calls (hk1 0 (by decide))).mono ?_
  rintro e w1 ⟨us, f, rfl, hA0, hul, hf, hfd, hb⟩
  have hlen2 : (two D' E 0).la.length = m := hlen
  rw [hlen2] at hul hf hfd
  have hsz := hSh.bel.size
  refine ⟨D', wr.heap.size, f, us, gI, Ri, vI, uI, (fun b => A b ∨ ∃ j, j < m ∧ b = f j), G, by rw [hlen2], ⟨hd1, hd2, fun b hb => Or.inl (hA1 b hb), fun j hj => ⟨Nat.le_trans hsz (hf j hj).1, (hf j hj).2.1⟩, hfd, fun j hj => Or.inr ⟨j, hj, rfl⟩, hul, fun k hk e => ?_, hsz, fun j hj => ?_⟩, gB, Rb, vB, uB, hSh.below hb, fun k hk => Or.inl (hA2 k hk), fun k hk j' _ hj' e => ?_, ?_, hA0, fun j hj => (hf j hj).2.2, fun e => ?_⟩
  · have := (hSh.aI k hk).1.lt; omega
  · rw [u8V_len, List.getD_eq_getElem?_getD, List.getElem?_eq_getElem (by omega)]
    exact (hok _ (List.getElem_mem _)).1
  · have := (hSh.aB k hk).1.lt
    have := (hf j' hj').1
    omega
  · exact hDk.anew hb (fun b hb => hb.elim Or.inl (fun ⟨j, hj, e⟩ => Or.inr (by rw [e]; exact ⟨(hf j hj).1, (hf j hj).2.2.lt⟩)))
  · have := (hSh.rB.lt _ e).2; omega
/-- At its end: the image itself. -/
theorem Sj.done {w wr : World} {B sp N M m p q g0 : Nat} {D D' E : AD} {f : Nat → Nat} {us : List Value} {gI : Nat → Nat} {Ri : Nat → List Value} {vI : Value} {uI : List Value} {A : Nat → Prop} {G : Nat → Nat} (hk : Sk w M m g0 D D' f us gI A) (h : Sj w wr B sp N M m p q g0 m D' E f us gI Ri vI uI A G) (hM : M ≤ 2000) :
    wr.cell? ⟨sp, 1, none⟩ = some vI ∧ Row (wr.alloc (.cells #[.slice (some ⟨g0, 0, none⟩) m m] 33)) w.heap.size 33 vI uI ∧ uI.length ≤ 1000000 ∧ w.heap.size ≤ (wr.alloc (.cells #[.slice (some ⟨g0, 0, none⟩) m m] 33)).heap.size ∧
      ∀ v3 w3, Row w3 w.heap.size 33 v3 (uI ++ [.slice (some ⟨g0, 0, none⟩) m m]) → (wr.alloc (.cells #[.slice (some ⟨g0, 0, none⟩) m m] 33)).grownBy w3 vI.ownBlock → (v3.ownBlock = vI.ownBlock ∨ v3.ownBlock = some (wr.alloc (.cells #[.slice (some ⟨g0, 0, none⟩) m m] 33)).heap.size) →
        (∃ a3 n3 c3, v3 = .slice a3 n3 c3) ∧ (∃ z, w3.cell? ⟨sp, 1, none⟩ = some z) ∧ w3.frozen? ⟨sp, 1, none⟩ = false ∧ Sq w (w3.setCell ⟨sp, 1, none⟩ v3) B sp (N + m) (M + 1) m p q D E := by
  obtain ⟨q1, q2, q3, _, _, _, q7, q8, q9, _⟩ := hk
  obtain ⟨gB, Rb, vB, uB, hS, h1, h2, hd, hU, hF, hx⟩ := h
  have hb2 := (Below.refl wr.heap.size wr).alloc (Nat.le_refl _) (.cells #[.slice (some ⟨g0, 0, none⟩) m m] 33)
  have hS2 := hS.below hb2
  refine ⟨hS.sh.cell_of rfl, hS2.rI, by rw [hS.lI]; omega, hS2.bel.size, fun v3 w3 ho hg3 hat => ?_⟩
  obtain ⟨a3, c3, hv3⟩ := ho.shape
  have hks : Arr w3 sp 56 [vB, vI, .slice none 0 0, .slice none 0 0] := hS2.sh.keep (hg3.block sp hS2.sh.lt (fun e => by
    obtain ⟨cur, hcur, _⟩ := hS2.rI.blk3 e.symm
    exact arr_ne3 hS2.sh hcur (by decide) rfl))
  have u3 : Up (fun b => vI.ownBlock = some b) (wr.alloc (.cells #[.slice (some ⟨g0, 0, none⟩) m m] 33)) w3 := Up.of_grown hg3 (fun b hb => hb)
  have u4 : Up (fun b => b = sp) w3 (w3.setCell ⟨sp, 1, none⟩ v3) := Up.of_grown (grown_cell w3 sp 1 v3) (fun b hb => (Option.some.inj hb).symm)
  have k2 := hd.anew (A' := A) hb2 (fun b hb => Or.inl hb)
  have k3 := k2.step (F := fun b => vI.ownBlock = some b) u3 (fun b hb => by
    obtain ⟨cur, hcur, _⟩ := hS2.rI.blk3 hb
    exact ⟨_, _, _, hcur, by decide, by decide⟩)
  have k4 := k3.step (F := fun b => b = sp) u4 (fun b hb => by
    rw [hb]
    exact ⟨_, _, _, hks, by decide, by decide⟩)
  exact ⟨⟨a3, _, c3, hv3⟩, ⟨_, hks.cell_of rfl⟩, hks.frozen 1, ⟨D', q1, q2, gB, _, Rb, _, vB, v3, uB, _, A, G, hS2.pushI (hU.below hb2) q7 q9 q8 hx (fun e => by cases e) hg3 ho hat, q3, h1, k4⟩⟩
theorem Sj.ne {w wr : World} {B sp N M m p q g0 j : Nat} {D E : AD} {f : Nat → Nat} {us : List Value} {gI : Nat → Nat} {Ri : Nat → List Value} {vI : Value} {uI : List Value} {A : Nat → Prop} {G : Nat → Nat} (h : Sj w wr B sp N M m p q g0 j D E f us gI Ri vI uI A G) : g0 ≠ sp := by
  obtain ⟨gB, Rb, vB, uB, hS, h1, h2, hd, hU, hF, hx⟩ := h
  exact arr_ne3 hU hS.sh (by decide)
theorem Sj.drew {w wr : World} {B sp N M m p q g0 j : Nat} {D E : AD} {f : Nat → Nat} {us : List Value} {gI : Nat → Nat} {Ri : Nat → List Value} {vI : Value} {uI : List Value} {A : Nat → Prop} {G : Nat → Nat} (h : Sj w wr B sp N M m p q g0 j D E f us gI Ri vI uI A G) : Sj w wr.drew B sp N M m p q g0 j D E f us gI Ri vI uI A G := by
  obtain ⟨gB, Rb, vB, uB, hS, h1, h2, hd, hU, hF, hx⟩ := h
  have hb : Below wr.heap.size wr wr.drew := (Below.refl _ _).drew
  exact ⟨gB, Rb, vB, uB, hS.below hb, h1, h2, hd.anew hb (fun b hb => Or.inl hb), hU.below hb, fun j hj => (hF j hj).below hb, hx⟩
set_option maxRecDepth 100000 in
set_option maxHeartbeats 4000000 in
theorem asked_calls {w wr : World} {B sp N M m p q n : Nat} {D E : AD} (h : Sq w wr B sp N M m p q D E) (hm : D.la.length = m) (hn : n < m) (hm20 : m ≤ 20) (hB : B ≤ 100000) (hN : N ≤ 10000) (hM : M ≤ 1000) (hp : w.heap.size ≤ p) :
    Calls Try.prog 25 #[.pointer (some ⟨sp, 0, none⟩), .pointer (some ⟨p, 0, none⟩), .int .i64 (n : Int)] wr fun e w' => e = .returned (.tuple #[]) ∧ Sq w w' (B + 2) sp (N + 2 + 2 * m) (M + 2) m p q D E := by
  have H0 := hide h
  have HM := hide hm
  clear h hm
  go_enter Try.func25, Try.ntmps25
  go_wp2
  rename World => wA
  go_loopw [6] (fun iv W => ∃ i : Nat, i ≤ 2 ∧ iv = .int .i64 (i : Int) ∧ Hid (Sq w W (B + i) sp (N + i) M m p q D E)) (fun iv _ => 2 - (intOf iv).toNat)
  case atStart => exact ⟨0, by omega, rfl, H0⟩
  case round =>
    clear H0
    obtain ⟨i, hi, rfl, HS⟩ := hrel
    by_cases hi2 : i < 2
    · have hiI : (i : Int) < 2 := by omega
      obtain ⟨D', hd1, hd2, gB, gI, Rb, Ri, vB, vI, uB, uI, A, G, hSh, hA1, hA2, hDk⟩ := HS.out
      have HRD := hide (dka_readN (k := 0) (i := n) hDk (by decide) rfl (by show n < D'.la.length; rw [hd1, HM.out]; exact hn) (by omega))
      have HSH := hide hSh
      have HA1 := hide hA1
      have HA2 := hide hA2
      have HD1 := hide hd1
      have HD2 := hide hd2
      clear HS hDk hSh hA1 hA2 hd1 hd2
      go_wp2_with fail
      refine (unhide HRD).mono ?_
      rintro e w1 ⟨g, rfl, hg1, hA3, hs3, hgr, ⟨cs, hcs⟩, _, hdk⟩
      have hS1 := HSH.out.read hgr hcs hp
      have hb2 := (Below.refl w1.heap.size w1).alloc (Nat.le_refl _) (.cells #[.slice (some ⟨g, 0, none⟩) 512 512] 23)
      have hS2 := hS1.below hb2
      have HR2 := hide hS2.rB
      have hf0 : w1.cell? ⟨sp, 0, none⟩ = some vB := hS1.sh.cell_of rfl
      have hcn : (w1.alloc (.cells #[.slice (some ⟨g, 0, none⟩) 512 512] 23)).cell? ⟨w1.heap.size, 0, none⟩ = some (.slice (some ⟨g, 0, none⟩) 512 512) := by simp
      have hsz : w.heap.size ≤ (w1.alloc (.cells #[.slice (some ⟨g, 0, none⟩) 512 512] 23)).heap.size := hS2.bel.size
      have hl : uB.length ≤ 1000000 := by rw [hS2.lB]; omega
      have HNX : Hid (∀ v3 w3, Row w3 w.heap.size 23 v3 (uB ++ [.slice (some ⟨g, 0, none⟩) 512 512]) → (w1.alloc (.cells #[.slice (some ⟨g, 0, none⟩) 512 512] 23)).grownBy w3 vB.ownBlock → (v3.ownBlock = vB.ownBlock ∨ v3.ownBlock = some (w1.alloc (.cells #[.slice (some ⟨g, 0, none⟩) 512 512] 23)).heap.size) → (∃ a3 n3 c3, v3 = .slice a3 n3 c3) ∧ (∃ z, w3.cell? ⟨sp, 0, none⟩ = some z) ∧ w3.frozen? ⟨sp, 0, none⟩ = false ∧ Sq w (w3.setCell ⟨sp, 0, none⟩ v3) (B + (i + 1)) sp (N + (i + 1)) M m p q D E) := fun v3 w3 ho hg3 hat => by
        have hlt0 : w.heap.size ≤ wr.heap.size := HSH.out.bel.size
        have k1 := hdk (fun b => A b ∨ b = g) (fun b hb => hb.elim Or.inl (fun e => Or.inr ⟨by omega, by rw [e]; exact hA3.lt⟩))
        obtain ⟨x1, x2, x3, x4, x5, _⟩ := hS1.next hA3 (by rw [u8V_len]; exact hs3.1) (by omega) (fun k hk e => by have := (HSH.out.aB k hk).1.lt; omega) k1 ho hg3 hat
        refine ⟨x1, x2, x3, ⟨D'.reads 1, HD1.out, HD2.out, _, gI, _, Ri, v3, vI, _, uI, (fun b => A b ∨ b = g), G, x4, fun b hb => Or.inl (HA1.out b hb), fun k hk => ?_, ?_⟩⟩
        · by_cases e : k = N + i
          · rw [e, updF_same]; exact Or.inr rfl
          · rw [updF_other _ _ e]; exact Or.inl (HA2.out k (by omega))
        · refine x5.congr (fun _ _ => rfl) (fun _ _ => rfl) (fun k hk => ?_)
          rw [updF_two0]
          rfl
      clear hS1 hS2 hb2 hA3 hs3 hgr hcs hdk HRD HSH HA1 HA2 HD1 HD2
      go_wp2_with (first
        | (at_builtin; refine wpList_appL Try.underlying33 infoSlO rfl (.tmp 26) (.tmp 28) rfl rfl HR2.out rfl hcn rfl hl hsz ?_; intro v3 w3 hr3 hg3 hat3
           obtain ⟨⟨a3, n3, c3, rfl⟩, ⟨z3, hz3⟩, hf3, hS3⟩ := unhide HNX v3 w3 hr3 hg3 hat3
           have HS3 := hide hS3
           clear hr3 hg3 hat3 HNX hS3 HR2 hcn hl hsz))
      go_roundw
      case rel => exact ⟨i + 1, by omega, by go_num, HS3⟩
      case measure => simp [intOf]; omega
    · have HI : Hid (i = 2) := hide (by omega)
      have hiN : ¬ (i : Int) < 2 := by omega
      have H2 : Hid (Sq w wr (B + 2) sp (N + 2) M m p q D E) := hide (by have h0 := HS.out; rw [HI.out] at h0; exact h0)
      clear HS
      go_wp2
      clear hiN
      rename World => wB
      go_loopw [9] (fun iv W => ∃ i2 : Nat, i2 ≤ 2 ∧ iv = .int .i64 (i2 : Int) ∧ Hid (Sq w W (B + 2) sp (N + 2 + i2 * m) (M + i2) m p q D E)) (fun iv _ => 2 - (intOf iv).toNat)
      case atStart => exact ⟨0, by omega, rfl, hide (by rw [Nat.zero_mul]; exact H2.out)⟩
      case round =>
        clear H2
        obtain ⟨i2, hi2, rfl, HS⟩ := hrel
        by_cases hi22 : i2 < 2
        · have hiI2 : (i2 : Int) < 2 := by omega
          have HIM := hide (HS.out.image HM.out)
          have HN2 : Hid (N + 2 + i2 * m ≤ 20000) := hide (by have : i2 * m ≤ 1 * m := Nat.mul_le_mul_right _ (by omega); omega)
          have hmI : (m : Int) < 4611686018427387904 := by omega
          clear HS
          go_wp2_with fail
          refine (unhide HIM).mono ?_
          rintro e w1 ⟨D', g0, f, us, gI, Ri, vI, uI, A, G, rfl, HK, HJ⟩
          clear HIM
          generalize hn2 : N + 2 + i2 * m = N2 at HJ HN2
          have HNE := hide hn2
          have HGS : Hid (g0 ≠ sp) := hide HJ.out.ne
          clear hn2
          go_wp2_with fail
          go_loopw [11] (fun jv W => ∃ j : Nat, j ≤ m ∧ jv = .int .i64 (j : Int) ∧ Hid (Sj w W (B + 2) sp N2 (M + i2) m p q g0 j D' E f us gI Ri vI uI A G)) (fun jv _ => m - (intOf jv).toNat)
          case atStart => exact ⟨0, by omega, rfl, HJ⟩
          case round =>
            clear HJ
            obtain ⟨j, hj, rfl, HJ⟩ := hrel
            by_cases hjm : j < m
            · have hjI : (j : Int) < (m : Int) := by omega
              obtain ⟨vB, uB, hf0, hcj, hrow, hl, hsz, hsl, hgl, hx1, hx2, hnx⟩ := HJ.out.drew.facts hjm HK.out.2.2.2.1 HK.out.2.2.2.2.1 HK.out.2.2.2.2.2.1 HK.out.2.2.2.2.2.2.2.2.2 HN2.out hm20
              have HNX := hide hnx
              have hb2 := (Below.refl wr.drew.heap.size wr.drew).alloc (Nat.le_refl _) (.cells #[.slice (some ⟨f j, 0, none⟩) 512 512] 23)
              have HRA := hide (hrow.up3 (F := fun _ => False) (Up.of_below hb2) (fun _ _ h => h))
              have hcj2 := (Up.of_below (F := fun _ => False) hb2).cell hcj (fun h => h)
              have hf02 := (Up.of_below (F := fun _ => False) hb2).cell hf0 (fun h => h)
              have hcn : (wr.drew.alloc (.cells #[.slice (some ⟨f j, 0, none⟩) 512 512] 23)).cell? ⟨wr.drew.heap.size, 0, none⟩ = some (.slice (some ⟨f j, 0, none⟩) 512 512) := (Arr.new wr.drew [.slice (some ⟨f j, 0, none⟩) 512 512] 23).cell_of rfl
              have hsz2 : w.heap.size ≤ (wr.drew.alloc (.cells #[.slice (some ⟨f j, 0, none⟩) 512 512] 23)).heap.size := Nat.le_trans hsz hb2.size
              have HCJ : Hid (∀ w3, (wr.drew.alloc (.cells #[.slice (some ⟨f j, 0, none⟩) 512 512] 23)).grownBy w3 vB.ownBlock → w3.cell? ⟨g0, j, none⟩ = some (.slice (some ⟨f j, 0, none⟩) 512 512)) := hide (fun w3 hg3 => hg3.cell hcj2 (fun e => hx1 e.symm))
              have hgs : g0 ≠ sp := HGS.out
              have HCK : Hid (∀ (w3 : World) (v3 : Value), w3.cell? ⟨g0, j, none⟩ = some (.slice (some ⟨f j, 0, none⟩) 512 512) → (w3.setCell ⟨sp, 0, none⟩ v3).cell? ⟨g0, j, none⟩ = some (.slice (some ⟨f j, 0, none⟩) 512 512)) := hide (fun w3 v3 h3 => (Up.of_grown (F := fun b => b = sp) (grown_cell w3 sp 0 v3) (fun b hb => (Option.some.inj hb).symm)).cell h3 hgs)
              have hsp0 := hf0
              clear hrow hnx hx1 hx2 hb2 HJ hgs
              go_wp2_with fail
              refine wp_region_held_drew (S := fun W => W.cell? ⟨g0, j, none⟩ = some (.slice (some ⟨f j, 0, none⟩) 512 512)) (by kernel_rfl) (hcj) (fun hHeld => ?_)
              refine wpAnyH_take (i := 0) (v := .pointer (some ⟨sp, 0, none⟩)) rfl (by kernel_rfl) (by kernel_rfl) (by kernel_rfl) (fun _ _ _ h => h) (Or.inl ⟨by rfl, fun w hSw => by go_simp⟩) (by assumption) ?_
              simp only [List.getElem_toArray, List.getElem_cons_zero, Act.put, List.setIfInBounds_toArray, List.set_cons_zero, List.set_cons_succ]
              refine wpAnyH_take (i := 1) (v := .pointer (some ⟨sp, 0, none⟩)) rfl (by kernel_rfl) (by kernel_rfl) (by kernel_rfl) (fun _ _ _ h => h) (Or.inl ⟨by rfl, fun w hSw => by go_simp⟩) (by assumption) ?_
              simp only [List.getElem_toArray, List.getElem_cons_succ, List.getElem_cons_zero, Act.put, List.setIfInBounds_toArray, List.set_cons_zero, List.set_cons_succ]
              refine wpAnyH_take (i := 2) (v := .pointer (some ⟨sp, 0, none⟩)) rfl (by kernel_rfl) (by kernel_rfl) (by kernel_rfl) (fun _ _ _ h => h) (Or.inl ⟨by rfl, fun w hSw => by go_simp⟩) (by assumption) ?_
              simp only [List.getElem_toArray, List.getElem_cons_succ, List.getElem_cons_zero, Act.put, List.setIfInBounds_toArray, List.set_cons_zero, List.set_cons_succ]
              refine wpAnyH_take (i := 3) (v := .pointer (some ⟨sp, 0, none⟩)) rfl (by kernel_rfl) (by kernel_rfl) (by kernel_rfl) (fun _ _ _ h => h) (Or.inl ⟨by rfl, fun w hSw => by go_simp⟩) (by assumption) ?_
              simp only [List.getElem_toArray, List.getElem_cons_succ, List.getElem_cons_zero, Act.put, List.setIfInBounds_toArray, List.set_cons_zero, List.set_cons_succ]
              refine wpAnyH_take (i := 5) (v := .slice (some ⟨g0, 0, none⟩) m m) rfl (by kernel_rfl) (by kernel_rfl) (by kernel_rfl) (fun _ _ _ h => h) (Or.inl ⟨by rfl, fun w hSw => by go_simp⟩) (by assumption) ?_
              simp only [List.getElem_toArray, List.getElem_cons_succ, List.getElem_cons_zero, Act.put, List.setIfInBounds_toArray, List.set_cons_zero, List.set_cons_succ]
              refine wpAnyH_take (i := 6) (v := .int .i64 (j : Int)) rfl (by kernel_rfl) (by kernel_rfl) (by kernel_rfl) (fun _ _ _ h => h) (Or.inl ⟨by rfl, fun w hSw => by go_simp⟩) (by assumption) ?_
              simp only [List.getElem_toArray, List.getElem_cons_succ, List.getElem_cons_zero, Act.put, List.setIfInBounds_toArray, List.set_cons_zero, List.set_cons_succ]
              refine wpAnyH_take (i := 7) (v := .pointer (some ⟨g0, j, none⟩)) rfl (by kernel_rfl) (by kernel_rfl) (by kernel_rfl) (fun _ _ _ h => h) (Or.inl ⟨by rfl, fun w hSw => by go_simp⟩) (by assumption) ?_
              simp only [List.getElem_toArray, List.getElem_cons_succ, List.getElem_cons_zero, Act.put, List.setIfInBounds_toArray, List.set_cons_zero, List.set_cons_succ]
              refine wpAnyH_take (i := 8) (v := .slice (some ⟨f j, 0, none⟩) 512 512) rfl (by kernel_rfl) (by kernel_rfl) (by kernel_rfl) (fun _ _ _ h => h) (Or.inl ⟨by rfl, fun w hSw => by go_simp⟩) (by assumption) ?_
              simp only [List.getElem_toArray, List.getElem_cons_succ, List.getElem_cons_zero, Act.put, List.setIfInBounds_toArray, List.set_cons_zero, List.set_cons_succ]
              refine wpAnyH_ready (rs := [4, 9]) (by kernel_rfl) (by simp) (AllReadyH.cons rfl (fun K hK => ?_) (AllReadyH.cons rfl (fun K hK => ?_) AllReadyH.nil))
              · refine step_loadSl (by rfl) (.tmp 47) rfl rfl hf0 ?_
                refine hK.out _ _ (hHeld) (fun hHeld2 => ?_)
                clear hK K
                simp only [List.getElem_toArray, List.getElem_cons_succ, List.getElem_cons_zero, Act.put, List.setIfInBounds_toArray, List.set_cons_zero, List.set_cons_succ]
                refine wpAnyH_ready (rs := [9]) (by kernel_rfl) (by simp) (AllReadyH.cons rfl (fun K hK => ?_) AllReadyH.nil)
                refine step_buildSl (by rfl) (.tmp 52) rfl rfl ?_
                refine hK.out _ _ (hcj2) (fun hHeld3 => ?_)
                clear hK K
                simp only [List.getElem_toArray, List.getElem_cons_succ, List.getElem_cons_zero, Act.put, List.setIfInBounds_toArray, List.set_cons_zero, List.set_cons_succ]
                refine wpAnyH_ready (rs := [10]) (by kernel_rfl) (by simp) (AllReadyH.cons rfl (fun K hK => ?_) AllReadyH.nil)
                refine step_appL (by rfl) (.tmp 48) (.tmp 53) rfl rfl HRA.out rfl hcn rfl hl hsz2 ?_
                intro v3 w3 hr3 hg3 hat3
                obtain ⟨⟨a3, n3, c3, rfl⟩, ⟨z3, hz3⟩, hf3, hS3⟩ := unhide HNX _ w3 hr3 hg3 hat3
                have hcj3 := unhide HCJ w3 hg3
                refine hK.out _ _ (hcj3) (fun hHeld4 => ?_)
                clear hK K
                simp only [List.getElem_toArray, List.getElem_cons_succ, List.getElem_cons_zero, Act.put, List.setIfInBounds_toArray, List.set_cons_zero, List.set_cons_succ]
                refine wpAnyH_take (i := 11) (v := .pointer (some ⟨sp, 0, none⟩)) rfl (by kernel_rfl) (by kernel_rfl) (by kernel_rfl) (fun _ _ _ h => h) (Or.inl ⟨by rfl, fun w hSw => by go_simp⟩) (by assumption) ?_
                simp only [List.getElem_toArray, List.getElem_cons_succ, List.getElem_cons_zero, Act.put, List.setIfInBounds_toArray, List.set_cons_zero, List.set_cons_succ]
                refine wpAnyH_take (i := 12) (v := .pointer (some ⟨sp, 0, none⟩)) rfl (by kernel_rfl) (by kernel_rfl) (by kernel_rfl) (fun _ _ _ h => h) (Or.inl ⟨by rfl, fun w hSw => by go_simp⟩) (by assumption) ?_
                simp only [List.getElem_toArray, List.getElem_cons_succ, List.getElem_cons_zero, Act.put, List.setIfInBounds_toArray, List.set_cons_zero, List.set_cons_succ]
                refine wpAnyH_ready (rs := [13]) (by kernel_rfl) (by simp) (AllReadyH.cons rfl (fun K hK => ?_) AllReadyH.nil)
                refine step_storeSl (by rfl) (.tmp 56) (.tmp 54) rfl rfl rfl rfl hz3 hf3 ?_
                refine hK.out _ _ (unhide HCK _ _ hcj3) (fun hHeld5 => ?_)
                clear hK K
                simp only [List.getElem_toArray, List.getElem_cons_succ, List.getElem_cons_zero, Act.put]
                refine wpAnyH_done (by kernel_rfl) ?_ _
                have HS3 := hide hS3
                clear hHeld hHeld2 hHeld3 hHeld4 hHeld5 hr3 hg3 hat3 HNX hS3 hcj3 HCJ HCK HRA
                go_wp2
                go_roundw
                case rel => exact ⟨j + 1, by omega, by go_num, HS3⟩
                case measure => simp [intOf]; omega
              · refine step_buildSl (by rfl) (.tmp 52) rfl rfl ?_
                refine hK.out _ _ (hcj2) (fun hHeld2 => ?_)
                clear hK K
                simp only [List.getElem_toArray, List.getElem_cons_succ, List.getElem_cons_zero, Act.put, List.setIfInBounds_toArray, List.set_cons_zero, List.set_cons_succ]
                refine wpAnyH_ready (rs := [4]) (by kernel_rfl) (by simp) (AllReadyH.cons rfl (fun K hK => ?_) AllReadyH.nil)
                refine step_loadSl (by rfl) (.tmp 47) rfl rfl hf02 ?_
                refine hK.out _ _ (hcj2) (fun hHeld3 => ?_)
                clear hK K
                simp only [List.getElem_toArray, List.getElem_cons_succ, List.getElem_cons_zero, Act.put, List.setIfInBounds_toArray, List.set_cons_zero, List.set_cons_succ]
                refine wpAnyH_ready (rs := [10]) (by kernel_rfl) (by simp) (AllReadyH.cons rfl (fun K hK => ?_) AllReadyH.nil)
                refine step_appL (by rfl) (.tmp 48) (.tmp 53) rfl rfl HRA.out rfl hcn rfl hl hsz2 ?_
                intro v3 w3 hr3 hg3 hat3
                obtain ⟨⟨a3, n3, c3, rfl⟩, ⟨z3, hz3⟩, hf3, hS3⟩ := unhide HNX _ w3 hr3 hg3 hat3
                have hcj3 := unhide HCJ w3 hg3
                refine hK.out _ _ (hcj3) (fun hHeld4 => ?_)
                clear hK K
                simp only [List.getElem_toArray, List.getElem_cons_succ, List.getElem_cons_zero, Act.put, List.setIfInBounds_toArray, List.set_cons_zero, List.set_cons_succ]
                refine wpAnyH_take (i := 11) (v := .pointer (some ⟨sp, 0, none⟩)) rfl (by kernel_rfl) (by kernel_rfl) (by kernel_rfl) (fun _ _ _ h => h) (Or.inl ⟨by rfl, fun w hSw => by go_simp⟩) (by assumption) ?_
                simp only [List.getElem_toArray, List.getElem_cons_succ, List.getElem_cons_zero, Act.put, List.setIfInBounds_toArray, List.set_cons_zero, List.set_cons_succ]
                refine wpAnyH_take (i := 12) (v := .pointer (some ⟨sp, 0, none⟩)) rfl (by kernel_rfl) (by kernel_rfl) (by kernel_rfl) (fun _ _ _ h => h) (Or.inl ⟨by rfl, fun w hSw => by go_simp⟩) (by assumption) ?_
                simp only [List.getElem_toArray, List.getElem_cons_succ, List.getElem_cons_zero, Act.put, List.setIfInBounds_toArray, List.set_cons_zero, List.set_cons_succ]
                refine wpAnyH_ready (rs := [13]) (by kernel_rfl) (by simp) (AllReadyH.cons rfl (fun K hK => ?_) AllReadyH.nil)
                refine step_storeSl (by rfl) (.tmp 56) (.tmp 54) rfl rfl rfl rfl hz3 hf3 ?_
                refine hK.out _ _ (unhide HCK _ _ hcj3) (fun hHeld5 => ?_)
                clear hK K
                simp only [List.getElem_toArray, List.getElem_cons_succ, List.getElem_cons_zero, Act.put]
                refine wpAnyH_done (by kernel_rfl) ?_ _
                have HS3 := hide hS3
                clear hHeld hHeld2 hHeld3 hHeld4 hHeld5 hr3 hg3 hat3 HNX hS3 hcj3 HCJ HCK HRA
                go_wp2
                go_roundw
                case rel => exact ⟨j + 1, by omega, by go_num, HS3⟩
                case measure => simp [intOf]; omega
            · have HJM : Hid (j = m) := hide (by omega)
              have hjN : ¬ (j : Int) < (m : Int) := by omega
              obtain ⟨hf1, hrow, hl, hsz2, hnx⟩ := Sj.done HK.out (by have h0 := HJ.out; rw [HJM.out] at h0; exact h0) (by omega)
              have HR2 := hide hrow
              have HNX := hide hnx
              have hcn : (wr.alloc (.cells #[.slice (some ⟨g0, 0, none⟩) m m] 33)).cell? ⟨wr.heap.size, 0, none⟩ = some (.slice (some ⟨g0, 0, none⟩) m m) := by simp
              clear hrow hnx HJ HK HGS HN2
              go_wp2_with (first
                | (at_builtin; refine wpList_appL Try.underlying54 infoSlP rfl (.tmp 61) (.tmp 63) rfl rfl HR2.out rfl hcn rfl hl hsz2 ?_; intro v3 w3 hr3 hg3 hat3
                   obtain ⟨⟨a3, n3, c3, rfl⟩, ⟨z3, hz3⟩, hf3, hS3⟩ := unhide HNX v3 w3 hr3 hg3 hat3
                   have HS3 := hide hS3
                   clear hr3 hg3 hat3 HNX hS3 HR2 hcn hl hsz2))
              go_roundw
              case rel => exact ⟨i2 + 1, by omega, by go_num, hide (by have h0 := HS3.out; rw [← HNE.out] at h0; rw [Nat.succ_mul, ← Nat.add_assoc]; exact h0)⟩
              case measure => simp [intOf]; omega
        · have HI2 : Hid (i2 = 2) := hide (by omega)
          have hiN2 : ¬ (i2 : Int) < 2 := by omega
          go_wp2
          go_end0
          exact ⟨rfl, by have h0 := HS.out; rw [HI2.out] at h0; exact h0⟩

/-- The mark of a place, and the one that is put behind. -/
def mkO (i j : Nat) : Int := IntKind.u8.wrap ((i : Int) / 2 ^ (8 * (j % 2)))
def mkP (i j : Nat) : Int := IntKind.u8.wrap (mkO i j + 101)
def tri (i j : Nat) (z : Int) : List Value := [.int .u8 (IntKind.u8.wrap (i : Int)), .int .u8 (IntKind.u8.wrap (j : Int)), .int .u8 z]
theorem mark_facts (i j : Nat) (hj : j < 100000) : ∃ e e8 q : Int, bits .and .i64 (j : Int) 1 = e ∧ IntKind.i64.wrap (8 * e) = e8 ∧ 0 ≤ e8 ∧ e8 < 64 ∧ (i : Int) / 2 ^ e8.toNat = q ∧ IntKind.u8.wrap q = mkO i j := by
  have h1 : bits .and .i64 (j : Int) 1 = (j : Int) % 2 := bits_mask .i64 63 (by decide) (fun n h0 h1 => by rw [IntKind.wrap_i64]; omega) 1 (by decide) j (by omega) (by omega)
  refine ⟨(j : Int) % 2, 8 * ((j : Int) % 2), _, h1, by rw [IntKind.wrap_i64]; omega, by omega, by omega, rfl, ?_⟩
  have : (8 * ((j : Int) % 2)).toNat = 8 * (j % 2) := by omega
  rw [this]
  rfl
/-- What is known of the rows, and of what came of them. -/
structure Fx (w wr : World) (m nB nI nC nJ : Nat) (Rb Ri : Nat → List Value) (uC uJ : List Value) : Prop where
  fB : ∀ k, k < nB → ∀ j, j < 512 → (Rb k)[j]? = some (.int .u8 (mkO k j))
  fI : ∀ k, k < nI → ∀ j, j < m → ∃ h, (Ri k)[j]? = some (.slice (some ⟨h, 0, none⟩) 3 3) ∧ Arr wr h 5 (tri k j 77)
  lC : uC.length = nC
  fC : ∀ k, k < nC → ∃ v cs, uC[k]? = some v ∧ Row wr w.heap.size 5 v cs ∧ cs.length = 582 ∧ (∀ j, j < 512 → cs[j]? = some (.int .u8 (mkO k j))) ∧ ∀ j, j < 70 → cs[512 + j]? = some (.int .u8 (mkP k j))
  lJ : uJ.length = nJ
  fJ : ∀ k, k < nJ → ∃ v us, uJ[k]? = some v ∧ Row wr w.heap.size 23 v us ∧ us.length = m + 5 ∧ (∀ j, j < m → us[j]? = (Ri k)[j]?) ∧ ∀ j, j < 5 → ∃ h, us[m + j]? = some (.slice (some ⟨h, 0, none⟩) 3 3) ∧ Arr wr h 5 (tri k j 88)
theorem Fx.up {F : Nat → Prop} {w wr w' : World} {m nB nI nC nJ : Nat} {Rb Ri : Nat → List Value} {uC uJ : List Value} (h : Fx w wr m nB nI nC nJ Rb Ri uC uJ) (hu : Up F wr w') (hF : ∀ b, F b → ∃ cs t mm, wr.heap[b]? = some (.cells cs t mm) ∧ t ≠ 5 ∧ (nJ = 0 ∨ t ≠ 23)) : Fx w w' m nB nI nC nJ Rb Ri uC uJ := by
  have h8 : ∀ {g : Nat} {cs : List Value}, Arr wr g 5 cs → ¬ F g := fun {g cs} ha hf => by
    obtain ⟨cs', t, mm, hc, ht, _⟩ := hF g hf
    exact arr_ne3 ha hc (fun e => ht e.symm) rfl
  refine ⟨h.fB, fun k hk j hj => ?_, h.lC, fun k hk => ?_, h.lJ, fun k hk => ?_⟩
  · obtain ⟨x, h1, h2⟩ := h.fI k hk j hj
    exact ⟨x, h1, h2.up3 hu (h8 h2)⟩
  · obtain ⟨v, cs, h1, h2, h3⟩ := h.fC k hk
    refine ⟨v, cs, h1, h2.up3 hu (fun g hg hf => ?_), h3⟩
    obtain ⟨cur, hcur, _⟩ := h2.blk3 hg
    obtain ⟨cs', t, mm, hc, ht, _⟩ := hF g hf
    rw [hc] at hcur
    simp only [Option.some.injEq, Obj.cells.injEq] at hcur
    exact ht hcur.2.1
  · obtain ⟨v, us, h1, h2, h3, h4, h5⟩ := h.fJ k hk
    refine ⟨v, us, h1, h2.up3 hu (fun g hg hf => ?_), h3, h4, fun j hj => ?_⟩
    · obtain ⟨cur, hcur, _⟩ := h2.blk3 hg
      obtain ⟨cs', t, mm, hc, _, ht⟩ := hF g hf
      rw [hc] at hcur
      simp only [Option.some.injEq, Obj.cells.injEq] at hcur
      rcases ht with ht | ht
      · omega
      · exact ht hcur.2.1
    · obtain ⟨x, h6, h7⟩ := h5 j hj
      exact ⟨x, h6, h7.up3 hu (h8 h7)⟩
section
variable {w wr w' w2 : World} {sp N M m : Nat} {gB gI : Nat → Nat} {Rb Ri : Nat → List Value} {vB vI vC vJ : Value} {uB uI uC uJ : List Value}
/-- One place of a row of bytes. -/
theorem Sh.setB (h : Sh w wr sp N M m gB gI Rb Ri vB vI vC vJ uB uI uC uJ) {i j : Nat} (hi : i < N) (x : Value) : Sh w (wr.setCell ⟨gB i, j, none⟩ x) sp N M m gB gI (updF Rb i ((Rb i).set j x)) Ri vB vI vC vJ uB uI uC uJ := by
  have hu : Up (fun b => b = gB i) wr (wr.setCell ⟨gB i, j, none⟩ x) := Up.of_grown (grown_cell wr (gB i) j x) (fun b hb => (Option.some.inj hb).symm)
  have ha := (h.aB i hi).1
  have far : ∀ {v : Value} {t' : TypeId} {us : List Value}, Row wr w.heap.size t' v us → 77 ≠ t' → ∀ y, v.ownBlock = some y → ¬ y = gB i := fun {v t' us} hr' ht y hy e => by
    obtain ⟨cur, hcur, _⟩ := hr'.blk3 hy
    exact arr_ne3 ha hcur ht e.symm
  refine ⟨h.bel.setCell (p := ⟨gB i, j, none⟩) (h.nB i hi) _, h.sh.up3 hu (arr_ne3 h.sh ha (by decide)), h.rB.up3 hu (far h.rB (by decide)), h.rI.up3 hu (far h.rI (by decide)), h.rC.up3 hu (far h.rC (by decide)), h.rJ.up3 hu (far h.rJ (by decide)), h.lB, h.lI, h.eB, h.eI, fun k hk => ?_, fun k hk => ⟨(h.aI k hk).1.up3 hu (arr_ne3 (h.aI k hk).1 ha (by decide)), (h.aI k hk).2⟩, h.dB, h.dI, h.xB, h.xC, h.xBC, h.xIJ, h.nS, h.nB, h.nI⟩
  by_cases e : k = i
  · subst e
    rw [updF_same]
    exact ⟨ha.set j x, by rw [List.length_set]; exact (h.aB k hk).2⟩
  · rw [updF_other _ _ e]
    exact ⟨(h.aB k hk).1.up3 hu (h.dB k i hk hi e), (h.aB k hk).2⟩
/-- One place of an image. -/
theorem Sh.setI (h : Sh w wr sp N M m gB gI Rb Ri vB vI vC vJ uB uI uC uJ) {i j : Nat} (hi : i < M) (x : Value) : Sh w (wr.setCell ⟨gI i, j, none⟩ x) sp N M m gB gI Rb (updF Ri i ((Ri i).set j x)) vB vI vC vJ uB uI uC uJ := by
  have hu : Up (fun b => b = gI i) wr (wr.setCell ⟨gI i, j, none⟩ x) := Up.of_grown (grown_cell wr (gI i) j x) (fun b hb => (Option.some.inj hb).symm)
  have ha := (h.aI i hi).1
  have far : ∀ {v : Value} {t' : TypeId} {us : List Value}, Row wr w.heap.size t' v us → 23 ≠ t' → ∀ y, v.ownBlock = some y → ¬ y = gI i := fun {v t' us} hr' ht y hy e => by
    obtain ⟨cur, hcur, _⟩ := hr'.blk3 hy
    exact arr_ne3 ha hcur ht e.symm
  refine ⟨h.bel.setCell (p := ⟨gI i, j, none⟩) (h.nI i hi) _, h.sh.up3 hu (arr_ne3 h.sh ha (by decide)), h.rB.up3 hu (fun y hy e => h.xB i hi (e ▸ hy)), h.rI.up3 hu (far h.rI (by decide)), h.rC.up3 hu (fun y hy e => h.xC i hi (e ▸ hy)), h.rJ.up3 hu (far h.rJ (by decide)), h.lB, h.lI, h.eB, h.eI, fun k hk => ⟨(h.aB k hk).1.up3 hu (arr_ne3 (h.aB k hk).1 ha (by decide)), (h.aB k hk).2⟩, fun k hk => ?_, h.dB, h.dI, h.xB, h.xC, h.xBC, h.xIJ, h.nS, h.nB, h.nI⟩
  by_cases e : k = i
  · subst e
    rw [updF_same]
    exact ⟨ha.set j x, by rw [List.length_set]; exact (h.aI k hk).2⟩
  · rw [updF_other _ _ e]
    exact ⟨(h.aI k hk).1.up3 hu (h.dI k i hk hi e), (h.aI k hk).2⟩
/-- One more that was lengthened. -/
theorem Sh.pushC {v' x : Value} (h : Sh w wr sp N M m gB gI Rb Ri vB vI vC vJ uB uI uC uJ) (hg : wr.grownBy w2 vC.ownBlock) (hr : Row w2 w.heap.size 23 v' (uC ++ [x])) (hat : v'.ownBlock = vC.ownBlock ∨ v'.ownBlock = some wr.heap.size) :
    Sh w (w2.setCell ⟨sp, 2, none⟩ v') sp N M m gB gI Rb Ri vB vI v' vJ uB uI (uC ++ [x]) uJ := by
  have hu : Up (fun b => vC.ownBlock = some b) wr w2 := Up.of_grown hg (fun b hb => hb)
  have tB : ∀ {b : Nat} {cs : List Value} {t : TypeId}, Arr wr b t cs → t ≠ 23 → ¬ vC.ownBlock = some b := fun {b cs t} ha ht e => by
    obtain ⟨cur, hcur, _⟩ := h.rC.blk3 e
    exact arr_ne3 ha hcur ht rfl
  have kI := h.rI.kept hg (h.rI.apart h.rC (by decide))
  have kJ := h.rJ.kept hg (h.rJ.apart h.rC (by decide))
  have kB : Row w2 w.heap.size 23 vB uB := h.rB.up3 hu (fun b hb e => h.xBC b hb e)
  have ks := h.sh.up3 hu (tB h.sh (by decide))
  have hu2 : Up (fun b => b = sp) w2 (w2.setCell ⟨sp, 2, none⟩ v') := Up.of_grown (grown_cell w2 sp 2 v') (fun b hb => (Option.some.inj hb).symm)
  have far : ∀ {v : Value} {t' : TypeId} {us : List Value}, Row w2 w.heap.size t' v us → 56 ≠ t' → ∀ x, v.ownBlock = some x → ¬ x = sp := fun {v t' us} hr' ht x hx e => by
    obtain ⟨cur, hcur, _⟩ := hr'.blk3 hx
    exact arr_ne3 ks hcur ht e.symm
  have hkb : ∀ {b : Nat} {cs : List Value} {t : TypeId}, Arr w2 b t cs → t ≠ 56 → Arr (w2.setCell ⟨sp, 2, none⟩ v') b t cs := fun {b cs t} ha ht => ha.up3 hu2 (fun e => arr_ne3 ha ks ht e)
  have hx : ∀ b, vC.ownBlock ≠ some b → b < wr.heap.size → v'.ownBlock ≠ some b := fun b hb hlt e => by
    rcases hat with hat | hat
    · exact hb (hat ▸ e)
    · rw [hat] at e; injection e with e; omega
  exact ⟨(h.bel.grown hg h.bel.size (fun k hk => (h.rC.lt k hk).1)).setCell (p := ⟨sp, 2, none⟩) h.nS _, ks.set 2 v', kB.up3 hu2 (far kB (by decide)), kI.up3 hu2 (far kI (by decide)), hr.up3 hu2 (far hr (by decide)), kJ.up3 hu2 (far kJ (by decide)), h.lB, h.lI, h.eB, h.eI, fun k hk => ⟨hkb ((h.aB k hk).1.up3 hu (tB (h.aB k hk).1 (by decide))) (by decide), (h.aB k hk).2⟩, fun k hk => ⟨hkb ((h.aI k hk).1.up3 hu (h.xC k hk)) (by decide), (h.aI k hk).2⟩, h.dB, h.dI, h.xB, fun k hk => hx _ (h.xC k hk) (h.aI k hk).1.lt, fun b hb e => hx b (h.xBC b hb) (h.rB.lt b hb).2 e, h.xIJ, h.nS, h.nB, h.nI⟩
theorem Sh.pushJ {v' x : Value} (h : Sh w wr sp N M m gB gI Rb Ri vB vI vC vJ uB uI uC uJ) (hg : wr.grownBy w2 vJ.ownBlock) (hr : Row w2 w.heap.size 33 v' (uJ ++ [x])) (hat : v'.ownBlock = vJ.ownBlock ∨ v'.ownBlock = some wr.heap.size) :
    Sh w (w2.setCell ⟨sp, 3, none⟩ v') sp N M m gB gI Rb Ri vB vI vC v' uB uI uC (uJ ++ [x]) := by
  have hu : Up (fun b => vJ.ownBlock = some b) wr w2 := Up.of_grown hg (fun b hb => hb)
  have tB : ∀ {b : Nat} {cs : List Value} {t : TypeId}, Arr wr b t cs → t ≠ 33 → ¬ vJ.ownBlock = some b := fun {b cs t} ha ht e => by
    obtain ⟨cur, hcur, _⟩ := h.rJ.blk3 e
    exact arr_ne3 ha hcur ht rfl
  have kB := h.rB.kept hg (h.rB.apart h.rJ (by decide))
  have kC := h.rC.kept hg (h.rC.apart h.rJ (by decide))
  have kI : Row w2 w.heap.size 33 vI uI := h.rI.up3 hu (fun b hb e => h.xIJ b hb e)
  have ks := h.sh.up3 hu (tB h.sh (by decide))
  have hu2 : Up (fun b => b = sp) w2 (w2.setCell ⟨sp, 3, none⟩ v') := Up.of_grown (grown_cell w2 sp 3 v') (fun b hb => (Option.some.inj hb).symm)
  have far : ∀ {v : Value} {t' : TypeId} {us : List Value}, Row w2 w.heap.size t' v us → 56 ≠ t' → ∀ x, v.ownBlock = some x → ¬ x = sp := fun {v t' us} hr' ht x hx e => by
    obtain ⟨cur, hcur, _⟩ := hr'.blk3 hx
    exact arr_ne3 ks hcur ht e.symm
  have hkb : ∀ {b : Nat} {cs : List Value} {t : TypeId}, Arr w2 b t cs → t ≠ 56 → Arr (w2.setCell ⟨sp, 3, none⟩ v') b t cs := fun {b cs t} ha ht => ha.up3 hu2 (fun e => arr_ne3 ha ks ht e)
  have hx : ∀ b, vJ.ownBlock ≠ some b → b < wr.heap.size → v'.ownBlock ≠ some b := fun b hb hlt e => by
    rcases hat with hat | hat
    · exact hb (hat ▸ e)
    · rw [hat] at e; injection e with e; omega
  exact ⟨(h.bel.grown hg h.bel.size (fun k hk => (h.rJ.lt k hk).1)).setCell (p := ⟨sp, 3, none⟩) h.nS _, ks.set 3 v', kB.up3 hu2 (far kB (by decide)), kI.up3 hu2 (far kI (by decide)), kC.up3 hu2 (far kC (by decide)), hr.up3 hu2 (far hr (by decide)), h.lB, h.lI, h.eB, h.eI, fun k hk => ⟨hkb ((h.aB k hk).1.up3 hu (tB (h.aB k hk).1 (by decide))) (by decide), (h.aB k hk).2⟩, fun k hk => ⟨hkb ((h.aI k hk).1.up3 hu (tB (h.aI k hk).1 (by decide))) (by decide), (h.aI k hk).2⟩, h.dB, h.dI, h.xB, h.xC, h.xBC, fun b hb e => hx b (h.xIJ b hb) (h.rI.lt b hb).2 e, h.nS, h.nB, h.nI⟩
end
/-- What changes but blocks of A. -/
theorem Dka.stepA {A F : Nat → Prop} {wr w' : World} {B n : Nat} {P G : Nat → Nat} {D : Nat → AD} (h : Dka A wr wr B n P G D) (hu : Up F wr w') (hF : ∀ b, F b → A b) : Dka A w' w' B n P G D := by
  obtain ⟨gm, V, h1, h2, h3⟩ := h.all
  exact ⟨⟨gm, V, fun j hj => (h1 j hj).up hu (fun b hb hf => h2 j hj b hb (hF b hf)), h2, h3⟩, h.few, Up.refl _ _, fun b hA => Nat.lt_of_lt_of_le (h.lt b hA) hu.size⟩
/-- All of it. -/
structure Fz (w wr : World) (sp N M m : Nat) (gB gI : Nat → Nat) (Rb Ri : Nat → List Value) (vB vI vC vJ : Value) (uB uI uC uJ : List Value) (nB nI nC nJ : Nat) (A : Nat → Prop) (B p q : Nat) (G : Nat → Nat) (D E : AD) : Prop where
  sh : Sh w wr sp N M m gB gI Rb Ri vB vI vC vJ uB uI uC uJ
  x : Fx w wr m nB nI nC nJ Rb Ri uC uJ
  d : Dka A wr wr B 2 (two p q) G (two D E)
  aB : ∀ k, k < N → A (gB k)
section
variable {w wr w' w2 : World} {sp N M m nB nI nC nJ B p q : Nat} {gB gI : Nat → Nat} {Rb Ri : Nat → List Value} {vB vI vC vJ : Value} {uB uI uC uJ : List Value} {A : Nat → Prop} {G : Nat → Nat} {D E : AD}
theorem Fz.below (h : Fz w wr sp N M m gB gI Rb Ri vB vI vC vJ uB uI uC uJ nB nI nC nJ A B p q G D E) (hb : Below wr.heap.size wr w') : Fz w w' sp N M m gB gI Rb Ri vB vI vC vJ uB uI uC uJ nB nI nC nJ A B p q G D E :=
  ⟨h.sh.below hb, h.x.up (F := fun _ => False) (Up.of_below hb) (fun _ h => h.elim), h.d.anew hb (fun _ h => Or.inl h), h.aB⟩
theorem Fz.setB (h : Fz w wr sp N M m gB gI Rb Ri vB vI vC vJ uB uI uC uJ nB nI nC nJ A B p q G D E) {i j : Nat} (hi : i < N) (hB : nB ≤ i) (hJ : nJ = 0) (x : Value) : Fz w (wr.setCell ⟨gB i, j, none⟩ x) sp N M m gB gI (updF Rb i ((Rb i).set j x)) Ri vB vI vC vJ uB uI uC uJ nB nI nC nJ A B p q G D E := by
  have hu : Up (fun b => b = gB i) wr (wr.setCell ⟨gB i, j, none⟩ x) := Up.of_grown (grown_cell wr (gB i) j x) (fun b hb => (Option.some.inj hb).symm)
  have hx := h.x.up hu (fun b hb => ⟨_, _, _, hb ▸ (h.sh.aB i hi).1, by decide, Or.inl hJ⟩)
  exact ⟨h.sh.setB hi x, ⟨fun k hk => by rw [updF_other _ _ (show k ≠ i by omega)]; exact hx.fB k hk, hx.fI, hx.lC, hx.fC, hx.lJ, hx.fJ⟩, h.d.stepA hu (fun b hb => hb ▸ h.aB i hi), h.aB⟩
theorem Fz.setI (h : Fz w wr sp N M m gB gI Rb Ri vB vI vC vJ uB uI uC uJ nB nI nC nJ A B p q G D E) {i j : Nat} (hi : i < M) (hB : nI ≤ i) (hJ : nJ = 0) (x : Value) : Fz w (wr.setCell ⟨gI i, j, none⟩ x) sp N M m gB gI Rb (updF Ri i ((Ri i).set j x)) vB vI vC vJ uB uI uC uJ nB nI nC nJ A B p q G D E := by
  have hu : Up (fun b => b = gI i) wr (wr.setCell ⟨gI i, j, none⟩ x) := Up.of_grown (grown_cell wr (gI i) j x) (fun b hb => (Option.some.inj hb).symm)
  have hx := h.x.up hu (fun b hb => ⟨_, _, _, hb ▸ (h.sh.aI i hi).1, by decide, Or.inl hJ⟩)
  exact ⟨h.sh.setI hi x, ⟨hx.fB, fun k hk => by rw [updF_other _ _ (show k ≠ i by omega)]; exact hx.fI k hk, hx.lC, hx.fC, hx.lJ, fun k hk => by omega⟩, h.d.step hu (fun b hb => ⟨_, _, _, hb ▸ (h.sh.aI i hi).1, by decide, by decide⟩), h.aB⟩
theorem Fz.pushC {v' v : Value} {cs : List Value} (h : Fz w wr sp N M m gB gI Rb Ri vB vI vC vJ uB uI uC uJ nB nI nC 0 A B p q G D E) (hv : Row wr w.heap.size 5 v cs) (hl : cs.length = 582) (h5 : ∀ j, j < 512 → cs[j]? = some (.int .u8 (mkO nC j))) (h7 : ∀ j, j < 70 → cs[512 + j]? = some (.int .u8 (mkP nC j)))
    (hg : wr.grownBy w2 vC.ownBlock) (hr : Row w2 w.heap.size 23 v' (uC ++ [v])) (hat : v'.ownBlock = vC.ownBlock ∨ v'.ownBlock = some wr.heap.size) :
    (∃ a3 n3 c3, v' = .slice a3 n3 c3) ∧ (∃ z, w2.cell? ⟨sp, 2, none⟩ = some z) ∧ w2.frozen? ⟨sp, 2, none⟩ = false ∧ Fz w (w2.setCell ⟨sp, 2, none⟩ v') sp N M m gB gI Rb Ri vB vI v' vJ uB uI (uC ++ [v]) uJ nB nI (nC + 1) 0 A B p q G D E := by
  have hs := h.sh
  have hks : Arr w2 sp 56 [vB, vI, vC, vJ] := hs.sh.keep (hg.block sp hs.sh.lt (fun e => by
    obtain ⟨cur, hcur, _⟩ := hs.rC.blk3 e.symm
    exact arr_ne3 hs.sh hcur (by decide) rfl))
  have u3 : Up (fun b => vC.ownBlock = some b) wr w2 := Up.of_grown hg (fun b hb => hb)
  have u4 : Up (fun b => b = sp) w2 (w2.setCell ⟨sp, 2, none⟩ v') := Up.of_grown (grown_cell w2 sp 2 v') (fun b hb => (Option.some.inj hb).symm)
  have t3 : ∀ b, vC.ownBlock = some b → ∃ cur, wr.heap[b]? = some (.cells cur 23) := fun b hb => by
    obtain ⟨cur, hcur, _⟩ := hs.rC.blk3 hb
    exact ⟨cur, hcur⟩
  have x3 := h.x.up u3 (fun b hb => by obtain ⟨cur, hc⟩ := t3 b hb; exact ⟨_, _, _, hc, by decide, Or.inl rfl⟩)
  have x4 := x3.up u4 (fun b hb => ⟨_, _, _, hb ▸ hks, by decide, Or.inl rfl⟩)
  have d3 := h.d.step u3 (fun b hb => by obtain ⟨cur, hc⟩ := t3 b hb; exact ⟨_, _, _, hc, by decide, by decide⟩)
  have d4 := d3.step u4 (fun b hb => ⟨_, _, _, hb ▸ hks, by decide, by decide⟩)
  have hv3 : Row w2 w.heap.size 5 v cs := hv.kept hg (hv.apart hs.rC (by decide))
  have hv4 : Row (w2.setCell ⟨sp, 2, none⟩ v') w.heap.size 5 v cs := hv3.up3 u4 (fun y hy e => by
    obtain ⟨cur, hcur, _⟩ := hv3.blk3 hy
    exact arr_ne3 hks hcur (by decide) e.symm)
  obtain ⟨a3, c3, e3⟩ := hr.shape
  refine ⟨⟨a3, _, c3, e3⟩, ⟨_, hks.cell_of rfl⟩, hks.frozen 2, hs.pushC hg hr hat, ⟨x4.fB, x4.fI, by rw [List.length_append, x4.lC]; rfl, fun k hk => ?_, x4.lJ, x4.fJ⟩, d4, h.aB⟩
  by_cases e : k = nC
  · subst e
    exact ⟨v, cs, by rw [List.getElem?_append_right (by rw [x4.lC]; exact Nat.le_refl _), x4.lC, Nat.sub_self]; rfl, hv4, hl, h5, h7⟩
  · obtain ⟨v5, cs5, y1, y2⟩ := x4.fC k (by omega)
    exact ⟨v5, cs5, by rw [List.getElem?_append_left (by rw [x4.lC]; omega)]; exact y1, y2⟩
theorem Fz.pushJ {v' v : Value} {us : List Value} (h : Fz w wr sp N M m gB gI Rb Ri vB vI vC vJ uB uI uC uJ nB nI nC nJ A B p q G D E) (hv : Row wr w.heap.size 23 v us) (hl : us.length = m + 5) (h5 : ∀ j, j < m → us[j]? = (Ri nJ)[j]?) (h7 : ∀ j, j < 5 → ∃ y, us[m + j]? = some (.slice (some ⟨y, 0, none⟩) 3 3) ∧ Arr wr y 5 (tri nJ j 88))
    (hg : wr.grownBy w2 vJ.ownBlock) (hr : Row w2 w.heap.size 33 v' (uJ ++ [v])) (hat : v'.ownBlock = vJ.ownBlock ∨ v'.ownBlock = some wr.heap.size) :
    (∃ a3 n3 c3, v' = .slice a3 n3 c3) ∧ (∃ z, w2.cell? ⟨sp, 3, none⟩ = some z) ∧ w2.frozen? ⟨sp, 3, none⟩ = false ∧ Fz w (w2.setCell ⟨sp, 3, none⟩ v') sp N M m gB gI Rb Ri vB vI vC v' uB uI uC (uJ ++ [v]) nB nI nC (nJ + 1) A B p q G D E := by
  have hs := h.sh
  have hks : Arr w2 sp 56 [vB, vI, vC, vJ] := hs.sh.keep (hg.block sp hs.sh.lt (fun e => by
    obtain ⟨cur, hcur, _⟩ := hs.rJ.blk3 e.symm
    exact arr_ne3 hs.sh hcur (by decide) rfl))
  have u3 : Up (fun b => vJ.ownBlock = some b) wr w2 := Up.of_grown hg (fun b hb => hb)
  have u4 : Up (fun b => b = sp) w2 (w2.setCell ⟨sp, 3, none⟩ v') := Up.of_grown (grown_cell w2 sp 3 v') (fun b hb => (Option.some.inj hb).symm)
  have t3 : ∀ b, vJ.ownBlock = some b → ∃ cur, wr.heap[b]? = some (.cells cur 33) := fun b hb => by
    obtain ⟨cur, hcur, _⟩ := hs.rJ.blk3 hb
    exact ⟨cur, hcur⟩
  have x3 := h.x.up u3 (fun b hb => by obtain ⟨cur, hc⟩ := t3 b hb; exact ⟨_, _, _, hc, by decide, Or.inr (by decide)⟩)
  have x4 := x3.up u4 (fun b hb => ⟨_, _, _, hb ▸ hks, by decide, Or.inr (by decide)⟩)
  have d3 := h.d.step u3 (fun b hb => by obtain ⟨cur, hc⟩ := t3 b hb; exact ⟨_, _, _, hc, by decide, by decide⟩)
  have d4 := d3.step u4 (fun b hb => ⟨_, _, _, hb ▸ hks, by decide, by decide⟩)
  have hv3 : Row w2 w.heap.size 23 v us := hv.kept hg (hv.apart hs.rJ (by decide))
  have hv4 : Row (w2.setCell ⟨sp, 3, none⟩ v') w.heap.size 23 v us := hv3.up3 u4 (fun y hy e => by
    obtain ⟨cur, hcur, _⟩ := hv3.blk3 hy
    exact arr_ne3 hks hcur (by decide) e.symm)
  obtain ⟨a3, c3, e3⟩ := hr.shape
  refine ⟨⟨a3, _, c3, e3⟩, ⟨_, hks.cell_of rfl⟩, hks.frozen 3, hs.pushJ hg hr hat, ⟨x4.fB, x4.fI, x4.lC, x4.fC, by rw [List.length_append, x4.lJ]; rfl, fun k hk => ?_⟩, d4, h.aB⟩
  by_cases e : k = nJ
  · subst e
    refine ⟨v, us, by rw [List.getElem?_append_right (by rw [x4.lJ]; exact Nat.le_refl _), x4.lJ, Nat.sub_self]; rfl, hv4, hl, h5, fun j hj => ?_⟩
    obtain ⟨y, y1, y2⟩ := h7 j hj
    have y3 : Arr w2 y 5 (tri k j 88) := y2.up3 u3 (fun e => by
      obtain ⟨cur, hc⟩ := t3 y e
      exact arr_ne3 y2 hc (by decide) rfl)
    exact ⟨y, y1, y3.up3 u4 (arr_ne3 y3 hks (by decide))⟩
  · obtain ⟨v5, cs5, y1, y2⟩ := x4.fJ k (by omega)
    exact ⟨v5, cs5, by rw [List.getElem?_append_left (by rw [x4.lJ]; omega)]; exact y1, y2⟩
/-- A block of a disk. -/
theorem Fz.disk {b : Nat} {cs : List Value} (h : Fz w wr sp N M m gB gI Rb Ri vB vI vC vJ uB uI uC uJ nB nI nC nJ A B p q G D E) {B' : Nat} {D' E' : AD} (hc : Arr wr b 75 cs) (hg : wr.grownBy w' (some b)) (hb : w.heap.size ≤ b) (hd : Dka A w' w' B' 2 (two p q) G (two D' E')) : Fz w w' sp N M m gB gI Rb Ri vB vI vC vJ uB uI uC uJ nB nI nC nJ A B' p q G D' E' :=
  ⟨h.sh.read hg hc hb, h.x.up (F := fun x => x = b) (Up.of_grown hg (fun y hy => (Option.some.inj hy).symm)) (fun y hy => ⟨_, _, _, hy ▸ hc, by decide, Or.inr (by decide)⟩), hd, h.aB⟩
end
/-- A slice that is full, or a row of the call's own. -/
def Gr (X : Nat) (W : World) (e : TypeId) (v : Value) (xs : List Value) : Prop :=
  (∃ b, v = .slice (some ⟨b, 0, none⟩) xs.length xs.length ∧ ∀ j u, xs[j]? = some u → W.cell? ⟨b, j, none⟩ = some u) ∨ Row W X e v xs
section
variable {ops : Array Oper} {rest : List Oper} {o : Oper} {a : Act} {Q : Exit → Act → World → Prop} {w : World} {K : Act → World → Prop} {E : Prop}
set_option maxRecDepth 100000 in
theorem wpList_appG {t e : TypeId} {z : Value} {bytes : Nat} (hU : Try.prog.underlying t = some (.slice e)) (hI : (Try.prog.info? e).map (fun i => (i.zero, i.size, i.bytes)) = some (some z, 1, bytes)) (hzc : z.cells.size = 1) (hby : bytes ≤ 24) (hgd : o.guard = none) (x y : Operand) (ho : o.op = .call { callee := .builtin .append, args := #[x, y], argTypes := #[t, t] }) {X g : Nat} {v u : Value} {us : List Value} (hx : a.eval x = v) (hrow : Gr X w e v us) (hy : a.eval y = .slice (some ⟨g, 0, none⟩) 1 1)
    (hc : w.cell? ⟨g, 0, none⟩ = some u) (h1 : u.oneCell' = true) (hl : us.length ≤ 1000000) (hX : X ≤ w.heap.size)
    (hk : ∀ v' w', Row w' X e v' (us ++ [u]) → Below X w w' → wpList Try.prog ops Q rest (a.put o.dst v') w') : wpList Try.prog ops Q (o :: rest) a w := by
  have hbt : (us.length + 1) * bytes ≤ 140737488355328 := Nat.le_trans (Nat.mul_le_mul (show us.length + 1 ≤ 1000001 by omega) hby) (by decide)
  obtain ⟨i0, hi, hz0, hz1, hz2⟩ := info_parts hI
  have hcc : ∀ j z, [u][j]? = some z → w.cell? (Addr.add ⟨g, 0, none⟩ j) = some z := fun j z hu => by
    cases j with
    | zero =>
      injection hu with hu
      subst hu
      exact hc
    | succ j => simp at hu
  have h1c : ∀ z ∈ [u], z.oneCell' = true := fun z hz => by rw [List.mem_singleton.1 hz]; exact h1
  rcases hrow with ⟨b, rfl, hcs⟩ | hrow
  · refine wpList_append_grows w hgd x y t ho e i0 z 1 bytes hU hi hz0 hz1 hz2 hzc (by decide) (some ⟨b, 0, none⟩) us.length us.length us hx (fun h => by cases h) (by omega) (fun b' hb' j z hz => ?_) ⟨g, 0, none⟩ 1 1 [u] hy rfl hcc h1c (by omega) (by unfold maxLen; omega) hbt (fun v' w' r1 r2 => ?_)
    · injection hb' with hb'
      subst hb'
      rw [Addr.add_lit, Nat.zero_add]
      exact hcs j z hz
    · refine hk v' w' ?_ ((Below.refl X w).grown r2 hX (fun k hk => by cases hk))
      have r3 : Row w' w.heap.size e v' (us ++ [u]) := by
        unfold Row
        rw [List.length_append]
        exact r1
      exact r3.mono hX
  · obtain ⟨v', w', hr, h2, h3, h4, h5⟩ := run_append_share (P := Try.prog) w X t o.type e i0 z bytes hU hi hz0 hz1 hz2 hzc v us hrow ⟨g, 0, none⟩ 1 1 [u] rfl hcc h1c (by unfold maxLen; omega) hbt hX
    refine wpList_plain hgd fun K hK => ?_
    unfold Oper.wp execOp
    simp only [ho, resolve, invoke, builtin, Sem.run_bind, Sem.run_pure, Result.andThen_ok, List.map_toArray, List.map_cons, List.map_nil, hx, hy, hr]
    exact hK _ _ (hk v' w' h2 ((Below.refl X w).grown h3 hX (fun k hk => (hrow.lt k hk).1)))
theorem store8_run {W : World} {b o : Nat} {x : Int} {u : Value} (h : W.cell? ⟨b, o, none⟩ = some u) (hf : W.frozen? ⟨b, o, none⟩ = false) : (Instr.storeAt 5 (.pointer (some ⟨b, o, none⟩)) (.int .u8 x)).run Try.prog W = .ok () (W.setCell ⟨b, o, none⟩ (.int .u8 x)) := by
  have hu := Try.underlying5
  go_simp
theorem step_store8 (hgd : o.guard = none) (x y : Operand) (ho : o.op = .store 5 x y) {b of : Nat} {z : Int} {u : Value} (hx : a.eval x = .pointer (some ⟨b, of, none⟩)) (hy : a.eval y = .int .u8 z) (hc : w.cell? ⟨b, of, none⟩ = some u) (hf : w.frozen? ⟨b, of, none⟩ = false) (hk : K (a.put o.dst undef) (w.setCell ⟨b, of, none⟩ (.int .u8 z))) : if Region.wanted o (yielded ops a.tmps) = true then Oper.wp Try.prog o a w K Q else E := by
  rw [if_pos (by simp [Region.wanted, hgd])]
  unfold Oper.wp execOp
  simp only [ho, hx, hy, Sem.run_bind, store8_run hc hf, Result.andThen_ok, Sem.run_pure]
  exact hk
end
theorem info8O : (Try.prog.info? 5).map (fun i => (i.zero, i.size, i.bytes)) = some (some (.int .u8 0), 1, 1) := by kernel_rfl
end Go.Proofs.Ytfgjhlnaaopdeab
