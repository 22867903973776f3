/- DiskOwn: a shelf of lists, two disks beside it, and what a reading adds to it. -/
import Derived.Test.YtfgjhlnaaopdeabOwI
import Derived.Test.YtfgjhlnaaopdeabFam
namespace Go.Proofs.Ytfgjhlnaaopdeab
open Go.RowKit Go.Maps

theorem Row.blk3 {w : World} {B : Nat} {t : TypeId} {v : Value} {xs : List Value} (h : Row w B t v xs) {g : Nat} (hg : v.ownBlock = some g) : ∃ cur, w.heap[g]? = some (.cells cur t) ∧ B ≤ g ∧ g < w.heap.size := by
  rcases h.2 with ⟨rfl, _⟩ | ⟨g', cap, cur, rfl, hb, hgg, _⟩
  · simp [Value.ownBlock] at hg
  · simp only [Value.ownBlock, Option.some.injEq] at hg
    subst hg
    exact ⟨cur, hgg, hb, (Array.getElem?_eq_some_iff.1 hgg).1⟩
theorem arr_ne3 {w : World} {g g' : Nat} {t t' : TypeId} {cs : List Value} {cs' : Array Value} {m : Nat × Nat} (h : Arr w g t cs) (hc : w.heap[g']? = some (.cells cs' t' m)) (ht : t ≠ t') : g ≠ g' := fun e => by
  subst e
  unfold Arr at h
  rw [hc] at h
  simp only [Option.some.injEq, Obj.cells.injEq] at h
  exact ht h.2.1.symm
/-- A world in which of the blocks of w but those of F none was changed. -/
theorem Arr.up3 {F : Nat → Prop} {w w' : World} {g : Nat} {t : TypeId} {cs : List Value} (h : Arr w g t cs) (hu : Up F w w') (hF : ¬ F g) : Arr w' g t cs := h.keep (hu.block g h.lt hF)
theorem Row.up3 {F : Nat → Prop} {w w' : World} {B : Nat} {t : TypeId} {v : Value} {xs : List Value} (h : Row w B t v xs) (hu : Up F w w') (hF : ∀ g, v.ownBlock = some g → ¬ F g) : Row w' B t v xs := owns_up h hu hF
/-- The shelf: its rows of bytes, its images, what came of them lengthened. -/
structure Sh (w wr : World) (sp N M m : Nat) (gB gI : Nat → Nat) (Rb Ri : Nat → List Value) (vB vI vC vJ : Value) (uB uI uC uJ : List Value) : Prop where
  bel : Below w.heap.size w wr
  sh : Arr wr sp 56 [vB, vI, vC, vJ]
  rB : Row wr w.heap.size 23 vB uB
  rI : Row wr w.heap.size 33 vI uI
  rC : Row wr w.heap.size 23 vC uC
  rJ : Row wr w.heap.size 33 vJ uJ
  lB : uB.length = N
  lI : uI.length = M
  eB : ∀ k, k < N → uB[k]? = some (.slice (some ⟨gB k, 0, none⟩) 512 512)
  eI : ∀ k, k < M → uI[k]? = some (.slice (some ⟨gI k, 0, none⟩) m m)
  aB : ∀ k, k < N → Arr wr (gB k) 77 (Rb k) ∧ (Rb k).length = 512
  aI : ∀ k, k < M → Arr wr (gI k) 23 (Ri k) ∧ (Ri k).length = m
  dB : ∀ j k, j < N → k < N → j ≠ k → gB j ≠ gB k
  dI : ∀ j k, j < M → k < M → j ≠ k → gI j ≠ gI k
  xB : ∀ k, k < M → vB.ownBlock ≠ some (gI k)
  xC : ∀ k, k < M → vC.ownBlock ≠ some (gI k)
  xBC : ∀ b, vB.ownBlock = some b → vC.ownBlock ≠ some b
  xIJ : ∀ b, vI.ownBlock = some b → vJ.ownBlock ≠ some b
  nS : w.heap.size ≤ sp
  nB : ∀ k, k < N → w.heap.size ≤ gB k
  nI : ∀ k, k < M → w.heap.size ≤ gI k
section
variable {w wr w' : World} {sp N M m : Nat} {gB gI : Nat → Nat} {Rb Ri : Nat → List Value} {vB vI vC vJ : Value} {uB uI uC uJ : List Value}
/-- What touches nothing of it. -/
theorem Sh.up {F : Nat → Prop} (h : Sh w wr sp N M m gB gI Rb Ri vB vI vC vJ uB uI uC uJ) (hu : Up F wr w') (hw : ∀ b, F b → w.heap.size ≤ b) (hs : ¬ F sp) (hB : ∀ b, vB.ownBlock = some b → ¬ F b) (hI : ∀ b, vI.ownBlock = some b → ¬ F b) (hC : ∀ b, vC.ownBlock = some b → ¬ F b) (hJ : ∀ b, vJ.ownBlock = some b → ¬ F b) (hgB : ∀ k, k < N → ¬ F (gB k)) (hgI : ∀ k, k < M → ¬ F (gI k)) :
    Sh w w' sp N M m gB gI Rb Ri vB vI vC vJ uB uI uC uJ :=
  ⟨h.bel.trans (hu.below h.bel.size hw), h.sh.up3 hu hs, h.rB.up3 hu hB, h.rI.up3 hu hI, h.rC.up3 hu hC, h.rJ.up3 hu hJ, h.lB, h.lI, h.eB, h.eI, fun k hk => ⟨(h.aB k hk).1.up3 hu (hgB k hk), (h.aB k hk).2⟩, fun k hk => ⟨(h.aI k hk).1.up3 hu (hgI k hk), (h.aI k hk).2⟩, h.dB, h.dI, h.xB, h.xC, h.xBC, h.xIJ, h.nS, h.nB, h.nI⟩
theorem Sh.below (h : Sh w wr sp N M m gB gI Rb Ri vB vI vC vJ uB uI uC uJ) (hb : Below wr.heap.size wr w') : Sh w w' sp N M m gB gI Rb Ri vB vI vC vJ uB uI uC uJ :=
  h.up (F := fun _ => False) (Up.of_below hb) (fun _ h => h.elim) (fun h => h) (fun _ _ h => h) (fun _ _ h => h) (fun _ _ h => h) (fun _ _ h => h) (fun _ _ h => h) (fun _ _ h => h)
/-- One block of a type that it has not. -/
theorem Sh.typed {b : Nat} {cs : Array Value} {t : TypeId} {mm : Nat × Nat} (h : Sh w wr sp N M m gB gI Rb Ri vB vI vC vJ uB uI uC uJ) (hc : wr.heap[b]? = some (.cells cs t mm)) (hu : Up (fun x => x = b) wr w') (hb : w.heap.size ≤ b) (h1 : 56 ≠ t) (h2 : 23 ≠ t) (h3 : 33 ≠ t) (h4 : 77 ≠ t) :
    Sh w w' sp N M m gB gI Rb Ri vB vI vC vJ uB uI uC uJ := by
  have far : ∀ {v : Value} {t' : TypeId} {us : List Value}, Row wr w.heap.size t' v us → t' ≠ t → ∀ x, v.ownBlock = some x → ¬ x = b := fun {v t' us} hr ht x hx e => by
    obtain ⟨cur, hcur, _⟩ := hr.blk3 hx
    subst e
    rw [hc] at hcur
    simp only [Option.some.injEq, Obj.cells.injEq] at hcur
    exact ht hcur.2.1.symm
  exact h.up hu (fun x hx => by rw [hx]; exact hb) (fun e => arr_ne3 h.sh hc h1 e) (far h.rB h2) (far h.rI h3) (far h.rC h2) (far h.rJ h3) (fun k hk e => arr_ne3 (h.aB k hk).1 hc h4 e) (fun k hk e => arr_ne3 (h.aI k hk).1 hc h2 e)
/-- One more row of bytes. -/
theorem Sh.pushB {w2 : World} {g : Nat} {R : List Value} {v' : Value} (h : Sh w wr sp N M m gB gI Rb Ri vB vI vC vJ uB uI uC uJ) (hA : Arr wr g 77 R) (hR : R.length = 512) (hn : w.heap.size ≤ g) (hd : ∀ k, k < N → gB k ≠ g)
    (hg : wr.grownBy w2 vB.ownBlock) (hr : Row w2 w.heap.size 23 v' (uB ++ [.slice (some ⟨g, 0, none⟩) 512 512])) (hat : v'.ownBlock = vB.ownBlock ∨ v'.ownBlock = some wr.heap.size) :
    Sh w (w2.setCell ⟨sp, 0, none⟩ v') sp (N + 1) M m (updF gB N g) gI (updF Rb N R) Ri v' vI vC vJ (uB ++ [.slice (some ⟨g, 0, none⟩) 512 512]) uI uC uJ := by
  have hu : Up (fun b => vB.ownBlock = some b) wr w2 := Up.of_grown hg (fun b hb => hb)
  have tB : ∀ {b : Nat} {cs : List Value} {t : TypeId}, Arr wr b t cs → t ≠ 23 → ¬ vB.ownBlock = some b := fun {b cs t} ha ht e => by
    obtain ⟨cur, hcur, _⟩ := h.rB.blk3 e
    exact arr_ne3 ha hcur ht rfl
  have kI := h.rI.kept hg (h.rI.apart h.rB (by decide))
  have kJ := h.rJ.kept hg (h.rJ.apart h.rB (by decide))
  have kC : Row w2 w.heap.size 23 vC uC := h.rC.up3 hu (fun b hb e => h.xBC b e hb)
  have ks := h.sh.up3 hu (tB h.sh (by decide))
  have hu2 : Up (fun b => b = sp) w2 (w2.setCell ⟨sp, 0, none⟩ v') := Up.of_grown (grown_cell w2 sp 0 v') (fun b hb => (Option.some.inj hb).symm)
  have far : ∀ {v : Value} {t' : TypeId} {us : List Value}, Row w2 w.heap.size t' v us → 56 ≠ t' → ∀ x, v.ownBlock = some x → ¬ x = sp := fun {v t' us} hr' ht x hx e => by
    obtain ⟨cur, hcur, _⟩ := hr'.blk3 hx
    exact arr_ne3 ks hcur ht e.symm
  have hkb : ∀ {b : Nat} {cs : List Value} {t : TypeId}, Arr w2 b t cs → t ≠ 56 → Arr (w2.setCell ⟨sp, 0, none⟩ v') b t cs := fun {b cs t} ha ht => ha.up3 hu2 (fun e => arr_ne3 ha ks ht e)
  have hx : ∀ b, vB.ownBlock ≠ some b → b < wr.heap.size → v'.ownBlock ≠ some b := fun b hb hlt e => by
    rcases hat with hat | hat
    · exact hb (hat ▸ e)
    · rw [hat] at e; injection e with e; omega
  refine ⟨(h.bel.grown hg h.bel.size (fun k hk => (h.rB.lt k hk).1)).setCell (p := ⟨sp, 0, none⟩) h.nS _, ks.set 0 v', hr.up3 hu2 (far hr (by decide)), kI.up3 hu2 (far kI (by decide)), kC.up3 hu2 (far kC (by decide)), kJ.up3 hu2 (far kJ (by decide)), by rw [List.length_append, h.lB]; rfl, h.lI, fun k hk => ?_, h.eI, fun k hk => ?_, fun k hk => ⟨hkb ((h.aI k hk).1.up3 hu (h.xB k hk)) (by decide), (h.aI k hk).2⟩, fun j k hj hk hne => ?_, h.dI,
    fun k hk => hx _ (h.xB k hk) (h.aI k hk).1.lt, h.xC, fun b hb e => ?_, h.xIJ, h.nS, fun k hk => ?_, h.nI⟩
  · by_cases e : k = N
    · subst e
      rw [updF_same, List.getElem?_append_right (by rw [h.lB]; exact Nat.le_refl _), h.lB, Nat.sub_self]
      rfl
    · rw [updF_other _ _ e, List.getElem?_append_left (by rw [h.lB]; omega)]
      exact h.eB k (by omega)
  · by_cases e : k = N
    · subst e
      rw [updF_same, updF_same]
      exact ⟨hkb (hA.up3 hu (tB hA (by decide))) (by decide), hR⟩
    · rw [updF_other _ _ e, updF_other _ _ e]
      exact ⟨hkb ((h.aB k (by omega)).1.up3 hu (tB (h.aB k (by omega)).1 (by decide))) (by decide), (h.aB k (by omega)).2⟩
  · by_cases e : j = N
    · subst e
      rw [updF_same, updF_other _ _ (show k ≠ j by omega)]
      exact fun e => hd k (by omega) e.symm
    · by_cases e2 : k = N
      · subst e2
        rw [updF_same, updF_other _ _ e]
        exact hd j (by omega)
      · rw [updF_other _ _ e, updF_other _ _ e2]
        exact h.dB j k (by omega) (by omega) hne
  · exact hx b (fun e2 => h.xBC b e2 e) (h.rC.lt b e).2 hb
  · by_cases e : k = N
    · subst e; rw [updF_same]; exact hn
    · rw [updF_other _ _ e]; exact h.nB k (by omega)
/-- One more image. -/
theorem Sh.pushI {w2 : World} {g : Nat} {R : List Value} {v' : Value} (h : Sh w wr sp N M m gB gI Rb Ri vB vI vC vJ uB uI uC uJ) (hA : Arr wr g 23 R) (hR : R.length = m) (hn : w.heap.size ≤ g) (hd : ∀ k, k < M → gI k ≠ g) (hvB : vB.ownBlock ≠ some g) (hvC : vC.ownBlock ≠ some g)
    (hg : wr.grownBy w2 vI.ownBlock) (hr : Row w2 w.heap.size 33 v' (uI ++ [.slice (some ⟨g, 0, none⟩) m m])) (hat : v'.ownBlock = vI.ownBlock ∨ v'.ownBlock = some wr.heap.size) :
    Sh w (w2.setCell ⟨sp, 1, none⟩ v') sp N (M + 1) m gB (updF gI M g) Rb (updF Ri M R) vB v' vC vJ uB (uI ++ [.slice (some ⟨g, 0, none⟩) m m]) uC uJ := by
  have hu : Up (fun b => vI.ownBlock = some b) wr w2 := Up.of_grown hg (fun b hb => hb)
  have tB : ∀ {b : Nat} {cs : List Value} {t : TypeId}, Arr wr b t cs → t ≠ 33 → ¬ vI.ownBlock = some b := fun {b cs t} ha ht e => by
    obtain ⟨cur, hcur, _⟩ := h.rI.blk3 e
    exact arr_ne3 ha hcur ht rfl
  have kB := h.rB.kept hg (h.rB.apart h.rI (by decide))
  have kC := h.rC.kept hg (h.rC.apart h.rI (by decide))
  have kJ : Row w2 w.heap.size 33 vJ uJ := h.rJ.up3 hu (fun b hb e => h.xIJ b e hb)
  have ks := h.sh.up3 hu (tB h.sh (by decide))
  have hu2 : Up (fun b => b = sp) w2 (w2.setCell ⟨sp, 1, none⟩ v') := Up.of_grown (grown_cell w2 sp 1 v') (fun b hb => (Option.some.inj hb).symm)
  have far : ∀ {v : Value} {t' : TypeId} {us : List Value}, Row w2 w.heap.size t' v us → 56 ≠ t' → ∀ x, v.ownBlock = some x → ¬ x = sp := fun {v t' us} hr' ht x hx e => by
    obtain ⟨cur, hcur, _⟩ := hr'.blk3 hx
    exact arr_ne3 ks hcur ht e.symm
  have hkb : ∀ {b : Nat} {cs : List Value} {t : TypeId}, Arr w2 b t cs → t ≠ 56 → Arr (w2.setCell ⟨sp, 1, none⟩ v') b t cs := fun {b cs t} ha ht => ha.up3 hu2 (fun e => arr_ne3 ha ks ht e)
  have hx : ∀ b, vI.ownBlock ≠ some b → b < wr.heap.size → v'.ownBlock ≠ some b := fun b hb hlt e => by
    rcases hat with hat | hat
    · exact hb (hat ▸ e)
    · rw [hat] at e; injection e with e; omega
  refine ⟨(h.bel.grown hg h.bel.size (fun k hk => (h.rI.lt k hk).1)).setCell (p := ⟨sp, 1, none⟩) h.nS _, ks.set 1 v', kB.up3 hu2 (far kB (by decide)), hr.up3 hu2 (far hr (by decide)), kC.up3 hu2 (far kC (by decide)), kJ.up3 hu2 (far kJ (by decide)), h.lB, by rw [List.length_append, h.lI]; rfl, h.eB, fun k hk => ?_, fun k hk => ⟨hkb ((h.aB k hk).1.up3 hu (tB (h.aB k hk).1 (by decide))) (by decide), (h.aB k hk).2⟩, fun k hk => ?_, h.dB, fun j k hj hk hne => ?_,
    fun k hk => ?_, fun k hk => ?_, h.xBC, fun b hb e => ?_, h.nS, h.nB, fun k hk => ?_⟩
  · by_cases e : k = M
    · subst e
      rw [updF_same, List.getElem?_append_right (by rw [h.lI]; exact Nat.le_refl _), h.lI, Nat.sub_self]
      rfl
    · rw [updF_other _ _ e, List.getElem?_append_left (by rw [h.lI]; omega)]
      exact h.eI k (by omega)
  · by_cases e : k = M
    · subst e
      rw [updF_same, updF_same]
      exact ⟨hkb (hA.up3 hu (tB hA (by decide))) (by decide), hR⟩
    · rw [updF_other _ _ e, updF_other _ _ e]
      exact ⟨hkb ((h.aI k (by omega)).1.up3 hu (tB (h.aI k (by omega)).1 (by decide))) (by decide), (h.aI k (by omega)).2⟩
  · by_cases e : j = M
    · subst e
      rw [updF_same, updF_other _ _ (show k ≠ j by omega)]
      exact fun e => hd k (by omega) e.symm
    · by_cases e2 : k = M
      · subst e2
        rw [updF_same, updF_other _ _ e]
        exact hd j (by omega)
      · rw [updF_other _ _ e, updF_other _ _ e2]
        exact h.dI j k (by omega) (by omega) hne
  · by_cases e : k = M
    · subst e; rw [updF_same]; exact hvB
    · rw [updF_other _ _ e]; exact h.xB k (by omega)
  · by_cases e : k = M
    · subst e; rw [updF_same]; exact hvC
    · rw [updF_other _ _ e]; exact h.xC k (by omega)
  · exact hx b (fun e2 => h.xIJ b e2 e) (h.rJ.lt b e).2 hb
  · by_cases e : k = M
    · subst e; rw [updF_same]; exact hn
    · rw [updF_other _ _ e]; exact h.nI k (by omega)
end

/-- Read: one block alone is changed, and what is told lies in a new one. -/
theorem dka_readN {A : Nat → Prop} {w wr : World} {B n k i p : Nat} {P G : Nat → Nat} {D : Nat → AD} (h : Dka A w wr B n P G D) (hk : k < n) (hp : P k = p) (hi : i < (D k).la.length) (hB : B ≤ 1000000000) :
    Calls Try.prog 20 #[.pointer (some ⟨p, 0, none⟩), .int .i64 (i : Int)] wr fun e w' => ∃ g, e = .returned (.tuple #[.slice (some ⟨g, 0, none⟩) 512 512, .int .i64 0]) ∧
      wr.heap.size ≤ g ∧ Arr w' g 77 (u8V ((D k).now i)) ∧ IsSec ((D k).now i) ∧ wr.grownBy w' (some p) ∧ (∃ cs, Arr wr p 75 cs) ∧ ¬ A p ∧
      ∀ A' : Nat → Prop, (∀ b, A' b → A b ∨ (wr.heap.size ≤ b ∧ b < w'.heap.size)) → Dka A' w' w' (B + 1) n P G (updF D k ((D k).reads 1)) := by
  subst hp
  obtain ⟨gm, V, h1, h2, h3⟩ := h.all
  have hf := h.few k hk
  refine (read_calls (h1 k hk) hi hf.rd.1 (by have := hf.rd; omega)).mono ?_
  rintro e w' ⟨g, rfl, hg, hA, hd, hgr⟩
  have hd' : Dk w' (P k) (G k) (gm k) (V k) ((D k).reads 1) := hd
  have hu : Up (Ft (P k) (G k) (gm k) (V k)) wr w' := Up.of_grown hgr (fun g hg => Or.inl (Option.some.inj hg).symm)
  obtain ⟨hD, hK⟩ := Dka.upd (A := A) hk h1 h2 h3 (fun j hj => (h.few j hj).mono (show B ≤ B + 1 by omega)) h.kp h.lt hd' hu (fun b hb => Or.inl hb) (hf.reads 1)
  have hlt : ∀ j, j < n → ∀ b, Ft (P j) (G j) (gm j) (V j) b → b < wr.heap.size := fun j hj b hb => (h1 j hj).lt hb
  refine ⟨g, rfl, hg, hA, (h1 k hk).ok.now hi, hgr, ⟨_, (h1 k hk).blk⟩, h2 k hk _ (Or.inl rfl), fun A' hA' => ⟨⟨gm, V, fun j hj => ?_, fun j hj b hb hPl => ?_, h3⟩, hD.few, Up.refl _ _, fun b hPl => ?_⟩⟩
  · by_cases e : j = k
    · subst e; simp only [updF_same]; exact hd'
    · simp only [updF_other _ _ e]
      exact (h1 j hj).up hu (fun b hb => h3 j k hj hk e b hb)
  · rcases hA' b hPl with hPl | hPl
    · exact h2 j hj b hb hPl
    · have := hlt j hj b hb; omega
  · rcases hA' b hPl with hPl | hPl
    · exact Nat.lt_of_lt_of_le (h.lt b hPl) hu.size
    · exact hPl.2
/-- The base anew, and fewer or new blocks. -/
theorem Dka.anew {A A' : Nat → Prop} {w wr w' : World} {B n : Nat} {P G : Nat → Nat} {D : Nat → AD} (h : Dka A w wr B n P G D) (hb : Below wr.heap.size wr w') (hA' : ∀ b, A' b → A b ∨ (wr.heap.size ≤ b ∧ b < w'.heap.size)) : Dka A' w' w' B n P G D := by
  obtain ⟨gm, V, h1, h2, h3⟩ := h.all
  refine ⟨⟨gm, V, fun j hj => (h1 j hj).below hb, fun j hj b hb' hPl => ?_, h3⟩, h.few, Up.refl _ _, fun b hPl => ?_⟩
  · rcases hA' b hPl with hPl | hPl
    · exact h2 j hj b hb' hPl
    · have := (h1 j hj).lt hb'; omega
  · rcases hA' b hPl with hPl | hPl
    · exact Nat.lt_of_lt_of_le (h.lt b hPl) hb.size
    · exact hPl.2
/-- The shelf and two disks: the shelf's rows are none of theirs. -/
def So (w wr : World) (B sp N M m p q : Nat) (D E : AD) : Prop :=
  ∃ (gB gI : Nat → Nat) (Rb Ri : Nat → List Value) (vB vI : Value) (uB uI : List Value) (A : Nat → Prop) (G : Nat → Nat),
    Sh w wr sp N M m gB gI Rb Ri vB vI (.slice none 0 0) (.slice none 0 0) uB uI [] [] ∧ (∀ b, b < w.heap.size → A b) ∧ (∀ k, k < N → A (gB k)) ∧ Dka A wr wr B 2 (two p q) G (two D E)
/-- Read, and what was there stays there. -/
theorem Sh.read {w wr w' : World} {sp N M m p : Nat} {gB gI : Nat → Nat} {Rb Ri : Nat → List Value} {vB vI vC vJ : Value} {uB uI uC uJ cs : List Value} (h : Sh w wr sp N M m gB gI Rb Ri vB vI vC vJ uB uI uC uJ) (hg : wr.grownBy w' (some p)) (hp : Arr wr p 75 cs) (hw : w.heap.size ≤ p) :
    Sh w w' sp N M m gB gI Rb Ri vB vI vC vJ uB uI uC uJ :=
  h.typed (b := p) (cs := cs.toArray) (mm := (0, 0)) hp (Up.of_grown hg (fun b hb => (Option.some.inj hb).symm)) hw (by decide) (by decide) (by decide) (by decide)
end Go.Proofs.Ytfgjhlnaaopdeab
