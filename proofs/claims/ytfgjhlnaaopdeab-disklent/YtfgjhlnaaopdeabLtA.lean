/- DiskLent: rows with room behind them, a list of them, numbers, and a disk beside them. -/
import Derived.Test.YtfgjhlnaaopdeabOtI
import Derived.Test.YtfgjhlnaaopdeabFam
import Derived.Test.YtfgjhlnaaopdeabApp
import Derived.Test.YtfgjhlnaaopdeabDkV
namespace Go.Proofs.Ytfgjhlnaaopdeab
open Go.RowKit Go.Maps

def loadE (xss : List (List Int)) : AD := ⟨xss, fun _ => [], 0, 0, 0⟩
theorem loadE_few (xss : List (List Int)) : Few 0 (loadE xss) := ⟨⟨Int.le_refl _, Int.le_refl _⟩, ⟨Int.le_refl _, Int.le_refl _⟩, ⟨Int.le_refl _, Int.le_refl _⟩, fun _ => Nat.le_refl _⟩
theorem loadE_calls {A : Nat → Prop} {w wr : World} {v : Value} {xss : List (List Int)} (hA : ∀ b, A b → b < w.heap.size) (hk : Up (fun b => ¬ A b) w wr) (h : IsBB wr v xss) (hs : ∀ s ∈ xss, IsSec s) (h2 : 2 ≤ xss.length) (h6 : xss.length ≤ 65536) :
    Calls Try.prog 12 #[v] wr fun e w' => ∃ p, e = .returned (.tuple #[.pointer (some ⟨p, 0, none⟩), .int .i64 0]) ∧ (∃ G, Dka A w w' 0 1 (fun _ => p) G (fun _ => loadE xss)) ∧ Below wr.heap.size wr w' := by
  obtain ⟨a, cap, rfl, hl, hm, hc⟩ := h
  obtain ⟨b, off, rfl, hcell⟩ := hc (by omega)
  refine (load_walk rfl h2 h6 hl hm hcell).mono ?_
  rintro e w' ⟨hb, ⟨_, j, hj, hne⟩ | ⟨p, gl, gm, V, rfl, _, hd, h1, h3, h4, hV⟩⟩
  · rw [getD_eq hj] at hne
    exact absurd (hs _ (List.getElem_mem hj)).1 hne
  · refine ⟨p, rfl, ⟨fun _ => gl, ⟨⟨fun _ => gm, fun _ => V, fun _ _ => hd, fun j hj b hb' hAb => ?_, fun i j hi hj hne => by omega⟩, fun _ _ => loadE_few xss, hk.then_below hb, fun b hAb => Nat.lt_of_lt_of_le (hA b hAb) (Nat.le_trans hk.size hb.size)⟩⟩, hb⟩
    have hlt := Nat.lt_of_lt_of_le (hA b hAb) hk.size
    rcases hb' with rfl | rfl | rfl | ⟨i, hi⟩
    · omega
    · omega
    · omega
    · have hi2 : (V i).ownBlock = some b := hi
      rw [hV i] at hi2; cases hi2
theorem arr_km {w w' : World} {g : Nat} {t : TypeId} {cs : List Value} (h : Arr w g t cs) (hk : Km w w') (h1 : t ≠ 77) (h2 : t ≠ 75) : Arr w' g t cs := by
  obtain ⟨F, hu, ht⟩ := hk
  exact h.up hu (fun hF => (ht _ hF _ _ _ h).elim h1 h2)
theorem Row.blk2 {w : World} {B : Nat} {t : TypeId} {v : Value} {xs : List Value} (h : Row w B t v xs) {g : Nat} (hg : v.ownBlock = some g) : ∃ cur, w.heap[g]? = some (.cells cur t) ∧ B ≤ g := by
  rcases h.2 with ⟨rfl, _⟩ | ⟨g', cap, cur, rfl, hb, hgg, _⟩
  · simp [Value.ownBlock] at hg
  · simp only [Value.ownBlock, Option.some.injEq] at hg
    subst hg
    exact ⟨cur, hgg, hb⟩
theorem Row.km {w w' : World} {B : Nat} {t : TypeId} {v : Value} {xs : List Value} (h : Row w B t v xs) (hk : Km w w') (h1 : t ≠ 77) (h2 : t ≠ 75) : Row w' B t v xs := by
  obtain ⟨F, hu, ht⟩ := hk
  refine owns_up h hu (fun g hg hF => ?_)
  obtain ⟨cur, hc, _⟩ := h.blk2 hg
  exact (ht _ hF _ _ _ hc).elim h1 h2
theorem Row.below {w w' : World} {B : Nat} {t : TypeId} {v : Value} {xs : List Value} (h : Row w B t v xs) (hb : Below w.heap.size w w') : Row w' B t v xs := owns_below h hb
theorem own8_row {w : World} {B : Nat} {v : Value} {xs : List Int} (h : Own8 w B v xs) : Row w B 5 v (xs.map (Value.int .u8)) := by
  have := h.1
  unfold Row
  rw [List.length_map]
  exact this
/-- A row's first part, with the room behind it. -/
theorem Row.part {w : World} {B g n c m : Nat} {t : TypeId} {xs : List Value} (h : Row w B t (.slice (some ⟨g, 0, none⟩) n c) xs) (hm : m ≤ xs.length) : Row w B t (.slice (some ⟨g, 0, none⟩) m c) (xs.take m) := by
  have hl : (xs.take m).length = m := by simp; omega
  rcases h.2 with ⟨hv, _⟩ | ⟨g', cap, cur, hv, hb, hg, hle, hmx, hs, ht⟩
  · cases hv
  · injection hv with e1 e2 e3
    injection e1 with e1
    injection e1 with e1
    subst e1 e3
    refine ⟨by simp, .inr ⟨g, c, cur, by rw [hl], hb, hg, by rw [hl]; omega, hmx, hs, ?_⟩⟩
    rw [hl, ← ht, List.take_take]
    congr 1
    omega
theorem Row.cap {w : World} {B g n c : Nat} {t : TypeId} {xs : List Value} (h : Row w B t (.slice (some ⟨g, 0, none⟩) n c) xs) : n = xs.length ∧ n ≤ c ∧ c ≤ 9223372036854775807 ∧ B ≤ g ∧ g < w.heap.size := by
  rcases h.2 with ⟨hv, _⟩ | ⟨g', cap, cur, hv, hb, hg, hle, hmx, hs, ht⟩
  · cases hv
  · injection hv with e1 e2 e3
    injection e1 with e1
    injection e1 with e1
    subst e1 e3
    exact ⟨e2, by omega, by simpa [maxLen] using hmx, hb, (Array.getElem?_eq_some_iff.1 hg).1⟩
/-- The rows of an image, each in a block of its own with room behind it, and the list of them. -/
structure Lt (w wr : World) (i : Nat) (g cp : Nat → Nat) (R : Nat → List Value) (vim : Value) (us : List Value) : Prop where
  rows : ∀ k, k < i → Row wr w.heap.size 5 (.slice (some ⟨g k, 0, none⟩) 515 (cp k)) (R k)
  apart : ∀ j k, j < i → k < i → j ≠ k → g j ≠ g k
  im : Row wr w.heap.size 23 vim us
  each : ∀ k, k < i → us[k]? = some (.slice (some ⟨g k, 0, none⟩) 512 (cp k))
theorem Lt.nil (w wr : World) (g cp : Nat → Nat) (R : Nat → List Value) : Lt w wr 0 g cp R (.slice none 0 0) [] := ⟨fun k hk => by omega, fun j k hj => by omega, Row.nil _ _ _, fun k hk => by omega⟩
theorem Lt.below {w wr w' : World} {i : Nat} {g cp : Nat → Nat} {R : Nat → List Value} {vim : Value} {us : List Value} (h : Lt w wr i g cp R vim us) (hb : Below wr.heap.size wr w') : Lt w w' i g cp R vim us := ⟨fun k hk => (h.rows k hk).below hb, h.apart, h.im.below hb, h.each⟩
theorem Lt.km {w wr w' : World} {i : Nat} {g cp : Nat → Nat} {R : Nat → List Value} {vim : Value} {us : List Value} (h : Lt w wr i g cp R vim us) (hk : Km wr w') : Lt w w' i g cp R vim us := ⟨fun k hk2 => (h.rows k hk2).km hk (by decide) (by decide), h.apart, h.im.km hk (by decide) (by decide), h.each⟩
/-- The list is lengthened. -/
theorem Lt.app {w wr w' : World} {i : Nat} {g cp : Nat → Nat} {R : Nat → List Value} {vim vim' : Value} {us : List Value} {u : Value} (h : Lt w wr i g cp R vim us) (hg : wr.grownBy w' vim.ownBlock) (hi : Row w' w.heap.size 23 vim' (us ++ [u])) : Lt w w' i g cp R vim' (us ++ [u]) := by
  refine ⟨fun k hk => (h.rows k hk).kept hg ((h.rows k hk).apart h.im (by decide)), h.apart, hi, fun k hk => ?_⟩
  have h1 := h.each k hk
  obtain ⟨hlt, _⟩ := List.getElem?_eq_some_iff.1 h1
  rw [List.getElem?_append_left hlt]
  exact h1
/-- One more row. -/
theorem Lt.row {w wr w2 : World} {i g' c' : Nat} {g cp : Nat → Nat} {R : Nat → List Value} {vim : Value} {us R' : List Value} (h : Lt w wr i g cp R vim us) (hw : w.heap.size ≤ wr.heap.size) (hb : Below wr.heap.size wr w2) (hr : Row w2 wr.heap.size 5 (.slice (some ⟨g', 0, none⟩) 515 c') R') :
    (∀ k, k < i + 1 → Row w2 w.heap.size 5 (.slice (some ⟨upd g i g' k, 0, none⟩) 515 (upd cp i c' k)) (upd R i R' k)) ∧ ∀ j k, j < i + 1 → k < i + 1 → j ≠ k → upd g i g' j ≠ upd g i g' k := by
  have hg' := hr.cap.2.2.2.1
  refine ⟨fun k hk => ?_, fun j k hj hk hne => ?_⟩
  · by_cases e : k = i
    · subst e; rw [upd_same, upd_same, upd_same]; exact hr.mono hw
    · rw [upd_other _ _ e, upd_other _ _ e, upd_other _ _ e]; exact (h.rows k (by omega)).below hb
  · by_cases e : j = i
    · by_cases e2 : k = i
      · omega
      · subst e
        rw [upd_same, upd_other _ _ e2]
        have := (h.rows k (by omega)).cap.2.2.2.2
        omega
    · by_cases e2 : k = i
      · subst e2
        rw [upd_same, upd_other _ _ e]
        have := (h.rows j (by omega)).cap.2.2.2.2
        omega
      · rw [upd_other _ _ e, upd_other _ _ e2]
        exact h.apart j k (by omega) (by omega) hne
theorem Lt.snoc {w wr w2 w3 w4 : World} {i g' c' : Nat} {g cp : Nat → Nat} {R : Nat → List Value} {vim vim' : Value} {us R' : List Value} (h : Lt w wr i g cp R vim us) (hl : us.length = i) (hw : w.heap.size ≤ wr.heap.size) (hb : Below wr.heap.size wr w2) (hr : Row w2 wr.heap.size 5 (.slice (some ⟨g', 0, none⟩) 515 c') R')
    (hb3 : Below w2.heap.size w2 w3) (hg : w3.grownBy w4 vim.ownBlock) (hi : Row w4 w.heap.size 23 vim' (us ++ [.slice (some ⟨g', 0, none⟩) 512 c'])) : Lt w w4 (i + 1) (upd g i g') (upd cp i c') (upd R i R') vim' (us ++ [.slice (some ⟨g', 0, none⟩) 512 c']) := by
  obtain ⟨h1, h2⟩ := h.row hw hb hr
  have him : Row w3 w.heap.size 23 vim us := (h.im.below hb).below hb3
  refine ⟨fun k hk => ((h1 k hk).below hb3).kept hg (((h1 k hk).below hb3).apart him (by decide)), h2, hi, fun k hk => ?_⟩
  by_cases e : k = i
  · subst e
    rw [upd_same, upd_same, List.getElem?_append_right (by omega), hl, Nat.sub_self]
    rfl
  · rw [upd_other _ _ e, upd_other _ _ e, List.getElem?_append_left (by omega)]
    exact h.each k (by omega)
/-- A store into one of the rows. -/
theorem Lt.store {w wr : World} {i k j : Nat} {g cp : Nat → Nat} {R : Nat → List Value} {vim u : Value} {us : List Value} (h : Lt w wr i g cp R vim us) (hk : k < i) : Lt w (wr.setCell ⟨g k, j, none⟩ u) i g cp (upd R k ((R k).set j u)) vim us := by
  obtain ⟨h1, h2⟩ := (h.rows k hk).set j u
  refine ⟨fun k' hk' => ?_, h.apart, h.im.kept h2 ?_, h.each⟩
  · by_cases e : k' = k
    · subst e; rw [upd_same]; exact h1
    · rw [upd_other _ _ e]
      exact (h.rows k' hk').kept h2 (Or.inr (fun e2 => h.apart k' k hk' hk e (by simpa [Value.ownBlock] using e2)))
  · exact h.im.apart (h.rows k hk) (by decide)
/-- A store elsewhere. -/
theorem Lt.aside {w wr w' : World} {i b : Nat} {g cp : Nat → Nat} {R : Nat → List Value} {vim : Value} {us : List Value} {cs : Array Value} (h : Lt w wr i g cp R vim us) (hc : wr.heap[b]? = some (.cells cs 5)) (hf : ∀ k, k < i → g k ≠ b) (hg : wr.grownBy w' (some b)) : Lt w w' i g cp R vim us := by
  refine ⟨fun k hk => (h.rows k hk).kept hg (Or.inr (fun e => hf k hk (by simpa [Value.ownBlock] using e))), h.apart, h.im.kept hg ?_, h.each⟩
  cases hv : vim.ownBlock with
  | none => exact Or.inl rfl
  | some x =>
    refine Or.inr (fun e => ?_)
    obtain ⟨cur, hcur, _⟩ := h.im.blk2 hv
    injection e with e
    subst e
    rw [hc] at hcur
    simp only [Option.some.injEq, Obj.cells.injEq] at hcur
    exact absurd hcur.2.1 (by decide)
/-- What changes but one block that is of no disk. -/
theorem Dka.asideB {A : Nat → Prop} {w wr w' : World} {B n g : Nat} {P G : Nat → Nat} {D : Nat → AD} {t : TypeId} {cs : Array Value} {m : Nat × Nat} (h : Dka A w wr B n P G D) (hA : wr.heap[g]? = some (.cells cs t m)) (h1 : t ≠ 77) (h2 : t ≠ 75) (hg : ¬ A g) (hu : Up (fun b => b = g) wr w') : Dka A w w' B n P G D := by
  obtain ⟨gm, V, d1, d2, d3⟩ := h.all
  refine ⟨⟨gm, V, fun j hj => (d1 j hj).up hu (fun b hb e => ?_), d2, d3⟩, h.few, h.kp.trans hu (fun x hx => Or.inl (by subst hx; exact hg)), fun b hb => Nat.lt_of_lt_of_le (h.lt b hb) hu.size⟩
  subst e
  exact ((d1 j hj).tm _ hb _ _ _ hA).elim h1 h2
/-- All of it. -/
structure Lw (w wr : World) (B p n : Nat) (D : AD) (g cp : Nat → Nat) (R : Nat → List Value) (vim : Value) (us : List Value) (gf cf : Nat) (RF : List Value) (vfs : Value) (fs : List Value) : Prop where
  lt : Lt w wr n g cp R vim us
  fl : Row wr w.heap.size 5 (.slice (some ⟨gf, 0, none⟩) 515 cf) RF
  far : ∀ k, k < n → g k ≠ gf
  fz : Row wr w.heap.size 3 vfs fs
  dk : ∃ G, Dka (fun b => b < w.heap.size) w wr B 1 (fun _ => p) G (fun _ => D)
section
variable {w wr w' : World} {B p n : Nat} {D : AD} {g cp : Nat → Nat} {R : Nat → List Value} {vim : Value} {us : List Value} {gf cf : Nat} {RF : List Value} {vfs : Value} {fs : List Value}
theorem Lw.below (h : Lw w wr B p n D g cp R vim us gf cf RF vfs fs) (hb : Below wr.heap.size wr w') : Lw w w' B p n D g cp R vim us gf cf RF vfs fs := by
  obtain ⟨G, hd⟩ := h.dk
  exact ⟨h.lt.below hb, h.fl.below hb, h.far, h.fz.below hb, ⟨G, hd.below hb⟩⟩
theorem Lw.old (h : Lw w wr B p n D g cp R vim us gf cf RF vfs fs) : Below w.heap.size w wr := by
  obtain ⟨G, hd⟩ := h.dk
  exact up_below hd.kp
theorem Lw.disk (h : Lw w wr B p n D g cp R vim us gf cf RF vfs fs) : ∃ cs, Arr wr p 75 cs := by
  obtain ⟨G, hd⟩ := h.dk
  obtain ⟨gm, V, d1, _⟩ := hd.all
  exact ⟨_, (d1 0 (by decide)).blk⟩
theorem Lw.store {k j : Nat} {u : Value} (h : Lw w wr B p n D g cp R vim us gf cf RF vfs fs) (hk : k < n) : Lw w (wr.setCell ⟨g k, j, none⟩ u) B p n D g cp (upd R k ((R k).set j u)) vim us gf cf RF vfs fs := by
  obtain ⟨G, hd⟩ := h.dk
  have hr := h.lt.rows k hk
  have hg := (hr.set j u).2
  obtain ⟨cur, hc, hb⟩ := hr.blk2 rfl
  refine ⟨h.lt.store hk, h.fl.kept hg (Or.inr (fun e => h.far k hk (by simpa [Value.ownBlock] using e.symm))), h.far, h.fz.kept hg (h.fz.apart hr (by decide)), ⟨G, hd.asideB hc (by decide) (by decide) (fun hlt => by omega) (Up.of_grown hg (fun g hg => (Option.some.inj hg).symm))⟩⟩
theorem Lw.storeF {j : Nat} {u : Value} (h : Lw w wr B p n D g cp R vim us gf cf RF vfs fs) : Lw w (wr.setCell ⟨gf, j, none⟩ u) B p n D g cp R vim us gf cf (RF.set j u) vfs fs := by
  obtain ⟨G, hd⟩ := h.dk
  obtain ⟨h1, hg⟩ := h.fl.set j u
  obtain ⟨cur, hc, hb⟩ := h.fl.blk2 rfl
  refine ⟨h.lt.aside hc h.far hg, h1, h.far, h.fz.kept hg (h.fz.apart h.fl (by decide)), ⟨G, hd.asideB hc (by decide) (by decide) (fun hlt => by omega) (Up.of_grown hg (fun g hg => (Option.some.inj hg).symm))⟩⟩
theorem Lw.write {i c m : Nat} {s : List Int} (h : Lw w wr B p n D g cp R vim us gf cf RF vfs fs) (hi : i < D.la.length) (hB : B ≤ 1000000000) (hu : Own8 wr 0 (.slice (some ⟨c, 0, none⟩) 512 m) s) (hs : IsSec s) :
    Calls Try.prog 10 #[.pointer (some ⟨p, 0, none⟩), .int .i64 (i : Int), .slice (some ⟨c, 0, none⟩) 512 m] wr fun e w' => e = .returned (.int .i64 0) ∧ Lw w w' (B + 1) p n (D.write i s) g cp R vim us gf cf RF vfs fs := by
  obtain ⟨G, hd⟩ := h.dk
  refine (dka_write (k := 0) (i := i) hd (by decide) rfl hi hB hu hs).mono ?_
  rintro e w' ⟨h1, h2, h3⟩
  exact ⟨h1, ⟨h.lt.km h3, h.fl.km h3 (by decide) (by decide), h.far, h.fz.km h3 (by decide) (by decide), ⟨G, h2.congr (fun _ _ => rfl) (fun _ _ => rfl) (fun k hk => by rw [show k = 0 by omega]; rfl)⟩⟩⟩
theorem Lw.crash {v : Value} {xs : List Int} (h : Lw w wr B p n D g cp R vim us gf cf RF vfs fs) (hB : B ≤ 1000000000) (hi : IsI wr v xs) (hF : ∀ b, Value.inBlock v b → ∃ cur, wr.heap[b]? = some (.cells cur 3)) :
    Calls Try.prog 19 #[.pointer (some ⟨p, 0, none⟩), v] wr fun e w' => e = .returned (.tuple #[]) ∧ Lw w w' B p n (D.settle fun k => xs.getD k 0) g cp R vim us gf cf RF vfs fs := by
  obtain ⟨G, hd⟩ := h.dk
  refine (dka_crash (k := 0) hd (by decide) rfl hB hi (fun b hbl e => ?_)).mono ?_
  · obtain ⟨cur, hcur⟩ := hF b hbl
    obtain ⟨gm, V, d1, d2, d3⟩ := hd.all
    subst e
    exact ((d1 0 (by decide)).tm _ (Or.inr (Or.inl rfl)) _ _ _ hcur).elim (by decide) (by decide)
  · rintro e w' ⟨h1, h2, h3⟩
    exact ⟨h1, ⟨h.lt.km h3, h.fl.km h3 (by decide) (by decide), h.far, h.fz.km h3 (by decide) (by decide), ⟨G, h2.congr (fun _ _ => rfl) (fun _ _ => rfl) (fun k hk => by rw [show k = 0 by omega]; rfl)⟩⟩⟩
/-- Read, and which block alone it changes. -/
theorem Lw.read {i : Nat} (h : Lw w wr B p n D g cp R vim us gf cf RF vfs fs) (hi : i < D.la.length) (hB : B ≤ 1000000000) :
    Calls Try.prog 20 #[.pointer (some ⟨p, 0, none⟩), .int .i64 (i : Int)] wr fun e w' => ∃ gr, e = .returned (.tuple #[.slice (some ⟨gr, 0, none⟩) 512 512, .int .i64 0]) ∧
      Arr w' gr 77 (u8V (D.now i)) ∧ IsSec (D.now i) ∧ Lw w w' (B + 1) p n (D.reads 1) g cp R vim us gf cf RF vfs fs ∧ ∀ b cs, Arr wr b 77 cs → Arr w' b 77 cs := by
  obtain ⟨G, hd⟩ := h.dk
  obtain ⟨gm, V, h1, h2, h3⟩ := hd.all
  have hf := hd.few 0 (by decide)
  have hdk := h1 0 (by decide)
  refine (read_calls hdk hi hf.rd.1 (by have := hf.rd; omega)).mono ?_
  rintro e w' ⟨gr, rfl, hg, hA, hd', hgr⟩
  have hd2 : Dk w' p (G 0) (gm 0) (V 0) (D.reads 1) := hd'
  have hu : Up (Ft p (G 0) (gm 0) (V 0)) wr w' := Up.of_grown hgr (fun g hg => Or.inl (Option.some.inj hg).symm)
  obtain ⟨hD, hK⟩ := Dka.upd (k := 0) (by decide) h1 h2 h3 (fun j hj => (hd.few j hj).mono (show B ≤ B + 1 by omega)) hd.kp hd.lt hd2 hu (fun b hb => Or.inl hb) (hf.reads 1)
  refine ⟨gr, rfl, hA, hdk.ok.now hi, ⟨h.lt.km hK, h.fl.km hK (by decide) (by decide), h.far, h.fz.km hK (by decide) (by decide), ⟨G, hD.congr (fun _ _ => rfl) (fun _ _ => rfl) (fun k hk => by rw [show k = 0 by omega]; rfl)⟩⟩, fun b cs hb => ?_⟩
  refine hb.keep (hgr.block b hb.lt (fun e => ?_))
  have e1 := Option.some.inj e
  subst e1
  have h9 := hdk.blk
  unfold Arr at h9 hb
  rw [hb] at h9
  simp only [Option.some.injEq, Obj.cells.injEq] at h9
  exact absurd h9.2.1 (by decide)
end
end Go.Proofs.Ytfgjhlnaaopdeab
