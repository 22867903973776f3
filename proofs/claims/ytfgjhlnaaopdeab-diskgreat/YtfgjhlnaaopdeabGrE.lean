/- DiskGreat: the fates, what each sector is behind the crash, and the law's memory. -/
import Derived.Test.YtfgjhlnaaopdeabGrC
namespace Go.Proofs.Ytfgjhlnaaopdeab
open Go.RowKit Go.Maps

theorem arr_km {w w' : World} {g : Nat} {t : TypeId} {cs : List Value} (h : Arr w g t cs) (hk : Km w w') (h1 : t ≠ 77) (h2 : t ≠ 75) : Arr w' g t cs := by
  obtain ⟨F, hu, ht⟩ := hk
  exact h.up hu (fun hF => (ht _ hF _ _ _ h).elim h1 h2)
/-- A row of numbers of the law's own. -/
def OwnZ (w : World) (B : Nat) (v : Value) (ks : List Int) : Prop := w.ownsRow B 3 1 v ks.length (ks.map (Value.int .i64))
theorem OwnZ.nil (w : World) (B : Nat) : OwnZ w B (.slice none 0 0) [] := World.ownsRow_nil _ _ _ _
theorem OwnZ.below {w w' : World} {B : Nat} {v : Value} {ks : List Int} (h : OwnZ w B v ks) (hb : Below w.heap.size w w') : OwnZ w' B v ks := owns_below h hb
theorem OwnZ.km {w w' : World} {B : Nat} {v : Value} {ks : List Int} (h : OwnZ w B v ks) (hk : Km w w') : OwnZ w' B v ks := by
  obtain ⟨F, hu, ht⟩ := hk
  refine owns_up h hu (fun g hg hF => ?_)
  rcases h.2 with ⟨rfl, _⟩ | ⟨g', cap, cur, rfl, _, hgg, _⟩
  · simp [Value.ownBlock] at hg
  · simp only [Value.ownBlock, Option.some.injEq] at hg
    subst hg
    exact (ht _ hF _ _ _ hgg).elim (by decide) (by decide)
theorem OwnZ.other {w w' : World} {B g : Nat} {v : Value} {ks : List Int} {cs : Array Value} {t : TypeId} {m : Nat × Nat} (h : OwnZ w B v ks) (hg : w.grownBy w' (some g)) (hc : w.heap[g]? = some (.cells cs t m)) (ht : t ≠ 3) : OwnZ w' B v ks := by
  refine World.ownsRow.kept h hg ?_
  rcases h.2 with ⟨rfl, _⟩ | ⟨g', cap, cur, rfl, _, hgg, _⟩
  · exact Or.inl rfl
  · refine Or.inr fun e => ht ?_
    simp only [Value.ownBlock, Option.some.injEq] at e
    subst e
    rw [hc] at hgg
    simp only [Option.some.injEq, Obj.cells.injEq] at hgg
    exact hgg.2.1
theorem OwnZ.shape {w : World} {B : Nat} {v : Value} {ks : List Int} (h : OwnZ w B v ks) : ∃ a c, v = .slice a ks.length c ∧ ks.length ≤ c ∧ c ≤ 9223372036854775807 := by
  rcases h.2 with ⟨hv, h0⟩ | ⟨g, cap, cur, hv, hb, hg, hle, hm, hs, ht⟩
  · exact ⟨none, 0, by rw [hv, h0], by omega, by omega⟩
  · exact ⟨_, cap, hv, hle, by simpa [maxLen] using hm⟩
theorem OwnZ.isI {w : World} {B : Nat} {v : Value} {ks : List Int} (h : OwnZ w B v ks) (hb : ∀ c ∈ ks, -9223372036854775808 ≤ c ∧ c ≤ 9223372036854775807) : IsI w v ks := by
  refine ⟨hb, ?_⟩
  rcases h.2 with ⟨hv, h0⟩ | ⟨g, cap, cur, hv, _, hg, hle, hm, hs, ht⟩
  · exact ⟨none, 0, by rw [hv, h0], by omega, by omega, fun hp => by omega⟩
  · refine ⟨_, cap, hv, hle, by simpa [maxLen] using hm, fun _ => ⟨g, 0, rfl, fun j hj => ?_⟩⟩
    have h2 : w.ownsRow B 3 1 (.slice (some ⟨g, 0, none⟩) ks.length cap) ks.length (ks.map (Value.int .i64)) := by rw [← hv]; exact h
    have := h2.cells (g := g) rfl j (.int .i64 (ks.getD j 0)) (by rw [List.getElem?_map, List.getElem?_eq_getElem hj, List.getD_eq_getElem?_getD, List.getElem?_eq_getElem hj]; rfl)
    rw [Addr.add_lit] at this
    exact this
theorem OwnZ.block {w : World} {B : Nat} {v : Value} {ks : List Int} (h : OwnZ w B v ks) {b : Nat} (hb : Value.inBlock v b) : ∃ cur, w.heap[b]? = some (.cells cur 3) := by
  obtain ⟨off, n, c, hv, hn⟩ := hb
  rcases h.2 with ⟨hv2, h0⟩ | ⟨g, cap, cur, hv2, _, hg, _⟩
  · rw [hv] at hv2; cases hv2
  · rw [hv] at hv2
    injection hv2 with e1
    injection e1 with e1
    injection e1 with e1
    subst e1
    exact ⟨cur, hg⟩
section
variable {ops : Array Oper} {rest : List Oper} {o : Oper} {a : Act} {Q : Exit → Act → World → Prop} {w : World}
set_option maxRecDepth 100000 in
theorem wpList_appO (hgd : o.guard = none) (x y : Operand) (ho : o.op = .call { callee := .builtin .append, args := #[x, y], argTypes := #[40, 40] }) {B g : Nat} {v : Value} {ks : List Int} {z : Int} (hx : a.eval x = v) (hown : OwnZ w B v ks) (hy : a.eval y = .slice (some ⟨g, 0, none⟩) 1 1)
    (hc : w.cell? ⟨g, 0, none⟩ = some (.int .i64 z)) (hl : ks.length ≤ 1099511627776) (hB : B ≤ w.heap.size)
    (hk : ∀ v' w', OwnZ w' B v' (ks ++ [z]) → w.grownBy w' v.ownBlock → wpList Try.prog ops Q rest (a.put o.dst v') w') : wpList Try.prog ops Q (o :: rest) a w := by
  obtain ⟨i0, hi, hz0, hz1, hz2⟩ := info_parts infoInt
  refine wpList_plain hgd fun K hK => wp_append_own w x y 40 ho B 3 i0 _ 1 8 Try.underlying40 hi hz0 hz1 hz2 rfl (by decide) v ks.length _ hx hown ⟨g, 0, none⟩ 1 1 [.int .i64 z] hy rfl (fun j u hu => ?_) (fun u hu => ?_) (by unfold maxLen; omega) (by omega) hB ?_
  · cases j with
    | zero =>
      injection hu with hu
      subst hu
      exact hc
    | succ j => simp at hu
  · rw [List.mem_singleton.1 hu]; rfl
  · intro v' w' r1 r2 _
    refine hK _ _ (hk v' w' ?_ r2)
    unfold OwnZ
    rw [List.length_append, List.length_singleton, List.map_append]
    exact r1
end
theorem Pile.km {w w' : World} {g n k : Nat} {f : Nat → List Int} (h : Pile w g n k f) (hk : Km w w') : Pile w' g n k f := by
  obtain ⟨us, h1, h2, h3⟩ := h.rd
  exact ⟨us, arr_km h1 hk (by decide) (by decide), h2, fun j hj => (h3 j hj).km hk⟩
theorem Pile.cellk {w : World} {g n k : Nat} {f : Nat → List Int} (h : Pile w g n k f) {j : Nat} (hj : j < k) (hn : j < n) : ∃ u, w.cell? ⟨g, j, none⟩ = Option.some u ∧ Own8 w 0 u (f j) := by
  obtain ⟨us, h1, h2, h3⟩ := h.rd
  exact ⟨us.getD j undef, by rw [h1.cell, List.getD_eq_getElem?_getD, List.getElem?_eq_getElem (by omega)]; rfl, h3 j hj⟩
theorem mark_enter (v u : Value) (W : World) : (callFunc 31 #[v, u]).run Try.prog W = .ok (.enter 31 #[v, u]) W := by kernel_rfl
theorem arr_not {w : World} {g g' : Nat} {t t' : TypeId} {cs : List Value} {cs' : Array Value} {m : Nat × Nat} (h : Arr w g t cs) (hc : w.heap[g']? = some (.cells cs' t' m)) (ht : t ≠ t') : g ≠ g' := fun e => by
  subst e
  unfold Arr at h
  rw [hc] at h
  simp only [Option.some.injEq, Obj.cells.injEq] at h
  exact ht h.2.1.symm
theorem Pile.other {w w' : World} {g g' n k : Nat} {f : Nat → List Int} {cs : Array Value} {t : TypeId} {m : Nat × Nat} (h : Pile w g n k f) (hg : w.grownBy w' (Option.some g')) (hc : w.heap[g']? = Option.some (Obj.cells cs t m)) (h8 : t ≠ 5) (h9 : 23 ≠ t) : Pile w' g n k f := by
  obtain ⟨us, h1, h2, h3⟩ := h.rd
  refine ⟨us, h1.keep (hg.block g h1.lt (fun e => arr_not h1 hc h9 (Option.some.inj e))), h2, fun j hj => (h3 j hj).other hg hc h8⟩
/-- What changes but one block that is of no disk. -/
theorem Dka.aside {A : Nat → Prop} {w wr w' : World} {B n g : Nat} {P G : Nat → Nat} {D : Nat → AD} {t : TypeId} {cs : Array Value} {m : Nat × Nat} (h : Dka A w wr B n P G D) (hA : wr.heap[g]? = some (.cells cs t m)) (h1 : t ≠ 77) (h2 : t ≠ 75) (hg : ¬ A g) (hu : Up (fun b => b = g) wr w') : Dka A w w' B n P G D := by
  obtain ⟨gm, V, d1, d2, d3⟩ := h.all
  refine ⟨⟨gm, V, fun j hj => (d1 j hj).up hu (fun b hb e => ?_), d2, d3⟩, h.few, h.kp.trans hu (fun x hx => Or.inl (by subst hx; exact hg)), fun b hb => Nat.lt_of_lt_of_le (h.lt b hb) hu.size⟩
  subst e
  exact ((d1 j hj).tm _ hb _ _ _ hA).elim h1 h2
/-- The fates. -/
def fateOf (a b t k : Nat) : Int := (((a + b * k) % (t + 3) : Nat) : Int) - 1
def fsL (a b t c : Nat) : List Int := (List.range c).map (fateOf a b t)
theorem fsL_len (a b t c : Nat) : (fsL a b t c).length = c := by simp [fsL]
theorem fsL_snoc (a b t c : Nat) : fsL a b t c ++ [fateOf a b t c] = fsL a b t (c + 1) := by simp [fsL, List.range_succ]
theorem fsL_at (a b t : Nat) {c k : Nat} (hk : k < c) : (fsL a b t c).getD k 0 = fateOf a b t k := by
  rw [List.getD_eq_getElem?_getD, List.getElem?_eq_getElem (by rw [fsL_len]; exact hk)]
  simp [fsL]
theorem fsL_bd {a b t c : Nat} (ht : t ≤ 2000) : ∀ x ∈ fsL a b t c, -9223372036854775808 ≤ x ∧ x ≤ 9223372036854775807 := fun x hx => by
  obtain ⟨k, _, rfl⟩ := List.mem_map.1 hx
  unfold fateOf
  have := Nat.mod_lt (a + b * k) (show 0 < t + 3 by omega)
  omega
theorem cntW_le (h : Nat → Nat) (i : Nat) : cntW h i ≤ i := by
  unfold cntW
  exact Nat.le_trans (List.length_filter_le _ _) (by rw [List.length_range]; exact Nat.le_refl _)
theorem cntW_mono (h : Nat → Nat) {i j : Nat} (hij : i ≤ j) : cntW h i ≤ cntW h j := by
  obtain ⟨r, rfl⟩ : ∃ r, j = i + r := ⟨j - i, by omega⟩
  unfold cntW
  rw [List.range_add, List.filter_append, List.length_append]
  omega
theorem cntW_lt {h : Nat → Nat} {i n : Nat} (hi : i < n) (h0 : 0 < h i) : cntW h i < cntW h n := by
  have h1 := cntW_yes h0
  have h2 := cntW_mono h (show i + 1 ≤ n by omega)
  omega
/-- What each sector is behind the crash. -/
def wantL (h : Nat → Nat) (fate : Nat → Int) (i : Nat) : List Int := if 0 < h i ∧ 1 ≤ fate (cntW h i) then markL i (min (fate (cntW h i)) (h i)).toNat else zsec
def nowL (h : Nat → Nat) (i : Nat) : List Int := if h i = 0 then zsec else markL i (h i)
theorem Gr.now {D : AD} {n : Nat} {h : Nat → Nat} (g : Gr D n h) (i : Nat) : D.now i = nowL h i := by
  unfold nowL
  by_cases h0 : h i = 0
  · rw [if_pos h0, g.now0 h0]
  · rw [if_neg h0, g.now1 (by omega)]
/-- A disk without writes under way. -/
structure Gs (D : AD) (n : Nat) (F : Nat → List Int) : Prop where
  len : D.la.length = n
  la : ∀ i, i < n → D.la.getD i zsec = F i
  wr : ∀ i, D.wr i = []
theorem Gs.now {D : AD} {n i : Nat} {F : Nat → List Int} (g : Gs D n F) (hi : i < n) : D.now i = F i := by
  unfold AD.now
  rw [g.wr i, ← g.la i hi]
  rfl
theorem Gs.reads {D : AD} {n : Nat} {F : Nat → List Int} (g : Gs D n F) (k : Nat) : Gs (D.reads k) n F := ⟨g.len, g.la, g.wr⟩
/-- A disk that a crash by these fates makes so. -/
def Bef (D : AD) (n : Nat) (F : Nat → List Int) (xs : List Int) : Prop := Gs (D.settle fun k => xs.getD k 0) n F
theorem Gs.bef {D : AD} {n : Nat} {F : Nat → List Int} (g : Gs D n F) (xs : List Int) : Bef D n F xs := by
  refine ⟨(AD.laAfter_len D _ _).trans g.len, fun i hi => ?_, fun _ => rfl⟩
  rw [AD.settle_at D _ (by rw [g.len]; exact hi), g.wr i, List.length_nil, if_neg (by omega)]
  exact g.la i hi
theorem Gr.bef {D : AD} {n : Nat} {h : Nat → Nat} (g : Gr D n h) (a b t : Nat) : Bef D n (wantL h (fateOf a b t)) (fsL a b t (cntW h n)) := by
  refine ⟨(AD.laAfter_len D _ _).trans (by rw [g.la, List.length_replicate]), fun i hi => ?_, fun _ => rfl⟩
  rw [g.settle _ hi]
  unfold wantL
  by_cases h0 : 0 < h i
  · have e : (fsL a b t (cntW h n)).getD (cntW h i) 0 = fateOf a b t (cntW h i) := fsL_at a b t (cntW_lt hi h0)
    rw [e]
  · rw [if_neg (fun h => h0 h.1), if_neg (fun h => h0 h.1)]
def cellsH (n : Nat) (h : Nat → Nat) : List Value := (List.range n).map fun x => Value.int .i64 (h x : Int)
theorem cellsH_len (n : Nat) (h : Nat → Nat) : (cellsH n h).length = n := by simp [cellsH]
theorem cellsH_at {n i : Nat} (h : Nat → Nat) (hi : i < n) : (cellsH n h)[i]? = some (.int .i64 (h i : Int)) := by
  rw [List.getElem?_eq_getElem (by rw [cellsH_len]; exact hi)]
  simp [cellsH]
theorem cellsH_set (n i j : Nat) (h : Nat → Nat) : (cellsH n h).set i (.int .i64 (j : Int)) = cellsH n (updF h i j) := by
  apply List.ext_getElem
  · simp [cellsH]
  · intro k h1 h2
    rw [List.getElem_set]
    by_cases e : i = k
    · subst e; rw [if_pos rfl]; simp [cellsH, updF_same]
    · rw [if_neg e]; simp [cellsH, updF_other h j (fun h => e h.symm)]
/-- A disk whose sectors were written hD times, and the law's own account hH. -/
structure Ga (w wr : World) (B n p gh : Nat) (hD hH : Nat → Nat) : Prop where
  dk : ∃ G D, Dka (fun b => b < w.heap.size) w wr B 1 (fun _ => p) G (fun _ => D) ∧ Gr D n hD
  had : Arr wr gh 3 (cellsH n hH)
  new : w.heap.size ≤ gh
theorem Ga.cell {w wr : World} {B n p gh : Nat} {hD hH : Nat → Nat} (h : Ga w wr B n p gh hD hH) {i : Nat} (hi : i < n) : wr.cell? ⟨gh, i, none⟩ = some (.int .i64 (hH i : Int)) := h.had.cell_of (cellsH_at hH hi)
theorem Ga.set {w wr : World} {B n p gh i j : Nat} {hD hH : Nat → Nat} (h : Ga w wr B n p gh hD hH) : Ga w (wr.setCell ⟨gh, i, none⟩ (.int .i64 (j : Int))) B n p gh hD (updF hH i j) := by
  obtain ⟨G, D, h1, h2⟩ := h.dk
  have hg := grown_cell wr gh i (.int .i64 (j : Int))
  refine ⟨⟨G, D, h1.beside h.had (by decide) (by decide) (fun hlt => by have := h.new; omega) (Up.of_grown hg (fun g hg => (Option.some.inj hg).symm)), h2⟩, ?_, h.new⟩
  have := h.had.set i (.int .i64 (j : Int))
  rw [cellsH_set] at this
  exact this
theorem Ga.below {w wr w' : World} {B n p gh : Nat} {hD hH : Nat → Nat} (h : Ga w wr B n p gh hD hH) (hb : Below wr.heap.size wr w') : Ga w w' B n p gh hD hH := by
  obtain ⟨G, D, h1, h2⟩ := h.dk
  exact ⟨⟨G, D, h1.below hb, h2⟩, h.had.below hb, h.new⟩
theorem Ga.mono {w wr : World} {B B' n p gh : Nat} {hD hH : Nat → Nat} (h : Ga w wr B n p gh hD hH) (hB : B ≤ B') : Ga w wr B' n p gh hD hH := by
  obtain ⟨G, D, h1, h2⟩ := h.dk
  exact ⟨⟨G, D, h1.mono hB, h2⟩, h.had, h.new⟩
theorem Ga.write {w wr : World} {B n p gh i j : Nat} {hD hH : Nat → Nat} {u : Value} (h : Ga w wr B n p gh hD hH) (hi : i < n) (hj : hD i + 1 = j) (hB : B ≤ 1000000000) (hu : Own8 wr 0 u (markL i j)) :
    Calls Try.prog 10 #[.pointer (some ⟨p, 0, none⟩), .int .i64 (i : Int), u] wr fun e w' => e = .returned (.int .i64 0) ∧ Ga w w' (B + 1) n p gh (updF hD i j) hH := by
  obtain ⟨G, D, h1, h2⟩ := h.dk
  refine (gr_write h1 h2 hi hj hB hu).mono ?_
  rintro e w' ⟨e1, ⟨D', e2, e3⟩, e4⟩
  exact ⟨e1, ⟨⟨G, D', e2, e3⟩, arr_km h.had e4 (by decide) (by decide), h.new⟩⟩
/-- In the third loop. -/
structure Gb (w wr : World) (B n p gh gw : Nat) (h : Nat → Nat) (fv : Value) (fs : List Int) (k : Nat) (F : Nat → List Int) : Prop where
  ga : Ga w wr B n p gh h h
  ft : OwnZ wr (gh + 1) fv fs
  wt : Pile wr gw n k F
  new : w.heap.size ≤ gw
theorem Gb.below {w wr w' : World} {B n p gh gw k : Nat} {h : Nat → Nat} {fv : Value} {fs : List Int} {F : Nat → List Int} (g : Gb w wr B n p gh gw h fv fs k F) (hb : Below wr.heap.size wr w') : Gb w w' B n p gh gw h fv fs k F := ⟨g.ga.below hb, g.ft.below hb, g.wt.below hb, g.new⟩
theorem Gb.ext {w wr : World} {B n p gh gw k : Nat} {h : Nat → Nat} {fv : Value} {fs : List Int} {F F' : Nat → List Int} (g : Gb w wr B n p gh gw h fv fs k F) (he : ∀ j, j < k → F' j = F j) : Gb w wr B n p gh gw h fv fs k F' := ⟨g.ga, g.ft, g.wt.ext he, g.new⟩
theorem Gb.put {w wr : World} {B n p gh gw k i k2 : Nat} {h : Nat → Nat} {fv u : Value} {fs s : List Int} {F : Nat → List Int} (g : Gb w wr B n p gh gw h fv fs k F) (hi : i < n) (hu : Own8 wr 0 u s) (h12 : ∀ j, j < k2 → j = i ∨ j < k) : Gb w (wr.setCell ⟨gw, i, none⟩ u) B n p gh gw h fv fs k2 (updF F i s) := by
  obtain ⟨us, u1, u2, u3⟩ := g.wt.rd
  obtain ⟨G, D, h1, h2⟩ := g.ga.dk
  have hg := grown_cell wr gw i u
  have hc : wr.heap[gw]? = some (.cells us.toArray 23) := u1
  refine ⟨⟨⟨G, D, h1.beside u1 (by decide) (by decide) (fun hlt => by have := g.new; omega) (Up.of_grown hg (fun g hg => (Option.some.inj hg).symm)), h2⟩, ?_, g.ga.new⟩, g.ft.other hg hc (by decide), g.wt.set hi hu h12, g.new⟩
  exact g.ga.had.other _ _ (arr_not g.ga.had hc (by decide))
theorem Gb.app {w wr w' : World} {B n p gh gw k : Nat} {h : Nat → Nat} {fv fv' : Value} {fs fs' : List Int} {F : Nat → List Int} (g : Gb w wr B n p gh gw h fv fs k F) (hg : wr.grownBy w' fv.ownBlock) (ho : OwnZ w' (gh + 1) fv' fs') : Gb w w' B n p gh gw h fv' fs' k F := by
  rcases g.ft.2 with ⟨rfl, _⟩ | ⟨g', cap, cur, rfl, hb, hc, _⟩
  · have hb := below_none hg
    exact ⟨g.ga.below hb, ho, g.wt.below hb, g.new⟩
  · simp only [Value.ownBlock] at hg
    obtain ⟨G, D, h1, h2⟩ := g.ga.dk
    have hn := g.ga.new
    refine ⟨⟨⟨G, D, h1.aside hc (by decide) (by decide) (fun hlt => by omega) (Up.of_grown hg (fun g hg => (Option.some.inj hg).symm)), h2⟩, ?_, hn⟩, ho, g.wt.other hg hc (by decide) (by decide), g.new⟩
    exact g.ga.had.keep (hg.block gh g.ga.had.lt (fun e => by have := Option.some.inj e; omega))
theorem Gb.read {w wr : World} {B n p gh gw k i : Nat} {h : Nat → Nat} {fv : Value} {fs : List Int} {F : Nat → List Int} (g : Gb w wr B n p gh gw h fv fs k F) (hi : i < n) (hB : B ≤ 1000000000) :
    Calls Try.prog 20 #[.pointer (some ⟨p, 0, none⟩), .int .i64 (i : Int)] wr fun e w' => ∃ gr, e = .returned (.tuple #[.slice (some ⟨gr, 0, none⟩) 512 512, .int .i64 0]) ∧
      IsB w' (.slice (some ⟨gr, 0, none⟩) 512 512) (nowL h i) ∧ Gb w w' (B + 1) n p gh gw h fv fs k F := by
  obtain ⟨G, D, h1, h2⟩ := g.ga.dk
  refine (dka_read (k := 0) (i := i) h1 (by decide) rfl (by show i < D.la.length; rw [h2.la, List.length_replicate]; exact hi) hB).mono ?_
  rintro e w' ⟨gr, e1, _, e3, _, e5, e6⟩
  refine ⟨gr, e1, by rw [← h2.now i]; exact e3, ⟨⟨⟨G, _, e5.congr (fun _ _ => rfl) (fun _ _ => rfl) (fun k hk => by rw [show k = 0 by omega]; rfl), h2.reads 1⟩, arr_km g.ga.had e6 (by decide) (by decide), g.ga.new⟩, g.ft.km e6, g.wt.km e6, g.new⟩⟩
/-- Behind the third loop. -/
structure Gc (A : Nat → Prop) (w wr : World) (B n p gw : Nat) (fv : Value) (fs : List Int) (F : Nat → List Int) (Q : AD → Prop) : Prop where
  dk : ∃ G D, Dka A w wr B 1 (fun _ => p) G (fun _ => D) ∧ Q D
  ft : OwnZ wr 0 fv fs
  wt : Pile wr gw n n F
theorem Gb.over {w wr : World} {B n p gh gw a b t : Nat} {h : Nat → Nat} {fv : Value} (g : Gb w wr B n p gh gw h fv (fsL a b t (cntW h n)) n (wantL h (fateOf a b t))) : Gc (fun b => b < w.heap.size) w wr B n p gw fv (fsL a b t (cntW h n)) (wantL h (fateOf a b t)) (fun D => Bef D n (wantL h (fateOf a b t)) (fsL a b t (cntW h n))) := by
  obtain ⟨G, D, h1, h2⟩ := g.ga.dk
  exact ⟨⟨G, D, h1, h2.bef a b t⟩, owns_mono g.ft (Nat.zero_le _), g.wt⟩
theorem Gc.crash {A : Nat → Prop} {w wr : World} {B n p gw : Nat} {fv : Value} {fs : List Int} {F : Nat → List Int} (g : Gc A w wr B n p gw fv fs F (fun D => Bef D n F fs)) (hB : B ≤ 1000000000) (hb : ∀ c ∈ fs, -9223372036854775808 ≤ c ∧ c ≤ 9223372036854775807) :
    Calls Try.prog 19 #[.pointer (some ⟨p, 0, none⟩), fv] wr fun e w' => e = .returned (.tuple #[]) ∧ Gc A w w' B n p gw fv fs F (fun D => Gs D n F) := by
  obtain ⟨G, D, h1, h2⟩ := g.dk
  refine (dka_crash (k := 0) h1 (by decide) rfl hB (g.ft.isI hb) (fun b hbl e => ?_)).mono ?_
  · obtain ⟨cur, hcur⟩ := g.ft.block hbl
    obtain ⟨gm, V, d1, d2, d3⟩ := h1.all
    subst e
    exact ((d1 0 (by decide)).tm _ (Or.inr (Or.inl rfl)) _ _ _ hcur).elim (by decide) (by decide)
  · rintro e w' ⟨e1, e2, e3⟩
    exact ⟨e1, ⟨⟨G, _, e2.congr (fun _ _ => rfl) (fun _ _ => rfl) (fun k hk => by rw [show k = 0 by omega]; rfl), h2⟩, g.ft.km e3, g.wt.km e3⟩⟩
/-- In the fifth loop: with an image. -/
structure Gi (A : Nat → Prop) (w w0 w1 wr : World) (B n p gw gi : Nat) (fv : Value) (fs : List Int) (F : Nat → List Int) : Prop where
  gc : Gc (Plus A w0 w1) w1 wr B n p gw fv fs F (fun D => Gs D n F)
  im : ∃ L : List (List Int), Img w1 w0.heap.size (.slice (some ⟨gi, 0, none⟩) n n) L ∧ L.length = n ∧ ∀ i, i < n → L.getD i zsec = F i
  up : Up (fun b => ¬ A b) w w0
  bl : Below w0.heap.size w0 w1
theorem Gc.image {A : Nat → Prop} {w wr : World} {B n p gw : Nat} {fv : Value} {fs : List Int} {F : Nat → List Int} (g : Gc A w wr B n p gw fv fs F (fun D => Gs D n F)) :
    Calls Try.prog 13 #[.pointer (some ⟨p, 0, none⟩)] wr fun e w' => ∃ gi, e = .returned (.slice (some ⟨gi, 0, none⟩) n n) ∧ Gi A w wr w' w' B n p gw gi fv fs F := by
  obtain ⟨G, D, h1, h2⟩ := g.dk
  refine (dka_image (k := 0) h1 (by decide) rfl).mono ?_
  rintro e w' ⟨v, rfl, hI, _, hb⟩
  obtain ⟨gI, us, hv, _⟩ := hI.val
  have hl : D.la.length = n := h2.len
  subst hv
  rw [hl] at hI ⊢
  exact ⟨gI, rfl, ⟨⟨⟨G, D, h1.plus hb, h2⟩, g.ft.below hb, g.wt.below hb⟩, ⟨D.la, hI, hl, h2.la⟩, h1.kp, hb⟩⟩
theorem Gi.read {A : Nat → Prop} {w w0 w1 wr : World} {B n p gw gi i : Nat} {fv : Value} {fs : List Int} {F : Nat → List Int} (g : Gi A w w0 w1 wr B n p gw gi fv fs F) (hi : i < n) (hB : B ≤ 1000000000) :
    Calls Try.prog 20 #[.pointer (some ⟨p, 0, none⟩), .int .i64 (i : Int)] wr fun e w' => ∃ gr, e = .returned (.tuple #[.slice (some ⟨gr, 0, none⟩) 512 512, .int .i64 0]) ∧
      IsB w' (.slice (some ⟨gr, 0, none⟩) 512 512) (F i) ∧ Gi A w w0 w1 w' (B + 1) n p gw gi fv fs F := by
  obtain ⟨G, D, h1, h2⟩ := g.gc.dk
  obtain ⟨L, hI, hL1, hL2⟩ := g.im
  refine (dka_read (k := 0) (i := i) h1 (by decide) rfl (by show i < D.la.length; rw [h2.len]; exact hi) hB).mono ?_
  rintro e w' ⟨gr, e1, _, e3, _, e5, e6⟩
  have h5 : Dka (Plus A w0 w1) w1 w' (B + 1) 1 (fun _ => p) G (fun _ => D.reads 1) := e5.congr (fun _ _ => rfl) (fun _ _ => rfl) (fun k hk => by rw [show k = 0 by omega]; rfl)
  refine ⟨gr, e1, by rw [← h2.now hi]; exact e3, ⟨⟨⟨G, _, h5, h2.reads 1⟩, g.gc.ft.km e6, g.gc.wt.km e6⟩, ⟨L, hI, hL1, hL2⟩, g.up, g.bl⟩⟩
theorem Gi.below {A : Nat → Prop} {w w0 w1 wr w' : World} {B n p gw gi : Nat} {fv : Value} {fs : List Int} {F : Nat → List Int} (g : Gi A w w0 w1 wr B n p gw gi fv fs F) (hb : Below wr.heap.size wr w') : Gi A w w0 w1 w' B n p gw gi fv fs F := by
  obtain ⟨G, D, h1, h2⟩ := g.gc.dk
  obtain ⟨L, hI, hL1, hL2⟩ := g.im
  exact ⟨⟨⟨G, D, h1.below hb, h2⟩, g.gc.ft.below hb, g.gc.wt.below hb⟩, ⟨L, hI, hL1, hL2⟩, g.up, g.bl⟩
theorem Gi.back {A : Nat → Prop} {w w0 w1 wr : World} {B n p gw gi : Nat} {fv : Value} {fs : List Int} {F : Nat → List Int} (g : Gi A w w0 w1 wr B n p gw gi fv fs F) : Gc A w wr B n p gw fv fs F (fun D => Bef D n F fs) := by
  obtain ⟨G, D, h1, h2⟩ := g.gc.dk
  refine ⟨⟨G, D, ⟨?_, h1.few, up_plus g.up g.bl h1.kp, fun b hA => h1.lt b (Or.inl hA)⟩, h2.bef fs⟩, g.gc.ft, g.gc.wt⟩
  obtain ⟨gm, V, d1, d2, d3⟩ := h1.all
  exact ⟨gm, V, d1, fun j hj b hb hA => d2 j hj b hb (Or.inl hA), d3⟩
theorem Gi.cells {A : Nat → Prop} {w w0 w1 wr : World} {B n p gw gi i : Nat} {fv : Value} {fs : List Int} {F : Nat → List Int} (g : Gi A w w0 w1 wr B n p gw gi fv fs F) (hi : i < n) :
    (∃ gj, wr.cell? ⟨gi, i, none⟩ = some (.slice (some ⟨gj, 0, none⟩) 512 512) ∧ IsB wr (.slice (some ⟨gj, 0, none⟩) 512 512) (F i)) ∧ ∃ u, wr.cell? ⟨gw, i, none⟩ = some u ∧ Own8 wr 0 u (F i) := by
  obtain ⟨L, hI, hL1, hL2⟩ := g.im
  obtain ⟨G, D, d1, d2⟩ := g.gc.dk
  obtain ⟨gj, h1, h2⟩ := img_cell (img_kept hI d1.kp) hL1 hi
  exact ⟨⟨gj, h1, by rw [← hL2 i hi]; exact h2⟩, g.gc.wt.cell hi⟩
end Go.Proofs.Ytfgjhlnaaopdeab
