/- A World of spaces, the document's beside them, and the lists that they handed out. -/
import Derived.Test.YtifmfnkpogconaaDoorMade4
namespace Go.Proofs.YtifmfnkpogconaaDoor
open Go.RowKit

/-- Nothing is changed but blocks from B on of the types T, and new ones. -/
structure Ch (B : Nat) (T : TypeId → Prop) (w w' : World) : Prop where
  os : w'.os = w.os
  tape : w'.tape = w.tape
  output : w'.output = w.output
  size : w.heap.size ≤ w'.heap.size
  block : ∀ k, k < w.heap.size → (k < B ∨ ∀ cs t m, w.heap[k]? = some (.cells cs t m) → ¬ T t) → w'.heap[k]? = w.heap[k]?
theorem Ch.refl (B : Nat) (T : TypeId → Prop) (w : World) : Ch B T w w := ⟨rfl, rfl, rfl, Nat.le_refl _, fun _ _ _ => rfl⟩
theorem Ch.trans {B : Nat} {T : TypeId → Prop} {a b c : World} (h : Ch B T a b) (k : Ch B T b c) : Ch B T a c :=
  ⟨k.os.trans h.os, k.tape.trans h.tape, k.output.trans h.output, Nat.le_trans h.size k.size, fun i hi ho => (k.block i (Nat.lt_of_lt_of_le hi h.size) (by rw [h.block i hi ho]; exact ho)).trans (h.block i hi ho)⟩
theorem Ch.of_below {B : Nat} {T : TypeId → Prop} {w w' : World} (h : Below w.heap.size w w') : Ch B T w w' := ⟨h.os, h.tape, h.output, h.size, fun k hk _ => h.block k hk⟩
theorem Ch.below {B : Nat} {T : TypeId → Prop} {w w' : World} (h : Ch B T w w') (hB : B ≤ w.heap.size) : Below B w w' := ⟨h.os, h.tape, h.output, h.size, fun k hk => h.block k (by omega) (Or.inl hk)⟩
theorem Ch.of_grown {B g : Nat} {T : TypeId → Prop} {w w' : World} {cs : Array Value} {t : TypeId} {m : Nat × Nat} (hg : w.grownBy w' (some g)) (hb : B ≤ g) (h : w.heap[g]? = some (.cells cs t m)) (ht : T t) : Ch B T w w' :=
  ⟨hg.os, hg.tape, hg.output, hg.size, fun k hk ho => hg.block k hk (fun e => by
    injection e with e
    subst e
    rcases ho with ho | ho
    · omega
    · exact ho _ _ _ h ht)⟩
theorem Ch.of_row {B b : Nat} {T : TypeId → Prop} {w w' : World} {t : TypeId} {v : Value} {xs : List Value} (h : Row w b t v xs) (hb : B ≤ b) (hg : w.grownBy w' v.ownBlock) (ht : T t) : Ch B T w w' := by
  rcases h.2 with ⟨rfl, _⟩ | ⟨g, cap, cur, rfl, hb2, hgg, _⟩
  · exact Ch.of_below ⟨hg.os, hg.tape, hg.output, hg.size, fun k hk => hg.block k hk (fun e => by cases e)⟩
  · exact Ch.of_grown hg (Nat.le_trans hb hb2) hgg ht
theorem Ch.mono {B B' : Nat} {T T' : TypeId → Prop} {w w' : World} (h : Ch B T w w') (hb : B' ≤ B) (ht : ∀ t, T t → T' t) : Ch B' T' w w' :=
  ⟨h.os, h.tape, h.output, h.size, fun k hk ho => h.block k hk (ho.imp (fun h => Nat.lt_of_lt_of_le h hb) fun h cs t m e hT => h cs t m e (ht t hT))⟩
theorem Ch.cells {B g : Nat} {T : TypeId → Prop} {w w' : World} {cs : Array Value} {t : TypeId} {m : Nat × Nat} (hc : Ch B T w w') (h : w.heap[g]? = some (.cells cs t m)) (ht : ¬ T t) : w'.heap[g]? = some (.cells cs t m) := by
  rw [hc.block g (Array.getElem?_eq_some_iff.1 h).1 (Or.inr fun cs' t' m' e => by
    rw [h] at e
    simp only [Option.some.injEq, Obj.cells.injEq] at e
    exact e.2.1 ▸ ht)]
  exact h
theorem Row.ch {w w' : World} {B b : Nat} {T : TypeId → Prop} {t : TypeId} {v : Value} {xs : List Value} (h : Row w b t v xs) (hc : Ch B T w w') (ht : ¬ T t) : Row w' b t v xs := by
  refine ⟨h.1, ?_⟩
  rcases h.2 with hn | ⟨g, cap, cur, rfl, hb, hgg, rest⟩
  · exact .inl hn
  · exact .inr ⟨g, cap, cur, rfl, hb, hc.cells hgg ht, rest⟩
theorem Row.below {w w' : World} {b : Nat} {t : TypeId} {v : Value} {xs : List Value} (h : Row w b t v xs) (hb : Below w.heap.size w w') : Row w' b t v xs := h.out (Out.of_below (B := 0) (S := 0) hb) fun _ _ => Or.inr (Nat.zero_le _)
def Ap (u v : Value) : Prop := u.ownBlock = none ∨ u.ownBlock ≠ v.ownBlock
theorem Ap.symm {u v : Value} (h : Ap u v) : Ap v u := by
  unfold Ap at *
  cases hu : u.ownBlock with
  | none => cases hv : v.ownBlock with
    | none => exact Or.inl rfl
    | some k => exact Or.inr (by simp)
  | some g =>
    rcases h with h | h
    · rw [hu] at h; cases h
    · rw [hu] at h; exact Or.inr fun e => h e.symm
theorem Sp.ch {w w' : World} {B B1 g gw fr to_ : Nat} {ws : List Nat} {T : TypeId → Prop} (h : Sp w B g gw fr to_ ws) (hc : Ch B1 T w w') (h1 : ¬ T 73) (h2 : ¬ T 71) : Sp w' B g gw fr to_ ws := by
  obtain ⟨c, k1, k2⟩ := h.blk
  exact ⟨⟨c, hc.cells k1 h1, k2.ch hc h2⟩, h.rng, h.len, h.wd, h.top⟩
theorem Rs.ch {w w' : World} {B B1 g gb fr to_ : Nat} {bs : List Bool} {T : TypeId → Prop} (h : Rs w B g gb fr to_ bs) (hc : Ch B1 T w w') (h1 : ¬ T 68) (h2 : ¬ T 4) : Rs w' B g gb fr to_ bs := by
  obtain ⟨c, k1, k2⟩ := h.blk
  exact ⟨⟨c, hc.cells k1 h1, k2.ch hc h2⟩, h.rng, h.len⟩
/-- Another space's words are changed. -/
theorem Sp.apart {w w' : World} {B g gw fr to_ k : Nat} {ws : List Nat} (h : Sp w B g gw fr to_ ws) (hg : w.grownBy w' (some k)) (hk : k ≠ gw) (ht : ∃ cs m, w.heap[k]? = some (.cells cs 71 m)) : Sp w' B g gw fr to_ ws := by
  obtain ⟨c, k1, k2⟩ := h.blk
  obtain ⟨cs, m, ht⟩ := ht
  refine ⟨⟨c, ?_, k2.kept hg (Or.inr fun e => hk (by simp [Value.ownBlock] at e; exact e.symm))⟩, h.rng, h.len, h.wd, h.top⟩
  rw [hg.block g (Array.getElem?_eq_some_iff.1 k1).1 (fun e => by
    injection e with e
    subst e
    rw [k1] at ht
    simp only [Option.some.injEq, Obj.cells.injEq] at ht
    exact absurd ht.2.1 (by decide))]
  exact k1
theorem Rs.apart {w w' : World} {B g gb fr to_ k : Nat} {bs : List Bool} (h : Rs w B g gb fr to_ bs) (hg : w.grownBy w' (some k)) (hk : k ≠ gb) (ht : ∃ cs m, w.heap[k]? = some (.cells cs 4 m)) : Rs w' B g gb fr to_ bs := by
  obtain ⟨c, k1, k2⟩ := h.blk
  obtain ⟨cs, m, ht⟩ := ht
  refine ⟨⟨c, ?_, k2.kept hg (Or.inr fun e => hk (by simp [Value.ownBlock] at e; exact e.symm))⟩, h.rng, h.len⟩
  rw [hg.block g (Array.getElem?_eq_some_iff.1 k1).1 (fun e => by
    injection e with e
    subst e
    rw [k1] at ht
    simp only [Option.some.injEq, Obj.cells.injEq] at ht
    exact absurd ht.2.1 (by decide))]
  exact k1
theorem Row.cellsAt {w : World} {b g n c : Nat} {t : TypeId} {xs : List Value} (h : Row w b t (.slice (some ⟨g, 0, none⟩) n c) xs) : b ≤ g ∧ ∃ cs m, w.heap[g]? = some (.cells cs t m) := by
  rcases h.2 with ⟨e, _⟩ | ⟨g2, cap, cur, e, hb, hgg, _⟩
  · cases e
  · injection e with e1 _ _
    injection e1 with e1
    injection e1 with e1
    subst e1
    exact ⟨hb, _, _, hgg⟩
theorem Sp.words {w : World} {B g gw fr to_ : Nat} {ws : List Nat} (h : Sp w B g gw fr to_ ws) : B ≤ gw ∧ ∃ cs m, w.heap[gw]? = some (.cells cs 71 m) := by
  obtain ⟨c, _, k2⟩ := h.blk
  exact k2.cellsAt
theorem Rs.words {w : World} {B g gb fr to_ : Nat} {bs : List Bool} (h : Rs w B g gb fr to_ bs) : B ≤ gb ∧ ∃ cs m, w.heap[gb]? = some (.cells cs 4 m) := by
  obtain ⟨c, _, k2⟩ := h.blk
  exact k2.cellsAt

/-- A space and the document's: where they lie, and what they hold. -/
structure Pr where
  g : Nat
  gw : Nat
  g2 : Nat
  gb : Nat
  fr : Nat
  to_ : Nat
  ws : List Nat
  bs : List Bool
/-- The pair stands so. -/
structure PrAt (w : World) (B : Nat) (p : Pr) : Prop where
  sp : Sp w B p.g p.gw p.fr p.to_ p.ws
  rs : Rs w B p.g2 p.gb p.fr p.to_ p.bs
theorem PrAt.ch {w w' : World} {B B1 : Nat} {p : Pr} {T : TypeId → Prop} (h : PrAt w B p) (hc : Ch B1 T w w') (h1 : ¬ T 73) (h2 : ¬ T 71) (h3 : ¬ T 68) (h4 : ¬ T 4) : PrAt w' B p :=
  ⟨h.sp.ch hc h1 h2, h.rs.ch hc h3 h4⟩
/-- The m spaces of the lists vS, vR. -/
structure Prs (w : World) (B : Nat) (vS vR : Value) (m : Nat) (P : Nat → Pr) : Prop where
  s : ∃ ss, ss.length = m ∧ Row w B 35 vS ss ∧ ∀ i, i < m → ss[i]? = some (.pointer (some ⟨(P i).g, 0, none⟩))
  r : ∃ rs, rs.length = m ∧ Row w B 36 vR rs ∧ ∀ i, i < m → rs[i]? = some (.pointer (some ⟨(P i).g2, 0, none⟩))
  pr : ∀ i, i < m → PrAt w B (P i)
  apart : ∀ i j, i < m → j < m → i ≠ j → (P i).gw ≠ (P j).gw ∧ (P i).gb ≠ (P j).gb
theorem Prs.ch {w w' : World} {B B1 m : Nat} {vS vR : Value} {P : Nat → Pr} {T : TypeId → Prop} (h : Prs w B vS vR m P) (hc : Ch B1 T w w') (h1 : ¬ T 73) (h2 : ¬ T 71) (h3 : ¬ T 68) (h4 : ¬ T 4) (h5 : ¬ T 35) (h6 : ¬ T 36) : Prs w' B vS vR m P := by
  obtain ⟨ss, k1, k2, k3⟩ := h.s
  obtain ⟨rs, k4, k5, k6⟩ := h.r
  exact ⟨⟨ss, k1, k2.ch hc h5, k3⟩, ⟨rs, k4, k5.ch hc h6, k6⟩, fun i hi => (h.pr i hi).ch hc h1 h2 h3 h4, h.apart⟩
/-- The lists that were handed out, with what they held. -/
structure Bk (w : World) (B : Nat) (vL vK : Value) (n : Nat) (U : Nat → Value) (X : Nat → List Nat) : Prop where
  l : ∃ ls, ls.length = n ∧ Row w B 49 vL ls ∧ ∀ k, k < n → ls[k]? = some (U k)
  k : ∃ ks, ks.length = n ∧ Row w B 49 vK ks ∧ ∀ k, k < n → ∃ u, ks[k]? = some u ∧ Row w B 3 u (iV (X k))
  ap : Ap vL vK
  lines : Lines w B w.heap.size 3 U (fun k => iV (X k)) n
  ok : ∀ k, k < n → (X k).length ≤ 65536
theorem Bk.ch {w w' : World} {B B1 n : Nat} {vL vK : Value} {U : Nat → Value} {X : Nat → List Nat} {T : TypeId → Prop} (h : Bk w B vL vK n U X) (hc : Ch B1 T w w') (h1 : ¬ T 49) (h2 : ¬ T 3) : Bk w' B vL vK n U X := by
  obtain ⟨ls, k1, k2, k3⟩ := h.l
  obtain ⟨ks, k4, k5, k6⟩ := h.k
  refine ⟨⟨ls, k1, k2.ch hc h1, k3⟩, ⟨ks, k4, k5.ch hc h1, fun k hk => ?_⟩, h.ap, ⟨fun k hk => (h.lines.row k hk).ch hc h2, fun k hk g hg => Nat.lt_of_lt_of_le (h.lines.hi k hk g hg) hc.size, h.lines.apart⟩, h.ok⟩
  obtain ⟨u, hu, hr⟩ := k6 k hk
  exact ⟨u, hu, hr.ch hc h2⟩
/-- The World. t: how often a list came to be kept. -/
structure Wd (w : World) (B gW m : Nat) (P : Nat → Pr) (t n : Nat) (U : Nat → Value) (X : Nat → List Nat) : Prop where
  blk : ∃ vS vR vL vK, ∃ N : Nat, w.heap[gW]? = some (.cells #[vS, vR, vL, vK, .int .i64 (N : Int)] 34 (0, 0)) ∧ N ≤ 65540 * t ∧ Prs w B vS vR m P ∧ Bk w B vL vK n U X
  low : B ≤ gW ∧ B ≤ w.heap.size ∧ n ≤ t
/-- What the calls of a World change. -/
def T4 (t : TypeId) : Prop := t = 34 ∨ t = 49 ∨ t = 71 ∨ t = 4 ∨ t = 35 ∨ t = 36
theorem Wd.below {w w' : World} {B gW m t n : Nat} {P : Nat → Pr} {U : Nat → Value} {X : Nat → List Nat} (h : Wd w B gW m P t n U X) (hb : Below w.heap.size w w') : Wd w' B gW m P t n U X := by
  obtain ⟨vS, vR, vL, vK, N, h1, h2, h3, h4⟩ := h.blk
  have hc : Ch B (fun _ => False) w w' := Ch.of_below hb
  exact ⟨⟨vS, vR, vL, vK, N, hc.cells h1 id, h2, h3.ch hc id id id id id id, h4.ch hc id id⟩, h.low.1, Nat.le_trans h.low.2.1 hb.size, h.low.2.2⟩
/-- A space and the document's, just made, as a World. -/
theorem MadeAt.wd {w : World} {B gW fr to_ : Nat} (h : MadeAt w B gW fr to_) (hf : fr < to_) (hB : B ≤ w.heap.size) : ∃ P : Nat → Pr, Wd w B gW 1 P 0 0 (fun _ => .slice none 0 0) (fun _ => []) ∧ (∀ i, i < 1 → Tw (P i).fr (P i).to_ (P i).ws (P i).bs) ∧ (P 0).fr = fr ∧ (P 0).to_ = to_ := by
  obtain ⟨gs, gr, g, gw, g2, gb, h1, h2, h3, h4, h5, h6, h7, h8, h9, h10⟩ := h
  have row1 : ∀ {k : Nat} {t : TypeId} {v : Value}, w.heap[k]? = some (.cells #[v] t (0, 0)) → B ≤ k → Row w B t (.slice (some ⟨k, 0, none⟩) 1 1) [v] := fun {k t v} hk hb =>
    ⟨by simp, .inr ⟨k, 1, #[v], rfl, hb, hk, Nat.le_refl _, by decide, by simp, by simp⟩⟩
  refine ⟨fun _ => ⟨g, gw, g2, gb, fr, to_, newW (to_ - fr), List.replicate (to_ - fr) true⟩, ⟨⟨_, _, _, _, 0, h1, by omega, ⟨⟨_, rfl, row1 h2 h7, fun i hi => ?_⟩, ⟨_, rfl, row1 h3 h8, fun i hi => ?_⟩, fun i hi => ⟨h4, h5⟩, fun i j hi hj hne => by omega⟩,
    ⟨⟨[], rfl, Row.nil _ _ _, fun k hk => by omega⟩, ⟨[], rfl, Row.nil _ _ _, fun k hk => by omega⟩, Or.inl rfl, ⟨fun k hk => by omega, fun k hk => by omega, fun j k hj => by omega⟩, fun k hk => by omega⟩⟩, h6, hB, Nat.le_refl _⟩, fun i hi => Tw.new hf, rfl, rfl⟩
  · obtain rfl : i = 0 := by omega
    rfl
  · obtain rfl : i = 0 := by omega
    rfl
theorem Ch.drew {B : Nat} {T : TypeId → Prop} {w w' : World} (h : Ch B T w w') : Ch B T w w'.drew := ⟨h.os, h.tape, h.output, h.size, h.block⟩
theorem Wd.more {w : World} {B gW m t n : Nat} {P : Nat → Pr} {U : Nat → Value} {X : Nat → List Nat} (h : Wd w B gW m P t n U X) : Wd w B gW m P (t + 1) n U X := by
  obtain ⟨vS, vR, vL, vK, N, h1, h2, h3, h4⟩ := h.blk
  exact ⟨⟨vS, vR, vL, vK, N, h1, by omega, h3, h4⟩, h.low.1, h.low.2.1, by have := h.low.2.2; omega⟩
def Pr.setW (p : Pr) (ws : List Nat) : Pr := { p with ws := ws }
def Pr.setB (p : Pr) (bs : List Bool) : Pr := { p with bs := bs }
/-- The words of one space are changed. -/
theorem Wd.words {w w' : World} {B gW m t n i : Nat} {P : Nat → Pr} {U : Nat → Value} {X : Nat → List Nat} (h : Wd w B gW m P t n U X) (hi : i < m) {ws : List Nat} (hg : w.grownBy w' (some (P i).gw)) (hs : Sp w' B (P i).g (P i).gw (P i).fr (P i).to_ ws) : Wd w' B gW m (upd P i ((P i).setW ws)) t n U X ∧ Ch B (fun t => t = 71) w w' := by
  obtain ⟨vS, vR, vL, vK, N, h1, h2, h3, h4⟩ := h.blk
  obtain ⟨hb, cs, mk, hw⟩ := (h3.pr i hi).sp.words
  have hc : Ch B (fun t => t = 71) w w' := Ch.of_grown hg hb hw rfl
  obtain ⟨ss, k1, k2, k3⟩ := h3.s
  obtain ⟨rs, k4, k5, k6⟩ := h3.r
  refine ⟨⟨⟨vS, vR, vL, vK, N, hc.cells h1 (by decide), h2, ⟨⟨ss, k1, k2.ch hc (by decide), fun j hj => ?_⟩, ⟨rs, k4, k5.ch hc (by decide), fun j hj => ?_⟩, fun j hj => ?_, fun j k hj hk hne => ?_⟩, h4.ch hc (by decide) (by decide)⟩, h.low.1, Nat.le_trans h.low.2.1 hc.size, h.low.2.2⟩, hc⟩
  · by_cases e : j = i
    · subst e; rw [upd_same]; exact k3 j hj
    · rw [upd_other _ _ e]; exact k3 j hj
  · by_cases e : j = i
    · subst e; rw [upd_same]; exact k6 j hj
    · rw [upd_other _ _ e]; exact k6 j hj
  · by_cases e : j = i
    · subst e; rw [upd_same]; exact ⟨hs, (h3.pr j hj).rs.ch hc (by decide) (by decide)⟩
    · rw [upd_other _ _ e]; exact ⟨(h3.pr j hj).sp.apart hg (h3.apart i j hi hj (fun e2 => e e2.symm)).1 ⟨cs, mk, hw⟩, (h3.pr j hj).rs.ch hc (by decide) (by decide)⟩
  · have ap := h3.apart j k hj hk hne
    have e1 : ∀ j, (upd P i ((P i).setW ws) j).gw = (P j).gw ∧ (upd P i ((P i).setW ws) j).gb = (P j).gb := fun j => by
      by_cases e : j = i
      · subst e; rw [upd_same]; exact ⟨rfl, rfl⟩
      · rw [upd_other _ _ e]; exact ⟨rfl, rfl⟩
    rw [(e1 j).1, (e1 j).2, (e1 k).1, (e1 k).2]
    exact ap
/-- The document's list of one space is changed. -/
theorem Wd.bits {w w' : World} {B gW m t n i : Nat} {P : Nat → Pr} {U : Nat → Value} {X : Nat → List Nat} (h : Wd w B gW m P t n U X) (hi : i < m) {bs : List Bool} (hg : w.grownBy w' (some (P i).gb)) (hs : Rs w' B (P i).g2 (P i).gb (P i).fr (P i).to_ bs) : Wd w' B gW m (upd P i ((P i).setB bs)) t n U X ∧ Ch B (fun t => t = 4) w w' := by
  obtain ⟨vS, vR, vL, vK, N, h1, h2, h3, h4⟩ := h.blk
  obtain ⟨hb, cs, mk, hw⟩ := (h3.pr i hi).rs.words
  have hc : Ch B (fun t => t = 4) w w' := Ch.of_grown hg hb hw rfl
  obtain ⟨ss, k1, k2, k3⟩ := h3.s
  obtain ⟨rs, k4, k5, k6⟩ := h3.r
  refine ⟨⟨⟨vS, vR, vL, vK, N, hc.cells h1 (by decide), h2, ⟨⟨ss, k1, k2.ch hc (by decide), fun j hj => ?_⟩, ⟨rs, k4, k5.ch hc (by decide), fun j hj => ?_⟩, fun j hj => ?_, fun j k hj hk hne => ?_⟩, h4.ch hc (by decide) (by decide)⟩, h.low.1, Nat.le_trans h.low.2.1 hc.size, h.low.2.2⟩, hc⟩
  · by_cases e : j = i
    · subst e; rw [upd_same]; exact k3 j hj
    · rw [upd_other _ _ e]; exact k3 j hj
  · by_cases e : j = i
    · subst e; rw [upd_same]; exact k6 j hj
    · rw [upd_other _ _ e]; exact k6 j hj
  · by_cases e : j = i
    · subst e; rw [upd_same]; exact ⟨(h3.pr j hj).sp.ch hc (by decide) (by decide), hs⟩
    · rw [upd_other _ _ e]; exact ⟨(h3.pr j hj).sp.ch hc (by decide) (by decide), (h3.pr j hj).rs.apart hg (h3.apart i j hi hj (fun e2 => e e2.symm)).2 ⟨cs, mk, hw⟩⟩
  · have ap := h3.apart j k hj hk hne
    have e1 : ∀ j, (upd P i ((P i).setB bs) j).gw = (P j).gw ∧ (upd P i ((P i).setB bs) j).gb = (P j).gb := fun j => by
      by_cases e : j = i
      · subst e; rw [upd_same]; exact ⟨rfl, rfl⟩
      · rw [upd_other _ _ e]; exact ⟨rfl, rfl⟩
    rw [(e1 j).1, (e1 j).2, (e1 k).1, (e1 k).2]
    exact ap
/-- Each pair tells the same. -/
def Tws (m : Nat) (P : Nat → Pr) : Prop := ∀ i, i < m → Tw (P i).fr (P i).to_ (P i).ws (P i).bs
theorem Tws.upd {m i : Nat} {P : Nat → Pr} (h : Tws m P) {ws : List Nat} {bs : List Bool} (ht : Tw (P i).fr (P i).to_ ws bs) : Tws m (upd (upd P i ((P i).setW ws)) i ((upd P i ((P i).setW ws) i).setB bs)) := fun j hj => by
  by_cases e : j = i
  · subst e; rw [upd_same, upd_same]; exact ht
  · rw [upd_other _ _ e, upd_other _ _ e]; exact h j hj
theorem Wd.pr {w : World} {B gW m t n i : Nat} {P : Nat → Pr} {U : Nat → Value} {X : Nat → List Nat} (h : Wd w B gW m P t n U X) (hi : i < m) : PrAt w B (P i) := by
  obtain ⟨vS, vR, vL, vK, N, h1, h2, h3, h4⟩ := h.blk
  exact h3.pr i hi
theorem Tz.keep {w w' : World} {B : Nat} (h : Tz w) (hb : Below B w w') (hG : 0 < B) : Tz w' := fun j hj => by
  have := h j hj
  exact (hb.cell (p := ⟨0, j, none⟩) hG).trans this
theorem Sp.listLen {w : World} {B g gw fr to_ : Nat} {ws : List Nat} (h : Sp w B g gw fr to_ ws) (k : Nat) : ((allF fr 0 ws).take k).length ≤ 65536 := by
  have h1 : (allF fr 0 ws).length ≤ to_ - fr := by
    rw [h.all]
    simp only [List.length_map, setB]
    exact Nat.le_trans (List.length_filter_le _ _) (by simp)
  have := h.rng
  rw [List.length_take]
  omega
end Go.Proofs.YtifmfnkpogconaaDoor
