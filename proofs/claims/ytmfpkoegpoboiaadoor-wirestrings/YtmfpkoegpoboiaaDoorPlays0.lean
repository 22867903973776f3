/- The rows that plays fills: of each part the wide slice, and the slice that is handed in. -/
import Derived.Test.YtmfpkoegpoboiaaDoorBoth
import Derived.Test.YtmfpkoegpoboiaaDoorSums
namespace Go.Proofs.YtmfpkoegpoboiaaDoor
open Go.RowKit

/-- One part: where it lies, its room, its bytes. -/
structure Pr where
  at_ : Option Addr
  cap : Nat
  bytes : List Int
def Pr.wide (p : Pr) : Value := .slice p.at_ (p.bytes.length + 5) p.cap
def Pr.cut (p : Pr) : Value := .slice p.at_ p.bytes.length p.cap
def Prs (w : World) (B : Nat) (ps : List Pr) : Prop := ∀ p ∈ ps, Own8 w B p.wide (p.bytes ++ [201, 202, 203, 204, 205])
theorem own8_grown {w w' : World} {B B' : Nat} {l v : Value} {n : Nat} {cs : List Value} {xs : List Int} (h : Own8 w B v xs) (hl : w.ownsRow B' 27 1 l n cs) (hg : w.grownBy w' l.ownBlock) : Own8 w' B v xs :=
  ⟨h.1.kept hg (owns_apart h.1 hl (by decide)), h.2⟩
theorem Prs.grown {w w' : World} {B B' : Nat} {ps : List Pr} {l : Value} {n : Nat} {cs : List Value} (h : Prs w B ps) (hl : w.ownsRow B' 27 1 l n cs) (hg : w.grownBy w' l.ownBlock) : Prs w' B ps :=
  fun p hp => own8_grown (h p hp) hl hg
theorem Prs.below {w w' : World} {B : Nat} {ps : List Pr} (h : Prs w B ps) (hb : Below w.heap.size w w') : Prs w' B ps := fun p hp => (h p hp).below hb
/-- Rows whose first cells are unlike are unlike rows. -/
theorem rows_apart {w : World} {B1 B2 : Nat} {t1 t2 : TypeId} {v1 v2 : Value} {n1 n2 : Nat} {c1 c2 : List Value} (h1 : w.ownsRow B1 t1 1 v1 n1 c1) (h2 : w.ownsRow B2 t2 1 v2 n2 c2) (hn1 : 0 < n1) (hn2 : 0 < n2) (hne : c1[0]? ≠ c2[0]?) :
    v1.ownBlock ≠ v2.ownBlock := by
  obtain ⟨g1, cap1, rfl, _, _, _, hc1⟩ := owns_shape h1 hn1
  obtain ⟨g2, cap2, rfl, _, _, _, hc2⟩ := owns_shape h2 hn2
  intro e
  simp only [Value.ownBlock, Option.some.injEq] at e
  subst e
  exact hne ((hc1 0 (by omega)).symm.trans (hc2 0 (by omega)))
theorem unlike_head {ps qs : List Pr} (h : ∀ p q, ps[0]? = some p → qs[0]? = some q → p = q) (hp : 0 < ps.length) (hq : 0 < qs.length) : (ps.map Pr.wide)[0]? ≠ (qs.map Pr.cut)[0]? := by
  cases ps with
  | nil => simp at hp
  | cons p t =>
    cases qs with
    | nil => simp at hq
    | cons q s =>
      have := h p q rfl rfl
      subst this
      simp [Pr.wide, Pr.cut]

theorem cells_lit (w : World) (cs : List Value) (t : TypeId) : ∀ j u, cs[j]? = some u → (w.alloc (.cells cs.toArray t)).cell? ((⟨w.heap.size, 0, none⟩ : Addr).add j) = some u := by
  intro j u hu
  rw [Addr.add_lit, cell_of_row _ w.heap.size (0 + j) cs.toArray t (0, 0) (heap_alloc_new w _)]
  simpa using hu
/-- Both rows, filled with the same parts. -/
structure Pst (wr : World) (B : Nat) (vw vp : Value) (ps : List Pr) (k : Nat) : Prop where
  len : ps.length = k
  wid : wr.ownsRow B 27 1 vw k (ps.map Pr.wide)
  cut : wr.ownsRow B 27 1 vp k (ps.map Pr.cut)
  nils : k = 0 → vw = .slice none 0 0 ∧ vp = .slice none 0 0
  each : Prs wr B ps
theorem Pst.below {w w' : World} {B : Nat} {vw vp : Value} {ps : List Pr} {k : Nat} (h : Pst w B vw vp ps k) (hb : Below w.heap.size w w') : Pst w' B vw vp ps k :=
  ⟨h.len, owns_below h.wid hb, owns_below h.cut hb, h.nils, h.each.below hb⟩
theorem Pst.apart {w : World} {B : Nat} {vw vp : Value} {ps : List Pr} {k : Nat} (h : Pst w B vw vp ps k) : vp.ownBlock = none ∨ vp.ownBlock ≠ vw.ownBlock := by
  by_cases h0 : k = 0
  · rw [(h.nils h0).2]; exact Or.inl rfl
  · refine Or.inr fun e => rows_apart h.wid h.cut (by omega) (by omega) (unlike_head (fun p q hp hq => ?_) (by have := h.len; omega) (by have := h.len; omega)) e.symm
    rw [hp] at hq
    exact Option.some.inj hq
theorem Pst.start (w : World) (B : Nat) : Pst w B (.slice none 0 0) (.slice none 0 0) [] 0 :=
  ⟨rfl, World.ownsRow_nil _ _ _ _, World.ownsRow_nil _ _ _ _, fun _ => ⟨rfl, rfl⟩, fun p hp => by simp at hp⟩
/-- The wide row has grown by one. -/
theorem Pst.mid {w w' : World} {B : Nat} {vw vp : Value} {ps : List Pr} {k : Nat} (h : Pst w B vw vp ps k) (hg : w.grownBy w' vw.ownBlock) : w'.ownsRow B 27 1 vp k (ps.map Pr.cut) ∧ Prs w' B ps :=
  ⟨h.cut.kept hg h.apart, h.each.grown h.wid hg⟩
theorem own_block {w : World} {B : Nat} {t : TypeId} {v : Value} {n : Nat} {cs : List Value} (h : w.ownsRow B t 1 v n cs) (hn : 0 < n) : v.ownBlock ≠ none := by
  obtain ⟨g, cap, rfl, _⟩ := owns_shape h hn
  simp [Value.ownBlock]
/-- Then the other one. -/
theorem Pst.step {w w2 w2' w3 : World} {B : Nat} {vw vp vw' vp' : Value} {ps : List Pr} {k : Nat} {p : Pr} (h : Pst w B vw vp ps k) (hp : Own8 w B p.wide (p.bytes ++ [201, 202, 203, 204, 205]))
    (hg : w.grownBy w2 vw.ownBlock) (hw : w2.ownsRow B 27 1 vw' (k + 1) (ps.map Pr.wide ++ [p.wide])) (hb : Below w2.heap.size w2 w2') (hg' : w2'.grownBy w3 vp.ownBlock) (hc : w3.ownsRow B 27 1 vp' (k + 1) (ps.map Pr.cut ++ [p.cut])) :
    Pst w3 B vw' vp' (ps ++ [p]) (k + 1) := by
  have hm := h.mid hg
  have hc2 := owns_below hm.1 hb
  have hw2 := owns_below hw hb
  have hap : vw'.ownBlock = none ∨ vw'.ownBlock ≠ vp.ownBlock := by
    refine Or.inr ?_
    by_cases h0 : k = 0
    · rw [(h.nils h0).2]; exact own_block hw2 (by omega)
    · have e : ps.map Pr.wide ++ [p.wide] = (ps ++ [p]).map Pr.wide := by simp
      rw [e] at hw2
      refine rows_apart hw2 hc2 (by omega) (by omega) (unlike_head (fun a b ha hb' => ?_) (by simp) (by have := h.len; omega))
      have hl := h.len
      rw [List.getElem?_append_left (by omega)] at ha
      rw [ha] at hb'
      exact Option.some.inj hb'
  refine ⟨by simp [h.len], ?_, by simpa using hc, by omega, fun q hq => ?_⟩
  · have := hw2.kept hg' hap
    simpa using this
  · have hp2 : Own8 w3 B p.wide (p.bytes ++ [201, 202, 203, 204, 205]) := own8_grown ((own8_grown hp h.wid hg).below hb) hc2 hg'
    rcases List.mem_append.1 hq with hq | hq
    · exact (hm.2.below hb).grown hc2 hg' q hq
    · simp only [List.mem_cons, List.not_mem_nil, or_false] at hq
      subst hq
      exact hp2

/-- What the second loop and the end read, in whatever world comes behind. -/
structure Fin2 (w : World) (u5 : Value) (gp cp k s : Nat) (xss : List (List Int)) : Prop where
  rows : 0 < k → ∃ gw cw, u5 = .slice (some ⟨gw, 0, none⟩) k cw ∧ k ≤ cw ∧ ∀ j, j < k → ∃ a c, w.cell? ⟨gw, j, none⟩ = some (.slice a ((xss.getD j []).length + 5) c) ∧ IsB w (.slice a ((xss.getD j []).length + 5) c) (xss.getD j [] ++ [201, 202, 203, 204, 205]) ∧
    w.cell? ⟨gp, j, none⟩ = some (.slice a (xss.getD j []).length c) ∧ IsB w (.slice a (xss.getD j []).length c) (xss.getD j [])
  last : w.cell? ⟨gp, k, none⟩ = some (.slice (some ⟨s, 0, none⟩) 1 1)
  lastB : IsB w (.slice (some ⟨s, 0, none⟩) 1 1) [207]
  bb : IsBB w (.slice (some ⟨gp, 0, none⟩) k cp) xss
theorem Fin2.below {w w' : World} {u5 : Value} {gp cp k s : Nat} {xss : List (List Int)} (h : Fin2 w u5 gp cp k s xss) (hb : Below w.heap.size w w') : Fin2 w' u5 gp cp k s xss := by
  refine ⟨fun hk => ?_, (hb.cell (World.block_lt_of_cell? _ _ h.last)).trans h.last, h.lastB.below hb, h.bb.below hb⟩
  obtain ⟨gw, cw, e, hc, hj⟩ := h.rows hk
  refine ⟨gw, cw, e, hc, fun j hjk => ?_⟩
  obtain ⟨a, c, h1, h2, h3, h4⟩ := hj j hjk
  exact ⟨a, c, (hb.cell (World.block_lt_of_cell? _ _ h1)).trans h1, h2.below hb, (hb.cell (World.block_lt_of_cell? _ _ h3)).trans h3, h4.below hb⟩
theorem pr_cut {w : World} {B : Nat} {p : Pr} (h : Own8 w B p.wide (p.bytes ++ [201, 202, 203, 204, 205])) : IsB w p.cut p.bytes := by
  have h1 := h.isB
  unfold Pr.wide at h1
  have h2 := h1.cut (k := p.bytes.length) (by omega)
  rw [List.take_left] at h2
  exact h2
theorem fin2_of {wr w3 : World} {B : Nat} {u4 u5 : Value} {ps : List Pr} {k gp cp : Nat} {xss : List (List Int)} (h : Pst wr B u5 u4 ps k) (hbs : ps.map Pr.bytes = xss) (hB : B ≤ wr.heap.size)
    (hg : ((wr.alloc (.cells #[.int .u8 207] 5)).alloc (.cells #[.slice (some ⟨wr.heap.size, 0, none⟩) 1 1] 27)).grownBy w3 u4.ownBlock)
    (ho : w3.ownsRow B 27 1 (.slice (some ⟨gp, 0, none⟩) (k + 1) cp) (k + 1) (ps.map Pr.cut ++ [.slice (some ⟨wr.heap.size, 0, none⟩) 1 1])) : Fin2 w3 u5 gp cp k wr.heap.size xss := by
  have hl := h.len
  obtain ⟨g', cap', e', hkc, hcm, _, hcell⟩ := owns_shape ho (by omega)
  injection e' with e1 _ e3
  injection e1 with e1
  injection e1 with e1 _ _
  subst e1 e3
  have hal1 : Below wr.heap.size wr (wr.alloc (.cells #[.int .u8 207] 5)) := (Below.refl _ _).alloc (Nat.le_refl _) _
  have hcut : ((wr.alloc (.cells #[.int .u8 207] 5)).alloc (.cells #[.slice (some ⟨wr.heap.size, 0, none⟩) 1 1] 27)).ownsRow B 27 1 u4 k (ps.map Pr.cut) := (h.cut.alloc _).alloc _
  have hwid : w3.ownsRow B 27 1 u5 k (ps.map Pr.wide) := by
    refine ((h.wid.alloc _).alloc _).kept hg ?_
    rcases h.apart with e | e
    · rw [e]
      cases u5.ownBlock <;> simp
    · exact Or.inr (Ne.symm e)
  have heach : Prs w3 B ps := ((h.each.below hal1).below ((Below.refl _ _).alloc (Nat.le_refl _) _)).grown hcut hg
  have h207 : Own8 w3 B (.slice (some ⟨wr.heap.size, 0, none⟩) 1 1) [207] := by
    have h0 : Own8 (wr.alloc (.cells #[.int .u8 207] 5)) B (.slice (some ⟨wr.heap.size, 0, none⟩) 1 1) [207] :=
      ⟨World.ownsRow_lit (base := B) (e := 5) (size := 1) wr #[.int .u8 207] 1 hB (by decide) rfl, by decide⟩
    exact own8_grown (h0.below ((Below.refl _ _).alloc (Nat.le_refl _) _)) hcut hg
  have hpj : ∀ j, j < k → ∃ p, ps[j]? = some p ∧ p ∈ ps ∧ xss.getD j [] = p.bytes := fun j hj => by
    have hj' : j < ps.length := by omega
    refine ⟨ps[j], List.getElem?_eq_getElem hj', List.getElem_mem _, ?_⟩
    rw [← hbs, List.getD_eq_getElem?_getD, List.getElem?_map, List.getElem?_eq_getElem hj']
    rfl
  have hcj : ∀ j p, j < k → ps[j]? = some p → w3.cell? ⟨gp, j, none⟩ = some p.cut := fun j p hj hp => by
    rw [hcell j (by omega), List.getElem?_append_left (by simp; omega), List.getElem?_map, hp]
    rfl
  refine ⟨fun hk => ?_, ?_, h207.isB, ?_⟩
  · obtain ⟨gw, cw, e, hc, _, _, hcw⟩ := owns_shape hwid hk
    refine ⟨gw, cw, e, hc, fun j hj => ?_⟩
    obtain ⟨p, hp, hm, hx⟩ := hpj j hj
    rw [hx]
    refine ⟨p.at_, p.cap, ?_, (heach p hm).isB, hcj j p hj hp, pr_cut (heach p hm)⟩
    rw [hcw j (by omega), List.getElem?_map, hp]
    rfl
  · rw [hcell k (by omega), List.getElem?_append_right (by simp; omega)]
    simp [hl]
  · have hxl : xss.length = k := by rw [← hbs]; simp [hl]
    refine ⟨some ⟨gp, 0, none⟩, cp, by rw [hxl], by omega, by omega, fun _ => ⟨gp, 0, rfl, fun j hj => ?_⟩⟩
    rw [hxl] at hj
    obtain ⟨p, hp, hm, hx⟩ := hpj j hj
    rw [hx, Nat.zero_add]
    exact ⟨p.cut, hcj j p hj hp, pr_cut (heach p hm)⟩
end Go.Proofs.YtmfpkoegpoboiaaDoor
