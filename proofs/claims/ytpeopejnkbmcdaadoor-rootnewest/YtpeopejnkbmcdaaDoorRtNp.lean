/- RootNewest in plain terms: two sectors, one slot that counts, the next one written, a crash. -/
import Derived.Test.YtpeopejnkbmcdaaDoorKM
namespace Go.Proofs.YtpeopejnkbmcdaaDoor
open Go.RowKit Go.Maps

/-- The slots of RootNewest. -/
def slQ (n T G S F : Int) : SL := ⟨n, 8, T, G, S, List.replicate 32 0, ⟨List.replicate 32 0, F, 0⟩, ⟨List.replicate 32 0, 11, 0⟩⟩
structure QB (n T G S F : Int) : Prop where
  n : 40 ≤ n ∧ n ≤ 1063
  t : 0 ≤ T ∧ T ≤ 100
  g : 0 ≤ G ∧ G ≤ 16777215
  s : 0 ≤ S ∧ S ≤ 16777215
  f : 10 ≤ F ∧ F ≤ 25
theorem QB.ok {n T G S F : Int} (h : QB n T G S F) : (slQ n T G S F).Ok := by
  obtain ⟨⟨a1, a2⟩, ⟨b1, b2⟩, ⟨c1, c2⟩, ⟨d1, d2⟩, ⟨e1, e2⟩⟩ := h
  refine ⟨⟨?_, ?_⟩, ⟨?_, ?_⟩, ⟨?_, ?_⟩, ⟨?_, ?_⟩, ⟨?_, ?_⟩, by simp [slQ], By8.zero 32, ⟨by simp [slQ], By8.zero 32, ⟨?_, ?_⟩, ⟨?_, ?_⟩⟩, ⟨by simp [slQ], By8.zero 32, ⟨?_, ?_⟩, ⟨?_, ?_⟩⟩⟩ <;> simp only [slQ] <;> omega
theorem QB.may {n T G S F : Int} (h : QB n T G S F) : (slQ n T G S F).May := by
  obtain ⟨⟨a1, a2⟩, ⟨b1, b2⟩, ⟨c1, c2⟩, ⟨d1, d2⟩, ⟨e1, e2⟩⟩ := h
  refine ⟨?_, ?_, ?_, ?_, ?_, ⟨?_, ?_⟩, ⟨?_, ?_⟩, ⟨?_, ?_⟩, ⟨?_, ?_, ?_, ?_⟩, ⟨?_, ?_, ?_, ?_⟩⟩ <;> simp only [slQ] <;> omega
/-- Which slot counts: the one in its sector, the other being older or none. -/
theorem cnt_two {n i j : Nat} {now : Nat → List Int} {s : SL} (hi : i < 2) (hj : j < 2) (hne : j ≠ i) (h : sndO n (now i) i = some s) (ho : ∀ r, sndO n (now j) j = some r → r.t < s.t) : cntS n now = some s := by
  show newer (newer none (sndO n (now 0) 0)) (sndO n (now 1) 1) = _
  rcases (show (i = 0 ∧ j = 1) ∨ (i = 1 ∧ j = 0) by omega) with ⟨rfl, rfl⟩ | ⟨rfl, rfl⟩
  · rw [h]
    cases hr : sndO n (now 1) 1 with
    | none => rfl
    | some r =>
      have := ho r hr
      show (if s.t < r.t then some r else some s) = some s
      rw [if_neg (by omega)]
  · rw [h]
    cases hr : sndO n (now 0) 0 with
    | none => rfl
    | some r =>
      have := ho r hr
      show (if r.t < s.t then some s else some r) = some s
      rw [if_pos this]
/-- The disk at a round's head: nothing is cached, one slot counts. -/
structure Nq (n k : Nat) (D : AD) (T G S F : Int) : Prop where
  la : D.la.length = n
  n0 : 40 ≤ n ∧ n ≤ 1063
  qb : QB n T G S F
  tk : T ≤ k
  kl : k ≤ 60
  wr : ∀ i, D.wr i = []
  rd : 0 ≤ D.rd ∧ D.rd ≤ 2 * (k : Int)
  wt : 0 ≤ D.wt ∧ D.wt ≤ (k : Int) + 1
  fl : 0 ≤ D.fl ∧ D.fl ≤ 2 * (k : Int) + 1
  here : ∀ i : Nat, i < 2 → T % 2 = (i : Int) → D.now i = slL (slQ n T G S F)
  other : ∀ j : Nat, j < 2 → T % 2 ≠ (j : Int) → ∀ r, sndO n (D.now j) j = some r → r.t < T
theorem Nq.cnt {n k : Nat} {D : AD} {T G S F : Int} (h : Nq n k D T G S F) : cntS n D.now = some (slQ n T G S F) := by
  have ht := h.qb.t
  have hs : ∀ i : Nat, i < 2 → T % 2 = (i : Int) → sndO n (D.now i) i = some (slQ n T G S F) := fun i hi e => by
    rw [h.here i hi e]
    exact sndO_yes (decS_sl h.qb.ok h.qb.may) rfl e
  rcases (show T % 2 = 0 ∨ T % 2 = 1 by omega) with e | e
  · exact cnt_two (i := 0) (j := 1) (by decide) (by decide) (by decide) (hs 0 (by decide) e) (fun r hr => h.other 1 (by decide) (by omega) r hr)
  · exact cnt_two (i := 1) (j := 0) (by decide) (by decide) (by decide) (hs 1 (by decide) e) (fun r hr => h.other 0 (by decide) (by omega) r hr)
theorem now_nil {D : AD} {i : Nat} (h : D.wr i = []) : D.now i = D.la.getD i zsec := by unfold AD.now; rw [h]; rfl
/-- Any disk that reads the same in both sectors, with nothing cached. -/
theorem Nq.same {n k k' : Nat} {D D' : AD} {T G S F : Int} (h : Nq n k D T G S F) (hk : k ≤ k') (hk' : k' ≤ 60) (hl : D'.la.length = n) (hw : ∀ i, D'.wr i = []) (hn : ∀ i, i < 2 → D'.now i = D.now i) (hr : 0 ≤ D'.rd ∧ D'.rd ≤ 2 * (k' : Int)) (hwt : 0 ≤ D'.wt ∧ D'.wt ≤ (k' : Int) + 1) (hfl : 0 ≤ D'.fl ∧ D'.fl ≤ 2 * (k' : Int) + 1) : Nq n k' D' T G S F :=
  ⟨hl, h.n0, h.qb, by have := h.tk; omega, hk', hw, hr, hwt, hfl, fun i hi e => by rw [hn i hi]; exact h.here i hi e, fun j hj e => by rw [hn j hj]; exact h.other j hj e⟩
/-- The next slot stands in the other sector. -/
theorem Nq.next {n k k' : Nat} {D D' : AD} {T G S F T' G' S' F' : Int} (h : Nq n k D T G S F) (eT : T' = T + 1) (hq : QB n T' G' S' F') (hk : k + 1 ≤ k') (hk' : k' ≤ 60) (hl : D'.la.length = n) (hw : ∀ i, D'.wr i = []) (hn : ∀ i : Nat, i < 2 → D'.now i = if T' % 2 = (i : Int) then slL (slQ n T' G' S' F') else D.now i) (hr : 0 ≤ D'.rd ∧ D'.rd ≤ 2 * (k' : Int)) (hwt : 0 ≤ D'.wt ∧ D'.wt ≤ (k' : Int) + 1) (hfl : 0 ≤ D'.fl ∧ D'.fl ≤ 2 * (k' : Int) + 1) : Nq n k' D' T' G' S' F' := by
  subst eT
  have ht := h.qb.t
  refine ⟨hl, h.n0, hq, by have := h.tk; omega, hk', hw, hr, hwt, hfl, fun i hi e => by rw [hn i hi, if_pos e], fun j hj e r hr => ?_⟩
  rw [hn j hj, if_neg e] at hr
  have e2 : T % 2 = (j : Int) := by omega
  rw [h.here j hj e2, sndO_yes (decS_sl h.qb.ok h.qb.may) rfl e2] at hr
  injection hr with hr
  rw [← hr]
  show T < T + 1
  omega
theorem settle_nil {D : AD} (fate : Nat → Int) (h : ∀ i, D.wr i = []) {i : Nat} (hi : i < D.la.length) : (D.settle fate).now i = D.now i := by
  rw [now_nil (D := D.settle fate) rfl, AD.settle_at D fate hi, now_nil (h i), h i]
  rw [if_neg (by simp; omega)]
theorem settle_la (D : AD) (fate : Nat → Int) : (D.settle fate).la.length = D.la.length := AD.laAfter_len D fate _
theorem flush_la (D : AD) : D.flush.la.length = D.la.length := AD.laAfter_len D _ _
/-- One write, then a crash: the write lasts, or nothing of it. -/
theorem settle_one {D : AD} (fate : Nat → Int) (h : ∀ i, D.wr i = []) {p : Nat} {b : List Int} (hp : p < 2) (hl : 2 ≤ D.la.length) : (∀ i, i < 2 → ((D.write p b).settle fate).now i = D.now i) ∨ (∀ i, i < 2 → ((D.write p b).settle fate).now i = if p = i then b else D.now i) := by
  have hla : (D.write p b).la = D.la := rfl
  have hw : ∀ i, (D.write p b).wr i = if i = p then [b] else [] := fun i => by
    show updF D.wr p (D.wr p ++ [b]) i = _
    unfold updF
    split
    · rw [h p]; rfl
    · exact h i
  have e : ∀ i, i < 2 → ((D.write p b).settle fate).now i = if 1 ≤ min (fate ((D.write p b).keys.idxOf i)) ((D.write p b).wr i).length then pickW ((D.write p b).wr i) (fate ((D.write p b).keys.idxOf i)) else D.now i := fun i hi => by
    rw [now_nil (D := (D.write p b).settle fate) rfl, AD.settle_at (D.write p b) fate (by rw [hla]; omega), hla, now_nil (h i)]
  by_cases hc : 1 ≤ fate ((D.write p b).keys.idxOf p)
  · refine Or.inr fun i hi => ?_
    rw [e i hi, hw i]
    by_cases hip : i = p
    · subst hip
      rw [if_pos rfl, if_pos rfl, if_pos (by simp only [List.length_singleton]; omega)]
      unfold pickW
      have : (min (fate ((D.write i b).keys.idxOf i)) ([b].length : Int)).toNat - 1 = 0 := by simp only [List.length_singleton]; omega
      rw [this]
      rfl
    · rw [if_neg hip, if_neg (by simp; omega), if_neg (fun h => hip h.symm)]
  · refine Or.inl fun i hi => ?_
    rw [e i hi, hw i]
    by_cases hip : i = p
    · subst hip
      rw [if_pos rfl, if_neg (by simp only [List.length_singleton]; omega)]
    · rw [if_neg hip, if_neg (by simp; omega)]
theorem flush_one {D : AD} (h : ∀ i, D.wr i = []) {p : Nat} {b : List Int} (hl : 2 ≤ D.la.length) : ∀ i, i < 2 → ((D.write p b).flush).now i = if p = i then b else D.now i := fun i hi => by
  have hw : ∀ i, ((D.write p b).wr i).length ≤ 1 := fun i => by
    show (updF D.wr p (D.wr p ++ [b]) i).length ≤ 1
    unfold updF
    split
    · rw [h p]; simp
    · rw [h i]; simp
  rw [flush_nowS (show i < (D.write p b).la.length from by show i < D.la.length; omega) (by have := hw i; omega)]
  by_cases e : p = i
  · subst e
    rw [if_pos rfl, write_nowS]
  · rw [if_neg e, write_nowO _ _ (fun h => e h.symm)]
end Go.Proofs.YtpeopejnkbmcdaaDoor
