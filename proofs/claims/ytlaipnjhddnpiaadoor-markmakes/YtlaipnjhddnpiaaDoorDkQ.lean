/- Flush, Crash, Image and Load in words; the document's. -/
import Derived.Test.YtlaipnjhddnpiaaDoorDkP
namespace Go.Proofs.YtlaipnjhddnpiaaDoor

theorem snoc_ind {α : Type} {P : List α → Prop} (h0 : P []) (h1 : ∀ l a, P l → P (l ++ [a])) (l : List α) : P l := by
  have : ∀ n (l : List α), l.length = n → P l := by
    intro n
    induction n with
    | zero => intro l h; rw [List.eq_nil_of_length_eq_zero h]; exact h0
    | succ n ih =>
      intro l h
      have hne : l ≠ [] := fun e => by subst e; simp at h
      rw [← List.dropLast_concat_getLast hne]
      exact h1 _ _ (ih _ (by simp [h]))
  exact this _ l rfl
theorem lastOf_snoc (l : Ats) (a : Int × List Int) (i : Int) : lastOf (l ++ [a]) i = if i = a.1 then a.2 else lastOf l i := by
  unfold lastOf
  rw [ofN_append]
  by_cases h : i = a.1
  · subst h; simp [ofN]
  · have : ofN [a] i = [] := by simp [ofN]; omega
    rw [this, List.append_nil, if_neg h]
theorem lastOf_nil (i : Int) : lastOf [] i = zsec := rfl
/-- An image as the document's list. -/
def atsOf (im : List (List Int)) : Ats := im.zipIdx.map fun p => ((p.2 : Int), p.1)
theorem atsOf_snoc (im : List (List Int)) (s : List Int) : atsOf (im ++ [s]) = atsOf im ++ [((im.length : Int), s)] := by
  simp [atsOf, List.zipIdx_append]
theorem atsOf_len (im : List (List Int)) : (atsOf im).length = im.length := by simp [atsOf]
theorem lastOf_atsOf (im : List (List Int)) : ∀ i : Nat, i < im.length → lastOf (atsOf im) i = im.getD i zsec := by
  refine snoc_ind (P := fun im => ∀ i : Nat, i < im.length → lastOf (atsOf im) i = im.getD i zsec) ?_ (fun im s ih => ?_) im
  · intro i h; simp at h
  · intro i hi
    rw [atsOf_snoc, lastOf_snoc]
    simp only [List.length_append, List.length_singleton] at hi
    by_cases e : i = im.length
    · subst e; simp
    · rw [if_neg (by simp; omega), ih i (by omega), List.getD_eq_getElem?_getD, List.getD_eq_getElem?_getD, List.getElem?_append_left (by omega)]
theorem atsOf_ok (im : List (List Int)) (h : ∀ s ∈ im, IsSec s) : AtsOk im.length (atsOf im) := by
  intro a ha
  obtain ⟨p, hp, rfl⟩ := List.mem_map.1 ha
  obtain ⟨s, i⟩ := p
  have := List.mem_zipIdx hp
  simp only [Nat.zero_add, Nat.zero_le, true_and] at this
  refine ⟨by simp, by simp; omega, ?_⟩
  rw [this.2]
  exact h _ (List.getElem_mem _)
/-- The sectors that have writes, rising. -/
def AD.keys (D : AD) : List Nat := (List.range D.la.length).filter fun i => decide (0 < (D.wr i).length)
theorem AD.keys_lt {D : AD} {i : Nat} (h : i ∈ D.keys) : i < D.la.length := by simpa using (List.mem_filter.1 h).1
theorem AD.keys_nodup (D : AD) : D.keys.Nodup := List.Pairwise.filter _ List.nodup_range
theorem AD.keys_sorted (D : AD) : D.keys.Pairwise (· < ·) := List.Pairwise.filter _ List.pairwise_lt_range
/-- Which of the writes lasts. -/
def pickW (ws : List (List Int)) (f : Int) : List Int := ws.getD ((min f ws.length).toNat - 1) zsec
def AD.laAfter (D : AD) (fate : Nat → Int) : Nat → List (List Int)
  | 0 => D.la
  | k + 1 => if 1 ≤ min (fate k) (D.wr (D.keys.getD k 0)).length then (D.laAfter fate k).set (D.keys.getD k 0) (pickW (D.wr (D.keys.getD k 0)) (fate k)) else D.laAfter fate k
def AD.settle (D : AD) (fate : Nat → Int) : AD := { D with la := D.laAfter fate D.keys.length, wr := fun _ => [] }
theorem AD.laAfter_len (D : AD) (fate : Nat → Int) : ∀ k, (D.laAfter fate k).length = D.la.length
  | 0 => rfl
  | k + 1 => by
    rw [AD.laAfter]
    split
    · rw [List.length_set, AD.laAfter_len D fate k]
    · exact AD.laAfter_len D fate k
theorem pickW_mem {ws : List (List Int)} {f : Int} (h : 1 ≤ min f ws.length) : pickW ws f ∈ ws := by
  unfold pickW
  have : (min f ws.length).toNat - 1 < ws.length := by omega
  rw [List.getD_eq_getElem?_getD, List.getElem?_eq_getElem this]
  exact List.getElem_mem this
theorem AD.Ok.after {D : AD} (h : D.Ok) (fate : Nat → Int) : ∀ k, ∀ s ∈ D.laAfter fate k, IsSec s
  | 0 => h.las
  | k + 1 => by
    intro s hs
    rw [AD.laAfter] at hs
    split at hs
    · rename_i hc
      rcases List.mem_or_eq_of_mem_set hs with hs | hs
      · exact h.after fate k s hs
      · rw [hs]; exact h.wrs _ _ (pickW_mem hc)
    · exact h.after fate k s hs
theorem AD.Ok.settle {D : AD} (h : D.Ok) (fate : Nat → Int) : (D.settle fate).Ok := by
  have hl : (D.settle fate).la.length = D.la.length := AD.laAfter_len D fate _
  exact ⟨by rw [hl]; exact h.lo, by rw [hl]; exact h.hi, h.after fate _, fun i s hs => by simp [AD.settle] at hs, fun i _ => rfl⟩
/-- The document's Crash. -/
def RD.laAfter (R : RD) (ks : List Nat) (fate : Nat → Int) : Nat → Ats
  | 0 => R.la
  | k + 1 => if 1 ≤ min (fate k) (ofN R.wr (ks.getD k 0 : Nat)).length then putL (R.laAfter ks fate k) (ks.getD k 0 : Nat) (pickW (ofN R.wr (ks.getD k 0 : Nat)) (fate k)) else R.laAfter ks fate k
theorem Rel.after {D : AD} {R : RD} (h : Rel D R) (fate : Nat → Int) : ∀ k, k ≤ D.keys.length → (∀ i, i < D.la.length → (D.laAfter fate k).getD i zsec = lastOf (R.laAfter D.keys fate k) i) ∧ AtsOk R.n (R.laAfter D.keys fate k)
  | 0, _ => ⟨h.la, h.lok⟩
  | k + 1, hk => by
    obtain ⟨ih, io⟩ := h.after fate k (by omega)
    have hm : D.keys.getD k 0 ∈ D.keys := by
      rw [List.getD_eq_getElem?_getD, List.getElem?_eq_getElem (by omega)]
      exact List.getElem_mem _
    have hlt := AD.keys_lt hm
    generalize hq : D.keys.getD k 0 = q at *
    rw [AD.laAfter, RD.laAfter, hq, h.wr q hlt]
    by_cases hc : 1 ≤ min (fate k) (ofN R.wr q).length
    · rw [if_pos hc, if_pos hc]
      refine ⟨fun i hi => ?_, io.put (by simp) (by rw [h.n]; simpa using hlt) ?_⟩
      · rw [lastOf_put]
        by_cases e : i = q
        · subst e
          rw [if_pos rfl, List.getD_eq_getElem?_getD, List.getElem?_set_self (by rw [AD.laAfter_len]; exact hi)]
          rfl
        · rw [if_neg (by omega), List.getD_eq_getElem?_getD, List.getElem?_set_ne (by omega), ← List.getD_eq_getElem?_getD, ih i hi]
      · have := pickW_mem hc
        unfold ofN at this
        obtain ⟨a, ha, he⟩ := List.mem_map.1 this
        have h3 := (h.wok a (List.mem_filter.1 ha).1).2.2
        rw [he] at h3
        exact h3
    · rw [if_neg hc, if_neg hc]
      exact ⟨ih, io⟩
def RD.crash (R : RD) (ks : List Nat) (fate : Nat → Int) : RD := { R with la := R.laAfter ks fate ks.length, wr := [] }
theorem Rel.crash {D : AD} {R : RD} (h : Rel D R) (fate : Nat → Int) : Rel (D.settle fate) (R.crash D.keys fate) := by
  have hl : (D.settle fate).la.length = D.la.length := AD.laAfter_len D fate _
  obtain ⟨h1, h2⟩ := h.after fate D.keys.length (Nat.le_refl _)
  refine ⟨by rw [hl]; exact h.n, fun i hi => ?_, fun i hi => ?_, h2, fun a ha => by simp [RD.crash] at ha, h.rd, h.wt, h.fl⟩
  · rw [hl] at hi; exact h1 i hi
  · simp [RD.crash, AD.settle, ofN]
/-- The document's Flush. -/
def RD.flushL (la : Ats) (wr : Ats) : Ats := wr.foldl (fun l a => putL l a.1 a.2) la
def RD.flush (R : RD) : RD := { R with la := RD.flushL R.la R.wr, wr := [], fl := R.fl + 1 }
theorem flushL_snoc (la wr : Ats) (a : Int × List Int) : RD.flushL la (wr ++ [a]) = putL (RD.flushL la wr) a.1 a.2 := by simp [RD.flushL]
theorem flushL_last (la wr : Ats) (i : Int) : lastOf (RD.flushL la wr) i = (ofN wr i).getLast?.getD (lastOf la i) := by
  refine snoc_ind (P := fun wr => lastOf (RD.flushL la wr) i = (ofN wr i).getLast?.getD (lastOf la i)) ?_ (fun wr a ih => ?_) wr
  · rfl
  · rw [flushL_snoc, lastOf_put, ofN_append]
    by_cases h : i = a.1
    · subst h; simp [ofN]
    · have : ofN [a] i = [] := by simp [ofN]; omega
      rw [if_neg h, this, List.append_nil, ih]
theorem flushL_ok {n : Nat} {la wr : Ats} (h : AtsOk n la) (k : AtsOk n wr) : AtsOk n (RD.flushL la wr) := by
  revert k
  refine snoc_ind (P := fun wr => AtsOk n wr → AtsOk n (RD.flushL la wr)) (fun _ => h) (fun wr a ih k => ?_) wr
  rw [flushL_snoc]
  have := k a (by simp)
  exact (ih fun b hb => k b (by simp [hb])).put this.1 this.2.1 this.2.2
/-- What lasts behind so many of the sectors. -/
theorem AD.after_in (D : AD) (fate : Nat → Int) : ∀ k, k ≤ D.keys.length → ∀ i, i < D.la.length → (D.laAfter fate k).getD i zsec =
    if i ∈ D.keys.take k then (if 1 ≤ min (fate (D.keys.idxOf i)) (D.wr i).length then pickW (D.wr i) (fate (D.keys.idxOf i)) else D.la.getD i zsec) else D.la.getD i zsec
  | 0, _, i, _ => by simp [AD.laAfter]
  | k + 1, hk, i, hi => by
    have ih := D.after_in fate k (by omega) i hi
    have hkl : k < D.keys.length := by omega
    have hq : D.keys.getD k 0 = D.keys[k] := by rw [List.getD_eq_getElem?_getD, List.getElem?_eq_getElem hkl]; rfl
    have hix : D.keys.idxOf D.keys[k] = k := List.Nodup.idxOf_getElem D.keys_nodup k hkl
    have hnot : D.keys[k] ∉ D.keys.take k := fun hm => by
      obtain ⟨j, hj, e⟩ := List.getElem_of_mem hm
      rw [List.length_take] at hj
      rw [List.getElem_take] at e
      have := (List.getElem_inj (h₀ := (by omega : j < D.keys.length)) (h₁ := hkl) D.keys_nodup).1 e
      omega
    have htk : D.keys.take (k + 1) = D.keys.take k ++ [D.keys[k]] := List.take_succ_eq_append_getElem hkl
    rw [AD.laAfter, hq, htk]
    by_cases e : i = D.keys[k]
    · subst e
      rw [if_pos (List.mem_append.2 (Or.inr (List.mem_singleton.2 rfl))), hix]
      rw [if_neg hnot] at ih
      by_cases hc : 1 ≤ min (fate k) (D.wr D.keys[k]).length
      · rw [if_pos hc, if_pos hc, List.getD_eq_getElem?_getD, List.getElem?_set_self (by rw [AD.laAfter_len]; exact hi)]
        rfl
      · rw [if_neg hc, if_neg hc]; exact ih
    · have hmem : (i ∈ D.keys.take k ++ [D.keys[k]]) ↔ i ∈ D.keys.take k := by rw [List.mem_append, List.mem_singleton]; exact or_iff_left e
      simp only [hmem]
      rw [← ih]
      split
      · rw [List.getD_eq_getElem?_getD, List.getElem?_set_ne (fun h => e h.symm), ← List.getD_eq_getElem?_getD]
      · rfl
theorem AD.settle_at (D : AD) (fate : Nat → Int) {i : Nat} (hi : i < D.la.length) : (D.settle fate).la.getD i zsec =
    if 1 ≤ min (fate (D.keys.idxOf i)) (D.wr i).length then pickW (D.wr i) (fate (D.keys.idxOf i)) else D.la.getD i zsec := by
  have := D.after_in fate D.keys.length (Nat.le_refl _) i hi
  rw [List.take_length] at this
  show (D.laAfter fate D.keys.length).getD i zsec = _
  rw [this]
  by_cases hm : i ∈ D.keys
  · rw [if_pos hm]
  · rw [if_neg hm]
    have h0 : (D.wr i).length = 0 := by
      have : ¬ 0 < (D.wr i).length := fun h => hm (List.mem_filter.2 ⟨by simpa using hi, by simpa using h⟩)
      omega
    rw [if_neg (by rw [h0]; omega)]
def AD.flush (D : AD) : AD := { D.settle (fun _ => 9223372036854775807) with fl := D.fl + 1 }
theorem AD.flush_at (D : AD) {i : Nat} (hi : i < D.la.length) (hw : (D.wr i).length < 9223372036854775807) : D.flush.la.getD i zsec = D.now i := by
  have := D.settle_at (fun _ => 9223372036854775807) hi
  show (D.settle _).la.getD i zsec = _
  rw [this]
  unfold AD.now
  by_cases h0 : 0 < (D.wr i).length
  · rw [if_pos (by omega), List.getLast?_eq_getElem?]
    unfold pickW
    rw [show (min (9223372036854775807 : Int) ((D.wr i).length : Int)).toNat = (D.wr i).length by omega, List.getD_eq_getElem?_getD, List.getElem?_eq_getElem (by omega)]
    rfl
  · have : D.wr i = [] := List.eq_nil_of_length_eq_zero (by omega)
    rw [if_neg (by omega), this]
    rfl
theorem AD.Ok.flush {D : AD} (h : D.Ok) : D.flush.Ok := by
  have := h.settle (fun _ => 9223372036854775807)
  exact ⟨this.lo, this.hi, this.las, this.wrs, this.out⟩
theorem Rel.flush {D : AD} {R : RD} (h : Rel D R) (hw : ∀ i, (D.wr i).length < 9223372036854775807) : Rel D.flush R.flush := by
  have hl : D.flush.la.length = D.la.length := AD.laAfter_len D _ _
  refine ⟨by rw [hl]; exact h.n, fun i hi => ?_, fun i hi => rfl, flushL_ok h.lok h.wok, fun a ha => by simp [RD.flush] at ha, h.rd, h.wt, by simp [RD.flush, AD.flush, h.fl]⟩
  rw [hl] at hi
  rw [AD.flush_at D hi (hw i), ← h.now hi]
  exact (flushL_last R.la R.wr i).symm
end Go.Proofs.YtlaipnjhddnpiaaDoor
