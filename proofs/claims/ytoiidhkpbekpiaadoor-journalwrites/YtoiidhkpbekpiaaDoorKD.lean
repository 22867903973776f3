/- Disks in words: what lasts, what is cached, what the calls make of it; the document's lists; that both tell the same. Flush, Crash, Image and Load in words; the document's. What a replay tells, in plain terms. -/
import Derived.Below
import Derived.Test.YtoiidhkpbekpiaaDoorKB
namespace Go.Proofs.YtoiidhkpbekpiaaDoor

/-- A sector's bytes. -/
def IsSec (s : List Int) : Prop := s.length = 512 ∧ ∀ x ∈ s, 0 ≤ x ∧ x ≤ 255
def zsec : List Int := List.replicate 512 0
theorem zsec_is : IsSec zsec := ⟨List.length_replicate, fun x hx => by have := List.eq_of_mem_replicate hx; omega⟩

/-- A disk: what lasts, the writes since the last Flush, the acts. -/
structure AD where
  la : List (List Int)
  wr : Nat → List (List Int)
  rd : Int
  wt : Int
  fl : Int
def AD.now (D : AD) (i : Nat) : List Int := (D.wr i).getLast?.getD (D.la.getD i zsec)
def updF {α : Type} (f : Nat → α) (i : Nat) (x : α) : Nat → α := fun j => if j = i then x else f j
theorem updF_same {α : Type} (f : Nat → α) (i : Nat) (x : α) : updF f i x i = x := by simp [updF]
theorem updF_other {α : Type} (f : Nat → α) {i j : Nat} (x : α) (h : j ≠ i) : updF f i x j = f j := by simp [updF, h]
/-- Disks that may be. -/
structure AD.Ok (D : AD) : Prop where
  lo : 2 ≤ D.la.length
  hi : D.la.length ≤ 65536
  las : ∀ s ∈ D.la, IsSec s
  wrs : ∀ i, ∀ s ∈ D.wr i, IsSec s
  out : ∀ i, D.la.length ≤ i → D.wr i = []
theorem AD.Ok.now {D : AD} (h : D.Ok) {i : Nat} (hi : i < D.la.length) : IsSec (D.now i) := by
  unfold AD.now
  cases hw : (D.wr i).getLast? with
  | none =>
    simp only [Option.getD_none]
    rw [List.getD_eq_getElem?_getD, List.getElem?_eq_getElem hi]
    exact h.las _ (List.getElem_mem hi)
  | some s => exact h.wrs i s (List.mem_of_getLast? hw)
def AD.read (D : AD) : AD := { D with rd := D.rd + 1 }
def AD.write (D : AD) (i : Nat) (s : List Int) : AD := { D with wr := updF D.wr i (D.wr i ++ [s]), wt := D.wt + 1 }
theorem AD.Ok.read {D : AD} (h : D.Ok) : D.read.Ok := ⟨h.lo, h.hi, h.las, h.wrs, h.out⟩
theorem AD.Ok.write {D : AD} (h : D.Ok) {i : Nat} (hi : i < D.la.length) {s : List Int} (hs : IsSec s) : (D.write i s).Ok := by
  refine ⟨h.lo, h.hi, h.las, fun j t ht => ?_, fun j hj => ?_⟩
  · by_cases e : j = i
    · subst e
      simp only [AD.write, updF_same] at ht
      rcases List.mem_append.1 ht with ht | ht
      · exact h.wrs j t ht
      · rw [List.mem_singleton.1 ht]; exact hs
    · simp only [AD.write, updF_other _ _ e] at ht
      exact h.wrs j t ht
  · have hj' : D.la.length ≤ j := hj
    simp only [AD.write]
    rw [updF_other _ _ (by omega)]
    exact h.out j hj'
end Go.Proofs.YtoiidhkpbekpiaaDoor

namespace Go.Proofs.YtoiidhkpbekpiaaDoor

/-- The sectors that have writes, rising. -/
def AD.keys (D : AD) : List Nat := (List.range D.la.length).filter fun i => decide (0 < (D.wr i).length)
theorem AD.keys_lt {D : AD} {i : Nat} (h : i ∈ D.keys) : i < D.la.length := by simpa using (List.mem_filter.1 h).1
theorem AD.keys_nodup (D : AD) : D.keys.Nodup := List.Pairwise.filter _ List.nodup_range
theorem AD.keys_sorted (D : AD) : D.keys.Pairwise (· < ·) := List.Pairwise.filter _ List.pairwise_lt_range
/-- Which of the writes lasts. -/
def pickW (ws : List (List Int)) (f : Int) : List Int := ws.getD ((min f ws.length).toNat - 1) zsec
def AD.laAfter (D : AD) (fate : Nat → Int) : Nat → List (List Int)
  | 0 => D.la
  | k + 1 => if 1 ≤ min (fate k) (D.wr (D.keys.getD k 0)).length then (D.laAfter fate k).set (D.keys.getD k 0) (pickW (D.wr (D.keys.getD k 0)) (fate k)) else D.laAfter fate k
def AD.settle (D : AD) (fate : Nat → Int) : AD := { D with la := D.laAfter fate D.keys.length, wr := fun _ => [] }
theorem AD.laAfter_len (D : AD) (fate : Nat → Int) : ∀ k, (D.laAfter fate k).length = D.la.length
  | 0 => rfl
  | k + 1 => by
    rw [AD.laAfter]
    split
    · rw [List.length_set, AD.laAfter_len D fate k]
    · exact AD.laAfter_len D fate k
theorem pickW_mem {ws : List (List Int)} {f : Int} (h : 1 ≤ min f ws.length) : pickW ws f ∈ ws := by
  unfold pickW
  have : (min f ws.length).toNat - 1 < ws.length := by omega
  rw [List.getD_eq_getElem?_getD, List.getElem?_eq_getElem this]
  exact List.getElem_mem this
theorem AD.Ok.after {D : AD} (h : D.Ok) (fate : Nat → Int) : ∀ k, ∀ s ∈ D.laAfter fate k, IsSec s
  | 0 => h.las
  | k + 1 => by
    intro s hs
    rw [AD.laAfter] at hs
    split at hs
    · rename_i hc
      rcases List.mem_or_eq_of_mem_set hs with hs | hs
      · exact h.after fate k s hs
      · rw [hs]; exact h.wrs _ _ (pickW_mem hc)
    · exact h.after fate k s hs
theorem AD.Ok.settle {D : AD} (h : D.Ok) (fate : Nat → Int) : (D.settle fate).Ok := by
  have hl : (D.settle fate).la.length = D.la.length := AD.laAfter_len D fate _
  exact ⟨by rw [hl]; exact h.lo, by rw [hl]; exact h.hi, h.after fate _, fun i s hs => by simp [AD.settle] at hs, fun i _ => rfl⟩
/-- What lasts behind so many of the sectors. -/
theorem AD.after_in (D : AD) (fate : Nat → Int) : ∀ k, k ≤ D.keys.length → ∀ i, i < D.la.length → (D.laAfter fate k).getD i zsec =
    if i ∈ D.keys.take k then (if 1 ≤ min (fate (D.keys.idxOf i)) (D.wr i).length then pickW (D.wr i) (fate (D.keys.idxOf i)) else D.la.getD i zsec) else D.la.getD i zsec
  | 0, _, i, _ => by simp [AD.laAfter]
  | k + 1, hk, i, hi => by
    have ih := D.after_in fate k (by omega) i hi
    have hkl : k < D.keys.length := by omega
    have hq : D.keys.getD k 0 = D.keys[k] := by rw [List.getD_eq_getElem?_getD, List.getElem?_eq_getElem hkl]; rfl
    have hix : D.keys.idxOf D.keys[k] = k := List.Nodup.idxOf_getElem D.keys_nodup k hkl
    have hnot : D.keys[k] ∉ D.keys.take k := fun hm => by
      obtain ⟨j, hj, e⟩ := List.getElem_of_mem hm
      rw [List.length_take] at hj
      rw [List.getElem_take] at e
      have := (List.getElem_inj (h₀ := (by omega : j < D.keys.length)) (h₁ := hkl) D.keys_nodup).1 e
      omega
    have htk : D.keys.take (k + 1) = D.keys.take k ++ [D.keys[k]] := List.take_succ_eq_append_getElem hkl
    rw [AD.laAfter, hq, htk]
    by_cases e : i = D.keys[k]
    · subst e
      rw [if_pos (List.mem_append.2 (Or.inr (List.mem_singleton.2 rfl))), hix]
      rw [if_neg hnot] at ih
      by_cases hc : 1 ≤ min (fate k) (D.wr D.keys[k]).length
      · rw [if_pos hc, if_pos hc, List.getD_eq_getElem?_getD, List.getElem?_set_self (by rw [AD.laAfter_len]; exact hi)]
        rfl
      · rw [if_neg hc, if_neg hc]; exact ih
    · have hmem : (i ∈ D.keys.take k ++ [D.keys[k]]) ↔ i ∈ D.keys.take k := by rw [List.mem_append, List.mem_singleton]; exact or_iff_left e
      simp only [hmem]
      rw [← ih]
      split
      · rw [List.getD_eq_getElem?_getD, List.getElem?_set_ne (fun h => e h.symm), ← List.getD_eq_getElem?_getD]
      · rfl
theorem AD.settle_at (D : AD) (fate : Nat → Int) {i : Nat} (hi : i < D.la.length) : (D.settle fate).la.getD i zsec =
    if 1 ≤ min (fate (D.keys.idxOf i)) (D.wr i).length then pickW (D.wr i) (fate (D.keys.idxOf i)) else D.la.getD i zsec := by
  have := D.after_in fate D.keys.length (Nat.le_refl _) i hi
  rw [List.take_length] at this
  show (D.laAfter fate D.keys.length).getD i zsec = _
  rw [this]
  by_cases hm : i ∈ D.keys
  · rw [if_pos hm]
  · rw [if_neg hm]
    have h0 : (D.wr i).length = 0 := by
      have : ¬ 0 < (D.wr i).length := fun h => hm (List.mem_filter.2 ⟨by simpa using hi, by simpa using h⟩)
      omega
    rw [if_neg (by rw [h0]; omega)]
def AD.flush (D : AD) : AD := { D.settle (fun _ => 9223372036854775807) with fl := D.fl + 1 }
theorem AD.flush_at (D : AD) {i : Nat} (hi : i < D.la.length) (hw : (D.wr i).length < 9223372036854775807) : D.flush.la.getD i zsec = D.now i := by
  have := D.settle_at (fun _ => 9223372036854775807) hi
  show (D.settle _).la.getD i zsec = _
  rw [this]
  unfold AD.now
  by_cases h0 : 0 < (D.wr i).length
  · rw [if_pos (by omega), List.getLast?_eq_getElem?]
    unfold pickW
    rw [show (min (9223372036854775807 : Int) ((D.wr i).length : Int)).toNat = (D.wr i).length by omega, List.getD_eq_getElem?_getD, List.getElem?_eq_getElem (by omega)]
    rfl
  · have : D.wr i = [] := List.eq_nil_of_length_eq_zero (by omega)
    rw [if_neg (by omega), this]
    rfl
theorem AD.Ok.flush {D : AD} (h : D.Ok) : D.flush.Ok := by
  have := h.settle (fun _ => 9223372036854775807)
  exact ⟨this.lo, this.hi, this.las, this.wrs, this.out⟩
end Go.Proofs.YtoiidhkpbekpiaaDoor

namespace Go.Proofs.YtoiidhkpbekpiaaDoor
open Go.RowKit

/-- A sector is that number's record. -/
def recAt (N : Nat → List Int) (fr n s : Nat) : Option JR := (decO (N (fr + s % n))).bind fun r => if r.n = (s : Int) then some r else none
/-- The records from a number on, k of them at most. -/
def repL (N : Nat → List Int) (fr n : Nat) : Nat → Nat → List JR
  | 0, _ => []
  | k + 1, s => match recAt N fr n s with
    | some r => r :: repL N fr n k (s + 1)
    | none => []
theorem repL_none {N : Nat → List Int} {fr n k s : Nat} (h : recAt N fr n s = none) : repL N fr n k s = [] := by
  cases k with
  | zero => rfl
  | succ k => simp [repL, h]
theorem repL_some {N : Nat → List Int} {fr n k s : Nat} {r : JR} (h : recAt N fr n s = some r) : repL N fr n (k + 1) s = r :: repL N fr n k (s + 1) := by simp [repL, h]
theorem repL_len (N : Nat → List Int) (fr n : Nat) : ∀ k s, (repL N fr n k s).length ≤ k
  | 0, _ => by simp [repL]
  | k + 1, s => by
    cases h : recAt N fr n s with
    | none => rw [repL_none h]; simp
    | some r => rw [repL_some h, List.length_cons]; have := repL_len N fr n k (s + 1); omega
theorem recAt_of {N : Nat → List Int} {fr n s : Nat} {r : JR} (h : decO (N (fr + s % n)) = some r) (e : r.n = (s : Int)) : recAt N fr n s = some r := by
  unfold recAt; rw [h]; simp [e]
theorem recAt_no {N : Nat → List Int} {fr n s : Nat} (h : decO (N (fr + s % n)) = none) : recAt N fr n s = none := by
  unfold recAt; rw [h]; rfl
/-- So many stand there, and the next does not. -/
theorem repL_is {N : Nat → List Int} {fr n : Nat} : ∀ (l : List JR) (k s : Nat), l.length ≤ k → (∀ j, j < l.length → recAt N fr n (s + j) = some (l.getD j .nul)) → (l.length < k → recAt N fr n (s + l.length) = none) → repL N fr n k s = l
  | [], k, s, _, _, h2 => by
    cases k with
    | zero => rfl
    | succ k => exact repL_none (h2 (by simp))
  | r :: l, k, s, hk, h1, h2 => by
    cases k with
    | zero => simp at hk
    | succ k =>
      have h0 := h1 0 (by simp)
      rw [Nat.add_zero] at h0
      rw [repL_some h0, repL_is l k (s + 1) (by simpa using hk) (fun j hj => by
        have := h1 (j + 1) (by simpa using hj)
        rw [show s + 1 + j = s + (j + 1) by omega, this]
        rfl) (fun hl => by
        have := h2 (by simpa using hl)
        rw [List.length_cons] at this
        rw [show s + 1 + l.length = s + (l.length + 1) by omega]
        exact this)]
      rfl
theorem zsec_none : decO zsec = none := by
  refine dec_cnt zsec_is.2 zsec_is.1 (Or.inl ?_)
  have h : zsec[44]? = some 0 := by
    unfold zsec
    rw [List.getElem?_replicate, if_pos (by decide)]
  rw [List.getD_eq_getElem?_getD, h]
  decide
theorem short_none {b : List Int} (h : b.length ≠ 512) : decO b = none := dec_no fun hc => h hc.1
/-- A disk that was read so often. -/
def AD.rds (D : AD) (m : Nat) : AD := { D with rd := D.rd + m }
theorem AD.rds_zero (D : AD) : D.rds 0 = D := by
  unfold AD.rds
  simp
theorem AD.rds_one (D : AD) (m : Nat) : (D.rds m).read = D.rds (m + 1) := by
  unfold AD.rds AD.read
  simp [Int.add_assoc]
theorem AD.rds_now (D : AD) (m i : Nat) : (D.rds m).now i = D.now i := rfl
end Go.Proofs.YtoiidhkpbekpiaaDoor
