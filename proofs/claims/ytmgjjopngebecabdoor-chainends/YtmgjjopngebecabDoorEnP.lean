/- 6.11, in plain words: what a reading comes to, whatever lies there. -/
import Derived.Test.YtmgjjopngebecabDoorRK
import Derived.Test.YtmgjjopngebecabDoorSG
namespace Go.Proofs.YtmgjjopngebecabDoor
open Go.RowKit Go.Maps

/-- Where a reading stands that goes on. -/
structure Ri (fr to_ : Nat) (le : Int) (S : RS) : Prop where
  nod : (S.ns ++ [S.nx]).Nodup
  rng : ∀ x ∈ S.ns ++ [S.nx], fr ≤ x ∧ x < to_
  wl : S.ws.length = (to_ - fr + 63) / 64
  has : ∀ y : Nat, hasB fr to_ S.ws (y : Int) = true → y ∉ S.ns ++ [S.nx]
  by_ : (S.by_.length : Int) = min (480 * (S.ns.length : Int)) le
/-- Where a reading stands that has ended. -/
structure Re (fr to_ : Nat) (hs : List Int) (fi le : Int) (S : RS) : Prop where
  nod : S.ns.Nodup
  rng : ∀ x ∈ S.ns, fr ≤ x ∧ x < to_
  pos : 1 ≤ S.ns.length
  bad : S.br ≠ 0 → S.by_ = [] ∧ (S.br = fi ∨ S.br = ((S.ns.getD (S.ns.length - 1) 0 : Nat) : Int))
  good : S.br = 0 → (S.ns.length : Int) = secN le → (S.by_.length : Int) = le ∧ shaOf S.by_ = hs
theorem has_range {fr to_ : Nat} {ws : List Nat} {n : Int} (h : hasB fr to_ ws n = true) : (fr : Int) ≤ n ∧ n < (to_ : Int) := by
  unfold hasB at h
  simp only [Bool.and_eq_true, decide_eq_true_eq] at h
  exact h.1
theorem ri_begin {fr to_ fi : Nat} {le : Int} (h : fr ≤ fi ∧ fi < to_) (hle : 0 ≤ le) : Ri fr to_ le ⟨[], claimW fr to_ (newW (to_ - fr)) (fi : Int), fi, [], 0⟩ := by
  refine ⟨by simp, fun x hx => ?_, by rw [claimW_len, newW_len (by omega)], fun y hy hm => ?_, ?_⟩
  · have e : x = fi := by simpa using hx
    subst e
    exact h
  · have e : y = fi := by simpa using hm
    subst e
    rw [has_claim_self (newW_len (by omega))] at hy
    cases hy
  · show ((0 : Nat) : Int) = min (480 * ((0 : Nat) : Int)) le
    omega
theorem part_len {b hs : List Int} {le : Int} {fr to_ : Nat} {S : RS} (hf : fits b hs le fr to_ S) (hns : (S.ns.length : Int) < secN le) : ((partOf b le S.ns.length).length : Int) = cntI le (S.ns.length : Int) := by
  obtain ⟨⟨hl, _⟩, _⟩ := hf
  have hc := cnt_ok (le := le) (place := (S.ns.length : Int)) (by omega) hns
  unfold partOf
  rw [List.length_take, List.length_drop, hl]
  omega
theorem by_next {b hs : List Int} {le : Int} {fr to_ : Nat} {S : RS} (h : Ri fr to_ le S) (hf : fits b hs le fr to_ S) (hns : (S.ns.length : Int) < secN le) : ((S.by_ ++ partOf b le S.ns.length).length : Int) = min (480 * ((S.ns.length : Int) + 1)) le := by
  have h1 := part_len hf hns
  have h2 := h.by_
  have h3 := cnt_ok (le := le) (place := (S.ns.length : Int)) (by omega) hns
  rw [List.length_append]
  unfold cntI at h1 h3
  omega
theorem sec_end {le : Int} {n : Int} (h : n = secN le) (h0 : 0 < n) : min (480 * n) le = le := by
  unfold secN at h
  split at h
  · omega
  · split at h <;> omega
/-- One sector more, and it goes on. -/
theorem Ri.step {b hs : List Int} {fi le : Int} {fr to_ : Nat} {S : RS} (h : Ri fr to_ le S) (hns : (S.ns.length : Int) < secN le) (hnx : (S.nx : Int) ≠ 0) (h0 : (readS b hs fi le fr to_ S).br = 0) (hl : ((readS b hs fi le fr to_ S).ns.length : Int) ≠ secN le) : Ri fr to_ le (readS b hs fi le fr to_ S) := by
  rw [readS_ns, List.length_append, List.length_singleton] at hl
  have hl' : ¬ (S.ns.length : Int) + 1 = secN le := fun e => hl (by omega)
  unfold readS at h0 ⊢
  split at h0
  · rename_i hf
    rw [if_pos hf, if_neg (fun hc => hl' hc.1)]
    have hh : hasB fr to_ S.ws (leN (b.take 4)) = true := hf.2.resolve_left hl'
    have hr := has_range hh
    obtain ⟨nm, hnm⟩ : ∃ nm : Nat, leN (b.take 4) = (nm : Int) := ⟨(leN (b.take 4)).toNat, by omega⟩
    rw [hnm] at hh hr
    have hnot := h.has nm hh
    have hby := by_next h hf hns
    unfold goneOn
    rw [if_neg hl', hnm, Int.toNat_natCast]
    refine ⟨?_, fun x hx => ?_, by rw [claimW_len]; exact h.wl, fun y hy hm => ?_, ?_⟩
    · show ((S.ns ++ [S.nx]) ++ [nm]).Nodup
      rw [List.nodup_append]
      refine ⟨h.nod, by simp, fun x hx y hy e => ?_⟩
      have e2 : y = nm := by simpa using hy
      subst e2
      exact hnot (e ▸ hx)
    · rcases List.mem_append.1 hx with hx | hx
      · exact h.rng x hx
      · have e : x = nm := by simpa using hx
        subst e
        omega
    · have hy' : hasB fr to_ (claimW fr to_ S.ws (nm : Int)) (y : Int) = true := hy
      rcases List.mem_append.1 hm with hm | hm
      · by_cases e : y = nm
        · subst e
          exact hnot hm
        · rw [has_claim h.wl _ _ (by omega)] at hy'
          exact h.has y hy' hm
      · have e : y = nm := by simpa using hm
        subst e
        rw [has_claim_self h.wl] at hy'
        cases hy'
    · show ((S.by_ ++ partOf b le S.ns.length).length : Int) = min (480 * (((S.ns ++ [S.nx]).length : Nat) : Int)) le
      rw [hby, List.length_append, List.length_singleton]
      congr 2
  · exact absurd h0 hnx
/-- One sector more, and it has ended. -/
theorem Ri.last {b hs : List Int} {fi le : Int} {fr to_ : Nat} {S : RS} (h : Ri fr to_ le S) (hns : (S.ns.length : Int) < secN le) (hnx : (S.nx : Int) ≠ 0) (hfi : fi ≠ 0) : Re fr to_ hs fi le (readS b hs fi le fr to_ S) := by
  refine ⟨by rw [readS_ns]; exact h.nod, by rw [readS_ns]; exact h.rng, by rw [readS_ns]; simp, fun hb => ⟨readS_broken hb, ?_⟩, fun h0 he => ?_⟩
  · rw [readS_ns, List.length_append, List.length_singleton, Nat.add_sub_cancel, List.getD_eq_getElem?_getD, List.getElem?_append_right (Nat.le_refl _), Nat.sub_self, List.getElem?_cons_zero, Option.getD_some]
    unfold readS at hb ⊢
    split
    · rename_i hf
      rw [if_pos hf] at hb
      split
      · exact Or.inl rfl
      · rename_i hc
        rw [if_neg hc] at hb
        exact absurd rfl hb
    · exact Or.inr rfl
  · rw [readS_ns, List.length_append, List.length_singleton] at he
    have he' : (S.ns.length : Int) + 1 = secN le := by omega
    unfold readS at h0 ⊢
    split at h0
    · rename_i hf
      rw [if_pos hf]
      by_cases hc : (S.ns.length : Int) + 1 = secN le ∧ shaOf (S.by_ ++ partOf b le S.ns.length) ≠ hs
      · rw [if_pos hc] at h0 ⊢
        exact absurd h0 hfi
      · rw [if_neg hc]
        have hby := by_next h hf hns
        rw [sec_end he' (by omega)] at hby
        exact ⟨hby, Decidable.byContradiction fun hne => hc ⟨he', hne⟩⟩
    · exact absurd h0 hnx
end Go.Proofs.YtmgjjopngebecabDoor
