/- Turns of several disks; writes one behind the other; a crash of a turned disk. -/
import Derived.Test.YtfgjhlnaaopdeabOtO
namespace Go.Proofs.Ytfgjhlnaaopdeab
open Go.RowKit Go.Maps

theorem dka_turn {A : Nat → Prop} {w wr : World} {B n k i bit p : Nat} {P G : Nat → Nat} {D : Nat → AD} (h : Dka A w wr B n P G D) (hk : k < n) (hp : P k = p) (hi : i < (D k).la.length) (hb : bit < 4096) (hB : B ≤ 1000000000) :
    Calls Try.prog 18 #[.pointer (some ⟨p, 0, none⟩), .int .i64 (i : Int), .int .i64 (bit : Int)] wr fun e w' => e = .returned (.int .i64 0) ∧ Dka A w w' B n P G (updF D k ((D k).turn i bit)) ∧ Km wr w' := by
  subst hp
  obtain ⟨gm, V, h1, h2, h3⟩ := h.all
  have hf := h.few k hk
  refine (turn_good (h1 k hk) hi hb (by have := hf.wr i; omega)).mono ?_
  rintro e w' ⟨rfl, hd, hu⟩
  exact ⟨rfl, Dka.upd hk h1 h2 h3 h.few h.kp h.lt hd hu (fun b hb => Or.inl hb) (hf.turn i bit)⟩
theorem dka_acts {A : Nat → Prop} {w wr : World} {B n k p : Nat} {P G : Nat → Nat} {D : Nat → AD} (h : Dka A w wr B n P G D) (hk : k < n) (hp : P k = p) :
    Calls Try.prog 22 #[.pointer (some ⟨p, 0, none⟩)] wr fun e w' => e = .returned (.agg #[.int .i64 (D k).rd, .int .i64 (D k).wt, .int .i64 (D k).fl]) ∧ Below wr.heap.size wr w' := by
  subst hp
  obtain ⟨gm, V, h1, _⟩ := h.all
  obtain ⟨_, _, d2, d3, d4⟩ := (h1 k hk).cells
  exact acts_calls d2 d3 d4
/-- A reading whose bytes are not touched from then on. -/
theorem dka_readP {A : Nat → Prop} {w wr : World} {B n k i p : Nat} {P G : Nat → Nat} {D : Nat → AD} (h : Dka A w wr B n P G D) (hk : k < n) (hp : P k = p) (hi : i < (D k).la.length) (hB : B ≤ 1000000000) :
    Calls Try.prog 20 #[.pointer (some ⟨p, 0, none⟩), .int .i64 (i : Int)] wr fun e w' => ∃ g, e = .returned (.tuple #[.slice (some ⟨g, 0, none⟩) 512 512, .int .i64 0]) ∧
      Plus A wr w' g ∧ Arr w' g 77 (u8V ((D k).now i)) ∧ Dka (Plus A wr w') w' w' (B + 1) n P G (updF D k ((D k).reads 1)) ∧ Up (fun b => ¬ A b) wr w' ∧ Km wr w' := by
  subst hp
  obtain ⟨gm, V, h1, h2, h3⟩ := h.all
  have hf := h.few k hk
  refine (read_calls (h1 k hk) hi hf.rd.1 (by have := hf.rd; omega)).mono ?_
  rintro e w' ⟨g, rfl, hg, hA, hd, hgr⟩
  have hd' : Dk w' (P k) (G k) (gm k) (V k) ((D k).reads 1) := hd
  have hu : Up (Ft (P k) (G k) (gm k) (V k)) wr w' := Up.of_grown hgr (fun g hg => Or.inl (Option.some.inj hg).symm)
  obtain ⟨hD, hK⟩ := Dka.upd (A := A) hk h1 h2 h3 (fun j hj => (h.few j hj).mono (show B ≤ B + 1 by omega)) h.kp h.lt hd' hu (fun b hb => Or.inl hb) (hf.reads 1)
  have hlt : ∀ j, j < n → ∀ b, Ft (P j) (G j) (gm j) (V j) b → b < wr.heap.size := fun j hj b hb => (h1 j hj).lt hb
  refine ⟨g, rfl, Or.inr ⟨hg, hA.lt⟩, hA, ⟨⟨gm, V, fun j hj => ?_, fun j hj b hb hPl => ?_, h3⟩, hD.few, Up.refl _ _, fun b hPl => ?_⟩, ⟨hu.os, hu.tape, hu.output, hu.size, fun b hb hA' => hu.block b hb (fun hF => hA' (h2 k hk b hF))⟩, hK⟩
  · by_cases e : j = k
    · subst e; simp only [updF_same]; exact hd'
    · simp only [updF_other _ _ e]
      exact (h1 j hj).up hu (fun b hb => h3 j k hj hk e b hb)
  · rcases hPl with hPl | hPl
    · exact h2 j hj b hb hPl
    · have := hlt j hj b hb; omega
  · rcases hPl with hPl | hPl
    · exact Nat.lt_of_lt_of_le (h.lt b hPl) hu.size
    · exact hPl.2
/-- Writes one behind the other. -/
def wrote (D : AD) (L : Ats) : AD := L.foldl (fun D a => D.write a.1.toNat a.2) D
theorem wrote_snoc (D : AD) (L : Ats) (i : Nat) (s : List Int) : wrote D (L ++ [((i : Int), s)]) = (wrote D L).write i s := by simp [wrote]
theorem wrote_len (D : AD) (L : Ats) : (wrote D L).la.length = D.la.length := by
  refine snoc_ind (P := fun L => (wrote D L).la.length = D.la.length) rfl (fun L a ih => ?_) L
  unfold wrote at ih ⊢
  rw [List.foldl_append]
  exact ih
/-- A crash of a disk with a bit turned over. -/
theorem turn_keys (D : AD) (i bit : Nat) : (D.turn i bit).keys = D.keys := by
  unfold AD.keys
  have hl : (D.turn i bit).la.length = D.la.length := by simp [AD.turn]
  rw [hl]
  apply List.filter_congr
  intro j _
  by_cases e : j = i
  · subst e; simp [AD.turn, updF_same]
  · simp [AD.turn, updF_other _ _ e]
theorem turn_settle {D : AD} {i bit : Nat} (hi : i < D.la.length) (fate : Nat → Int) : ((D.turn i bit).settle fate).now i = turnB ((D.settle fate).now i) bit := by
  have hl : (D.turn i bit).la.length = D.la.length := by simp [AD.turn]
  rw [now_empty (fun _ => rfl), now_empty (fun _ => rfl), AD.settle_at _ fate (by rw [hl]; exact hi), AD.settle_at D fate hi, turn_keys]
  have hw : (D.turn i bit).wr i = (D.wr i).map (turnB · bit) := by simp [AD.turn, updF_same]
  have hlw : ((D.turn i bit).wr i).length = (D.wr i).length := by rw [hw, List.length_map]
  have hla : (D.turn i bit).la.getD i zsec = turnB (D.la.getD i zsec) bit := by
    show (D.la.set i (turnB (D.la.getD i zsec) bit)).getD i zsec = _
    rw [List.getD_eq_getElem?_getD, List.getElem?_set_self hi]; rfl
  rw [hlw]
  by_cases hc : 1 ≤ min (fate (D.keys.idxOf i)) (D.wr i).length
  · rw [if_pos hc, if_pos hc]
    unfold pickW
    rw [hlw, hw]
    have hlt : (min (fate (D.keys.idxOf i)) ((D.wr i).length : Int)).toNat - 1 < (D.wr i).length := by omega
    rw [List.getD_eq_getElem?_getD, List.getElem?_map, List.getElem?_eq_getElem hlt, List.getD_eq_getElem?_getD, List.getElem?_eq_getElem hlt]
    rfl
  · rw [if_neg hc, if_neg hc, hla]
theorem turn_now {D : AD} {i bit : Nat} (hi : i < D.la.length) : (D.turn i bit).now i = turnB (D.now i) bit := by
  unfold AD.now
  have hw : (D.turn i bit).wr i = (D.wr i).map (turnB · bit) := by simp [AD.turn, updF_same]
  have hla : (D.turn i bit).la.getD i zsec = turnB (D.la.getD i zsec) bit := by
    show (D.la.set i (turnB (D.la.getD i zsec) bit)).getD i zsec = _
    rw [List.getD_eq_getElem?_getD, List.getElem?_set_self hi]; rfl
  rw [hw, hla, List.getLast?_map]
  cases (D.wr i).getLast? <;> rfl
theorem turn_la (D : AD) (i j bit : Nat) (hi : i < D.la.length) : (D.turn i bit).la.getD j zsec = if j = i then turnB (D.la.getD i zsec) bit else D.la.getD j zsec := by
  show (D.la.set i (turnB (D.la.getD i zsec) bit)).getD j zsec = _
  by_cases e : j = i
  · subst e
    rw [if_pos rfl, List.getD_eq_getElem?_getD, List.getElem?_set_self hi]; rfl
  · rw [if_neg e, List.getD_eq_getElem?_getD, List.getElem?_set_ne (fun h => e h.symm), ← List.getD_eq_getElem?_getD]
theorem turn_back {D : AD} (hok : D.Ok) {i bit : Nat} (hi : i < D.la.length) (hb : bit < 4096) : ((D.turn i bit).turn i bit).la = D.la ∧ ((D.turn i bit).turn i bit).now i = D.now i := by
  have hl : (D.turn i bit).la.length = D.la.length := by simp [AD.turn]
  have hs : IsSec (D.la.getD i zsec) := by rw [List.getD_eq_getElem?_getD, List.getElem?_eq_getElem hi]; exact hok.las _ (List.getElem_mem hi)
  refine ⟨?_, by rw [turn_now (by rw [hl]; exact hi), turn_now hi, turnB_back (hok.now hi) hb]⟩
  show ((D.turn i bit).la.set i (turnB ((D.turn i bit).la.getD i zsec) bit)) = D.la
  rw [turn_la D i i bit hi, if_pos rfl, turnB_back hs hb]
  show (D.la.set i (turnB (D.la.getD i zsec) bit)).set i (D.la.getD i zsec) = D.la
  rw [List.set_set, List.getD_eq_getElem?_getD, List.getElem?_eq_getElem hi, Option.getD_some, List.set_getElem_self]
end Go.Proofs.Ytfgjhlnaaopdeab
