/- TokenLent: lists of tokens that lie beside one another, and what is held against them. -/
import Derived.Test.YtcdilcjgmcamcabTkMk
import Derived.Test.YtcdilcjgmcamcabTkV3
namespace Go.Proofs.Ytcdilcjgmcamcab
open Go.RowKit Go.Maps Classical

/-- The value is a slice of texts; in this world it reads the list. -/
def IsS (w : World) (v : Value) (l : List ByteArray) : Prop :=
  ∃ a c, v = .slice a l.length c ∧ l.length ≤ c ∧ c ≤ 9223372036854775807 ∧ (a = none → c = 0) ∧ (0 < l.length → ∃ b o, a = some ⟨b, o, none⟩ ∧ ∀ j, j < l.length → w.cell? ⟨b, o + j, none⟩ = some (.string (l.getD j default)))
theorem IsS.below {w w' : World} {v : Value} {l : List ByteArray} (h : IsS w v l) (hb : Below w.heap.size w w') : IsS w' v l := by
  obtain ⟨a, c, hv, hl, hm, hz, hc⟩ := h
  refine ⟨a, c, hv, hl, hm, hz, fun hp => ?_⟩
  obtain ⟨b, o, ha, hcell⟩ := hc hp
  exact ⟨b, o, ha, fun j hj => (hb.cell (p := ⟨b, o + j, none⟩) (World.block_lt_of_cell? w _ (hcell j hj))).trans (hcell j hj)⟩
theorem IsS.nil (w : World) : IsS w (.slice none 0 0) [] := ⟨none, 0, rfl, Nat.le_refl _, by decide, fun _ => rfl, fun h => absurd h (by simp)⟩
theorem row_below {w w' : World} {B : Nat} {t : TypeId} {v : Value} {xs : List Value} (h : Row w B t v xs) (hb : Below w.heap.size w w') : Row w' B t v xs := h.grown ⟨hb.os, hb.tape, hb.output, hb.size, fun k hk _ => hb.block k hk⟩
/-- A byte adds two tokens at most. -/
theorem gap_len (o : List Tok) (n p b : Nat) (md : Md) (c : UInt8) : (gapS ⟨o, n, p, b, md⟩ c).out.length ≤ o.length + 1 := by
  unfold gapS endS addS
  repeat' split
  all_goals simp
theorem stp_len (s : St) (c : UInt8) : (stp s c).out.length ≤ s.out.length + 2 := by
  obtain ⟨o, n, p, b, md⟩ := s
  cases md using Md.split with
  | gap => have := gap_len o n p b .gap c; show (gapS _ c).out.length ≤ o.length + 2; omega
  | rem =>
    show (if c.toNat = 10 then endS _ else _ : St).out.length ≤ o.length + 2
    split
    · simp [endS]
    · simp
  | word fr acc =>
    show (wordS _ fr acc c).out.length ≤ o.length + 2
    unfold wordS
    repeat' split
    · simp
    · simp
    · have := gap_len (o ++ [⟨(1 : Nat), bs acc, n, fr⟩]) n p p .gap c
      rw [List.length_append] at this
      exact this
  | lit fr acc =>
    show (litS _ fr acc c).out.length ≤ o.length + 2
    unfold litS addS
    repeat' split
    all_goals simp
  | esc fr acc =>
    show (escS _ fr acc c).out.length ≤ o.length + 2
    unfold escS
    repeat' split
    all_goals simp
  | hx fr acc =>
    show (hxS _ fr acc c).out.length ≤ o.length + 2
    unfold hxS
    split
    all_goals simp
  | hy fr acc hh =>
    show (hyS _ fr acc hh c).out.length ≤ o.length + 2
    unfold hyS
    split
    all_goals simp
  | bad e => show o.length ≤ o.length + 2; omega
theorem run_len : ∀ (l : List UInt8) (s : St), (run s l).out.length ≤ s.out.length + 2 * l.length
  | [], s => Nat.le_refl _
  | c :: l, s => by
    have h1 := run_len l (stp s c)
    have h2 := stp_len s c
    rw [run_cons, List.length_cons]; omega
theorem tokL_len (t : List UInt8) : (tokL t).1.length ≤ 2 * t.length + 2 := by
  unfold tokL
  split
  · simp
  · have h1 := run_len t st0
    have h0 : st0.out.length = 0 := rfl
    have h2 : (fin (run st0 t)).out.length ≤ (run st0 t).out.length + 2 := by
      generalize run st0 t = s
      have h3 := stp_len s 10
      obtain ⟨o, n, p, b, md⟩ := s
      cases md using Md.split with
      | gap =>
        show (if p = 0 then _ else endS _ : St).out.length ≤ _
        split
        · exact Nat.le_add_right _ _
        · simp [endS]
      | rem => exact h3
      | word fr acc => exact h3
      | lit fr acc => exact h3
      | esc fr acc => exact h3
      | hx fr acc => exact h3
      | hy fr acc hh => exact h3
      | bad e => exact h3
    have h4 : (res (fin (run st0 t))).1.length ≤ (fin (run st0 t)).out.length := by
      generalize fin (run st0 t) = s
      obtain ⟨o, n, p, b, md⟩ := s
      cases md using Md.split with
      | gap => exact Nat.le_refl _
      | rem => exact Nat.le_refl _
      | word fr acc => exact Nat.le_refl _
      | lit fr acc => exact Nat.le_refl _
      | esc fr acc => exact Nat.le_refl _
      | hx fr acc => exact Nat.le_refl _
      | hy fr acc hh => exact Nat.le_refl _
      | bad e => exact Nat.zero_le _
    omega
section
variable {ops : Array Oper} {rest : List Oper} {o : Oper} {a : Act} {Q : Exit → Act → World → Prop} {w : World} {K : Act → World → Prop}
/-- One list appended to a row of lists, and where it lies then. -/
theorem wpList_appL (hgd : o.guard = none) (x y : Operand) (ho : o.op = .call { callee := .builtin .append, args := #[x, y], argTypes := #[43, 43] }) {B g : Nat} {v u : Value} {us : List Value} (hx : a.eval x = v) (hrow : Row w B 22 v us) (hy : a.eval y = .slice (some ⟨g, 0, none⟩) 1 1)
    (hc : w.cell? ⟨g, 0, none⟩ = some u) (h1 : u.oneCell' = true) (hl : us.length ≤ 1000000) (hB : B ≤ w.heap.size)
    (hk : ∀ v' w', Row w' B 22 v' (us ++ [u]) → w.grownBy w' v.ownBlock → (v'.ownBlock = v.ownBlock ∨ v'.ownBlock = some w.heap.size) → wpList Try.prog ops Q rest (a.put o.dst v') w') : wpList Try.prog ops Q (o :: rest) a w := by
  obtain ⟨i0, hi, hz0, hz1, hz2⟩ := info_parts infoLt
  obtain ⟨v', w', hr, h2, h3, h4, h5⟩ := run_append_share (P := Try.prog) w B 43 o.type 22 i0 (.slice none 0 0) 24 Try.underlying43 hi hz0 hz1 hz2 rfl v us hrow ⟨g, 0, none⟩ 1 1 [u] rfl (fun j z hu => by
    cases j with
    | zero =>
      injection hu with hu
      subst hu
      exact hc
    | succ j => simp at hu) (fun z hz => by rw [List.mem_singleton.1 hz]; exact h1) (by unfold maxLen; omega) (by omega) hB
  refine wpList_plain hgd fun K hK => ?_
  unfold Oper.wp execOp
  simp only [ho, resolve, invoke, builtin, Sem.run_bind, Sem.run_pure, Result.andThen_ok, List.map_toArray, List.map_cons, List.map_nil, hx, hy, hr]
  exact hK _ _ (hk v' w' h2 h3 h4)
end
/-- nl lists and nw of what is held against them. -/
structure Lp (w wr : World) (nl nw : Nat) (vl vw : Value) (us ws : List Value) (U : Nat → Value) (X : Nat → List Tok) : Prop where
  bel : Below w.heap.size w wr
  rl : Row wr w.heap.size 22 vl us
  rw' : Row wr w.heap.size 22 vw ws
  ap : ∀ k, vl.ownBlock = some k → vw.ownBlock ≠ some k
  lu : us.length = nl
  lw : ws.length = nw
  le : nw ≤ nl
  each : ∀ k, k < nl → us[k]? = some (U k)
  rows : ∀ k, k < nl → OwnT wr w.heap.size (U k) (X k)
  apart : ∀ j k, j < nl → k < nl → j ≠ k → (U j).ownBlock = none ∨ (U j).ownBlock ≠ (U k).ownBlock
  wants : ∀ k, k < nw → ∃ u, ws[k]? = some u ∧ OwnT wr w.heap.size u (X k)
  len : ∀ k, k < nl → (X k).length ≤ 10000
theorem Lp.nil (w : World) (hb : Below w.heap.size w w) : Lp w w 0 0 (.slice none 0 0) (.slice none 0 0) [] [] (fun _ => undef) (fun _ => []) :=
  ⟨hb, Row.nil _ _ _, Row.nil _ _ _, fun k h => by simp [Value.ownBlock] at h, rfl, rfl, Nat.le_refl _, fun k hk => by omega, fun k hk => by omega, fun j k hj => by omega, fun k hk => by omega, fun k hk => by omega⟩
theorem Lp.below {w wr w' : World} {nl nw : Nat} {vl vw : Value} {us ws : List Value} {U : Nat → Value} {X : Nat → List Tok} (h : Lp w wr nl nw vl vw us ws U X) (hb : Below wr.heap.size wr w') : Lp w w' nl nw vl vw us ws U X :=
  ⟨h.bel.trans (hb.mono h.bel.size), row_below h.rl hb, row_below h.rw' hb, h.ap, h.lu, h.lw, h.le, h.each, fun k hk => (h.rows k hk).below hb, h.apart, fun k hk => by
    obtain ⟨u, h1, h2⟩ := h.wants k hk
    exact ⟨u, h1, h2.below hb⟩, h.len⟩
/-- What changes but the list of lists. -/
theorem Lp.addL {w wr w1 w2 w3 : World} {n : Nat} {vl vl' vw l : Value} {us ws : List Value} {U : Nat → Value} {X : Nat → List Tok} {xs : List Tok} (h : Lp w wr n n vl vw us ws U X) (hb1 : Below wr.heap.size wr w1) (hr1 : OwnT w1 wr.heap.size l xs) (hxs : xs.length ≤ 10000) (hb2 : Below w1.heap.size w1 w2)
    (hr3 : Row w3 w.heap.size 22 vl' (us ++ [l])) (hg3 : w2.grownBy w3 vl.ownBlock) (hat : vl'.ownBlock = vl.ownBlock ∨ vl'.ownBlock = some w2.heap.size) : Lp w w3 (n + 1) n vl' vw (us ++ [l]) ws (upd U n l) (upd X n xs) := by
  have h2 : Lp w w2 n n vl vw us ws U X := (h.below hb1).below hb2
  have hr2 : OwnT w2 wr.heap.size l xs := hr1.below hb2
  have hk : ∀ {B : Nat} {v : Value} {ys : List Tok}, OwnT w2 B v ys → OwnT w3 B v ys := fun hr => hr.kept hg3 (hr.apart h2.rl (by decide))
  have hwl : w.heap.size ≤ wr.heap.size := h.bel.size
  refine ⟨h2.bel.grown hg3 h2.bel.size (fun k hk => (h2.rl.lt k hk).1), hr3, h2.rw'.kept hg3 ?_, fun k h1 h3 => ?_, by rw [List.length_append, h.lu]; rfl, h.lw, by omega, fun k hk => ?_, fun k hk' => ?_, fun j k hj hk' hne => ?_, fun k hk' => ?_, fun k hk' => ?_⟩
  · cases hv : vw.ownBlock with
    | none => exact Or.inl rfl
    | some x => exact Or.inr (fun e => h.ap x e.symm hv)
  · rcases hat with hat | hat
    · exact h.ap k (hat ▸ h1) h3
    · rw [hat] at h1
      injection h1 with h1
      have := (h2.rw'.lt k h3).2
      omega
  · by_cases e : k = n
    · subst e
      rw [upd_same, List.getElem?_append_right (by rw [h.lu]; exact Nat.le_refl _), h.lu, Nat.sub_self]
      rfl
    · rw [upd_other _ _ e, List.getElem?_append_left (by rw [h.lu]; omega)]
      exact h.each k (by omega)
  · by_cases e : k = n
    · subst e; rw [upd_same, upd_same]; exact hk (hr2.mono hwl)
    · rw [upd_other _ _ e, upd_other _ _ e]; exact hk (h2.rows k (by omega))
  · have far : ∀ i, i < n → ∀ b, (U i).ownBlock = some b → b < wr.heap.size := fun i hi b hb => ((h.rows i hi).lt b hb).2
    have new : ∀ b, l.ownBlock = some b → wr.heap.size ≤ b := fun b hb => (hr1.lt b hb).1
    by_cases e : j = n
    · subst e
      rw [upd_same, upd_other _ _ (show k ≠ j by omega)]
      cases hl : l.ownBlock with
      | none => exact Or.inl rfl
      | some b => exact Or.inr (fun e2 => by have h8 := far k (by omega) b e2.symm; have h9 := new b hl; omega)
    · by_cases e2 : k = n
      · subst e2
        rw [upd_same, upd_other _ _ e]
        cases hl : (U j).ownBlock with
        | none => exact Or.inl rfl
        | some b => exact Or.inr (fun e3 => by have h8 := far j (by omega) b hl; have h9 := new b e3.symm; omega)
      · rw [upd_other _ _ e, upd_other _ _ e2]
        exact h.apart j k (by omega) (by omega) hne
  · obtain ⟨u, h3, h4⟩ := h2.wants k hk'
    refine ⟨u, h3, ?_⟩
    rw [upd_other _ _ (show k ≠ n by omega)]
    exact hk h4
  · by_cases e : k = n
    · subst e; rw [upd_same]; exact hxs
    · rw [upd_other _ _ e]; exact h.len k (by omega)
theorem Lp.addW {w wr w2 w3 : World} {n : Nat} {vl vw vw' u : Value} {us ws : List Value} {U : Nat → Value} {X : Nat → List Tok} (h : Lp w wr (n + 1) n vl vw us ws U X) (hu : OwnT wr w.heap.size u (X n)) (hb2 : Below wr.heap.size wr w2)
    (hr3 : Row w3 w.heap.size 22 vw' (ws ++ [u])) (hg3 : w2.grownBy w3 vw.ownBlock) (hat : vw'.ownBlock = vw.ownBlock ∨ vw'.ownBlock = some w2.heap.size) : Lp w w3 (n + 1) (n + 1) vl vw' us (ws ++ [u]) U X := by
  have h2 := h.below hb2
  have hk : ∀ {B : Nat} {v : Value} {ys : List Tok}, OwnT w2 B v ys → OwnT w3 B v ys := fun hr => hr.kept hg3 (hr.apart h2.rw' (by decide))
  refine ⟨h2.bel.grown hg3 h2.bel.size (fun k hk => (h2.rw'.lt k hk).1), h2.rl.kept hg3 ?_, hr3, fun k h1 h3 => ?_, h.lu, by rw [List.length_append, h.lw]; rfl, Nat.le_refl _, h.each, fun k hk' => hk (h2.rows k hk'), h.apart, fun k hk' => ?_, h.len⟩
  · cases hv : vl.ownBlock with
    | none => exact Or.inl rfl
    | some x => exact Or.inr (fun e => h.ap x hv e.symm)
  · rcases hat with hat | hat
    · exact h.ap k h1 (hat ▸ h3)
    · rw [hat] at h3
      injection h3 with h3
      have := (h2.rl.lt k h1).2
      omega
  · by_cases e : k = n
    · subst e
      refine ⟨u, ?_, hk (hu.below hb2)⟩
      rw [List.getElem?_append_right (by rw [h.lw]; exact Nat.le_refl _), h.lw, Nat.sub_self]
      rfl
    · obtain ⟨z, h3, h4⟩ := h2.wants k (by omega)
      exact ⟨z, by rw [List.getElem?_append_left (by rw [h.lw]; omega)]; exact h3, hk h4⟩
def Lz (w wr : World) (c : Nat) (vl vw : Value) : Prop := ∃ us ws U X, Lp w wr c c vl vw us ws U X
set_option maxRecDepth 100000 in
set_option maxHeartbeats 4000000 in
theorem marked_none (w : World) : Calls Try.prog 19 #[.slice none 0 0] w fun e w' => e = .returned (.bool true) ∧ Below w.heap.size w w' := by
  go_enter Try.func19, Try.ntmps19
  go_wp2_with fail
  go_loopw [3] (fun iv wr => iv = .int .i64 0 ∧ wr = w) (fun _ _ => 0)
  case atStart => exact ⟨rfl, rfl⟩
  case round =>
    obtain ⟨rfl, rfl⟩ := hrel
    go_wp2_with fail
    go_loopw [5, 6] (fun mr iv W => mr = .slice none 0 0 ∧ iv = .int .i64 0 ∧ Hid (W = wr)) (fun _ _ _ => 0)
    case atStart => exact ⟨rfl, rfl, rfl⟩
    case round =>
      obtain ⟨rfl, rfl, HW⟩ := hrel
      go_wp2_with fail
      go_loopw [9] (fun iv W => iv = .int .i64 0 ∧ Hid (W = wr)) (fun _ _ => 0)
      case atStart => exact ⟨rfl, rfl⟩
      case round =>
        obtain ⟨rfl, HW2⟩ := hrel
        go_wp2
        go_ret
        have e1 := HW2.out
        have e2 := HW.out
        subst e1
        subst e2
        exact ⟨rfl, Below.refl _ _⟩
/-- marked of any such lists. -/
theorem marked_lists {w wr : World} {c : Nat} {vl vw : Value} (h : Lz w wr c vl vw) (hc : c ≤ 100) : Calls Try.prog 19 #[vl] wr fun e w' => e = .returned (.bool true) ∧ Below w.heap.size wr w' := by
  obtain ⟨us, ws, U, X, h⟩ := h
  have hsz := h.bel.size
  rcases h.rl.2 with ⟨rfl, h0⟩ | ⟨g, cap, cur, rfl, _⟩
  · refine (marked_none wr).mono ?_
    rintro e w' ⟨h1, h2⟩
    exact ⟨h1, h2.mono hsz⟩
  · have hl := h.rl
    rw [h.lu] at hl ⊢
    refine marked_some (U := U) (X := X) (L := fun k => (X k).length) hl h.lu h.each ⟨h.rows, fun k hk b hb => ((h.rows k hk).lt b hb).2, h.apart⟩ hc (fun k hk => ⟨rfl, h.len k hk⟩) hsz
end Go.Proofs.Ytcdilcjgmcamcab
