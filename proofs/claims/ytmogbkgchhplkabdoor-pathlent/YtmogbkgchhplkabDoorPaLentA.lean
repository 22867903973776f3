/- PathLent: lists of names that lie beside one another, and what is held against them. -/
import Derived.Test.YtmogbkgchhplkabDoorPaMarked
namespace Go.Proofs.YtmogbkgchhplkabDoor
open Go.RowKit

/-- The names of a text; none where it is no path. -/
def namesOf (s : ByteArray) : List ByteArray := if wrongB s then [] else parts s
theorem namesOf_len (s : ByteArray) (hs : s.size ≤ 2000) : (namesOf s).length ≤ 3000 := by
  unfold namesOf
  split
  · simp
  · rw [parts_len]
    have := Lib.countB_le slash (by decide) s.size s (Nat.le_refl _)
    omega
theorem row_full {w : World} {B g : Nat} {l : List ByteArray} (hl : l.length ≤ 1000000000) (hB : B ≤ g) (h : w.heap[g]? = some (.cells (l.map Value.string).toArray 9 (0, 0))) : Row w B 9 (.slice (some ⟨g, 0, none⟩) l.length l.length) (sV l) := by
  refine ⟨by rw [sV_len]; simp, .inr ⟨g, l.length, _, by rw [sV_len], hB, h, by rw [sV_len]; exact Nat.le_refl _, by unfold maxLen; omega, by simp, ?_⟩⟩
  simp [sV, List.take_of_length_le]
theorem pparse_calls (s : ByteArray) (hs : s.size ≤ 2000) (w : World) (hM : Mx w) : Calls Tryd.prog 18 #[.string s] w fun e w' => ∃ v x y, e = .returned (.tuple #[v, .int .i64 x, .int .i64 y]) ∧ Row w' w.heap.size 9 v (sV (namesOf s)) ∧ Below w.heap.size w w' := by
  cases h : wrongB s with
  | true =>
    refine (parse_bad s (by omega) w hM h).mono ?_
    rintro e w' ⟨rfl, hb⟩
    refine ⟨_, _, _, rfl, ?_, hb⟩
    unfold namesOf
    rw [h]
    exact Row.nil _ _ _
  | false =>
    refine (parse_ok s (by omega) w hM h).mono ?_
    rintro e w' ⟨g, rfl, _, hg, hc, hb⟩
    refine ⟨_, _, _, rfl, ?_, hb⟩
    have e : namesOf s = parts s := by unfold namesOf; rw [h]; rfl
    have hl := namesOf_len s hs
    rw [e] at hl ⊢
    exact row_full (by omega) hg hc
theorem rrparse_calls (s : ByteArray) (hs : s.size ≤ 2000) (w : World) : Calls Tryd.prog 17 #[.string s] w fun e w' => ∃ v x, e = .returned (.tuple #[v, .int .i64 x]) ∧ Row w' w.heap.size 9 v (sV (namesOf s)) ∧ Below w.heap.size w w' := by
  refine (rparse_calls s (by omega) w).mono ?_
  have hw := wrong_pl s
  rintro e w' ⟨⟨h, rfl⟩ | ⟨h, v, rfl, hr⟩, hb⟩
  · rw [← hw] at h
    refine ⟨_, _, rfl, ?_, hb⟩
    unfold namesOf
    rw [h]
    exact Row.nil _ _ _
  · rw [← hw] at h
    refine ⟨_, _, rfl, ?_, hb⟩
    unfold namesOf
    rw [h, parts_D]
    exact hr
theorem pparse2 (s : ByteArray) (hs : s.size ≤ 2000) (w : World) (hM : Mx w) : Calls Tryd.prog 18 #[.string s] w fun e w' => ∃ a n c x y, e = .returned (.tuple #[.slice a n c, .int .i64 x, .int .i64 y]) ∧ Row w' w.heap.size 9 (.slice a n c) (sV (namesOf s)) ∧ Below w.heap.size w w' := by
  refine (pparse_calls s hs w hM).mono ?_
  rintro e w' ⟨v, x, y, rfl, hr, hb⟩
  obtain ⟨a, c, rfl⟩ := hr.shape
  exact ⟨a, _, c, x, y, rfl, hr, hb⟩
theorem rrparse2 (s : ByteArray) (hs : s.size ≤ 2000) (w : World) : Calls Tryd.prog 17 #[.string s] w fun e w' => ∃ a n c x, e = .returned (.tuple #[.slice a n c, .int .i64 x]) ∧ Row w' w.heap.size 9 (.slice a n c) (sV (namesOf s)) ∧ Below w.heap.size w w' := by
  refine (rrparse_calls s hs w).mono ?_
  rintro e w' ⟨v, x, rfl, hr, hb⟩
  obtain ⟨a, c, rfl⟩ := hr.shape
  exact ⟨a, _, c, x, rfl, hr, hb⟩
section
variable {ops : Array Oper} {rest : List Oper} {o : Oper} {a : Act} {Q : Exit → Act → World → Prop} {w : World} {K : Act → World → Prop}
/-- One list appended to a row of lists, and where it lies then. -/
theorem wpList_appL (hgd : o.guard = none) (x y : Operand) (ho : o.op = .call { callee := .builtin .append, args := #[x, y], argTypes := #[38, 38] }) {B g : Nat} {v u : Value} {us : List Value} (hx : a.eval x = v) (hrow : Row w B 28 v us) (hy : a.eval y = .slice (some ⟨g, 0, none⟩) 1 1)
    (hc : w.cell? ⟨g, 0, none⟩ = some u) (h1 : u.oneCell' = true) (hl : us.length ≤ 1000000) (hB : B ≤ w.heap.size)
    (hk : ∀ v' w', Row w' B 28 v' (us ++ [u]) → w.grownBy w' v.ownBlock → (v'.ownBlock = v.ownBlock ∨ v'.ownBlock = some w.heap.size) → wpList Tryd.prog ops Q rest (a.put o.dst v') w') : wpList Tryd.prog ops Q (o :: rest) a w := by
  obtain ⟨i0, hi, hz0, hz1, hz2⟩ := info_part infoLs
  obtain ⟨v', w', hr, h2, h3, h4, h5⟩ := run_append_share (P := Tryd.prog) w B 38 o.type 28 i0 (.slice none 0 0) 24 Tryd.underlying38 hi hz0 hz1 hz2 rfl v us hrow ⟨g, 0, none⟩ 1 1 [u] rfl (fun j z hu => by
    cases j with
    | zero =>
      injection hu with hu
      subst hu
      exact hc
    | succ j => simp at hu) (fun z hz => by rw [List.mem_singleton.1 hz]; exact h1) (by unfold maxLen; omega) (by omega) hB
  refine wpList_plain hgd fun K hK => ?_
  unfold Oper.wp execOp
  simp only [ho, resolve, invoke, builtin, Sem.run_bind, Sem.run_pure, Result.andThen_ok, List.map_toArray, List.map_cons, List.map_nil, hx, hy, hr]
  exact hK _ _ (hk v' w' h2 h3 h4)
end
/-- nl lists and nw of what is held against them. -/
structure Lp (w wr : World) (nl nw : Nat) (vl vw : Value) (us ws : List Value) (U : Nat → Value) (X : Nat → List ByteArray) : Prop where
  bel : Below w.heap.size w wr
  rl : Row wr w.heap.size 28 vl us
  rw' : Row wr w.heap.size 28 vw ws
  ap : ∀ k, vl.ownBlock = some k → vw.ownBlock ≠ some k
  lu : us.length = nl
  lw : ws.length = nw
  le : nw ≤ nl
  each : ∀ k, k < nl → us[k]? = some (U k)
  rows : ∀ k, k < nl → Row wr w.heap.size 9 (U k) (sV (X k))
  apart : ∀ j k, j < nl → k < nl → j ≠ k → (U j).ownBlock = none ∨ (U j).ownBlock ≠ (U k).ownBlock
  wants : ∀ k, k < nw → ∃ u, ws[k]? = some u ∧ Row wr w.heap.size 9 u (sV (X k))
  len : ∀ k, k < nl → (X k).length ≤ 3000
theorem Lp.nil (w : World) (hb : Below w.heap.size w w) : Lp w w 0 0 (.slice none 0 0) (.slice none 0 0) [] [] (fun _ => undef) (fun _ => []) :=
  ⟨hb, Row.nil _ _ _, Row.nil _ _ _, fun k h => by simp [Value.ownBlock] at h, rfl, rfl, Nat.le_refl _, fun k hk => by omega, fun k hk => by omega, fun j k hj => by omega, fun k hk => by omega, fun k hk => by omega⟩
theorem Lp.below {w wr w' : World} {nl nw : Nat} {vl vw : Value} {us ws : List Value} {U : Nat → Value} {X : Nat → List ByteArray} (h : Lp w wr nl nw vl vw us ws U X) (hb : Below wr.heap.size wr w') : Lp w w' nl nw vl vw us ws U X :=
  ⟨h.bel.trans (hb.mono h.bel.size), row_below h.rl hb, row_below h.rw' hb, h.ap, h.lu, h.lw, h.le, h.each, fun k hk => row_below (h.rows k hk) hb, h.apart, fun k hk => by
    obtain ⟨u, h1, h2⟩ := h.wants k hk
    exact ⟨u, h1, row_below h2 hb⟩, h.len⟩
/-- What changes but the list of lists. -/
theorem Lp.addL {w wr w1 w2 w3 : World} {n : Nat} {vl vl' vw l : Value} {us ws : List Value} {U : Nat → Value} {X : Nat → List ByteArray} {xs : List ByteArray} (h : Lp w wr n n vl vw us ws U X) (hb1 : Below wr.heap.size wr w1) (hr1 : Row w1 wr.heap.size 9 l (sV xs)) (hxs : xs.length ≤ 3000) (hb2 : Below w1.heap.size w1 w2)
    (hr3 : Row w3 w.heap.size 28 vl' (us ++ [l])) (hg3 : w2.grownBy w3 vl.ownBlock) (hat : vl'.ownBlock = vl.ownBlock ∨ vl'.ownBlock = some w2.heap.size) : Lp w w3 (n + 1) n vl' vw (us ++ [l]) ws (upd U n l) (upd X n xs) := by
  have h2 : Lp w w2 n n vl vw us ws U X := (h.below hb1).below hb2
  have hr2 : Row w2 wr.heap.size 9 l (sV xs) := row_below hr1 hb2
  have hk : ∀ {B : Nat} {v : Value} {ys : List Value}, Row w2 B 9 v ys → Row w3 B 9 v ys := fun hr => hr.kept hg3 (hr.apart h2.rl (by decide))
  have hwl : w.heap.size ≤ wr.heap.size := h.bel.size
  refine ⟨h2.bel.grown hg3 h2.bel.size (fun k hk => (h2.rl.lt k hk).1), hr3, h2.rw'.kept hg3 ?_, fun k h1 h3 => ?_, by rw [List.length_append, h.lu]; rfl, h.lw, by omega, fun k hk => ?_, fun k hk' => ?_, fun j k hj hk' hne => ?_, fun k hk' => ?_, fun k hk' => ?_⟩
  · cases hv : vw.ownBlock with
    | none => exact Or.inl rfl
    | some x => exact Or.inr (fun e => h.ap x e.symm hv)
  · rcases hat with hat | hat
    · exact h.ap k (hat ▸ h1) h3
    · rw [hat] at h1
      injection h1 with h1
      have := (h2.rw'.lt k h3).2
      omega
  · by_cases e : k = n
    · subst e
      rw [upd_same, List.getElem?_append_right (by rw [h.lu]; exact Nat.le_refl _), h.lu, Nat.sub_self]
      rfl
    · rw [upd_other _ _ e, List.getElem?_append_left (by rw [h.lu]; omega)]
      exact h.each k (by omega)
  · by_cases e : k = n
    · subst e; rw [upd_same, upd_same]; exact hk (hr2.mono hwl)
    · rw [upd_other _ _ e, upd_other _ _ e]; exact hk (h2.rows k (by omega))
  · have far : ∀ i, i < n → ∀ b, (U i).ownBlock = some b → b < wr.heap.size := fun i hi b hb => ((h.rows i hi).lt b hb).2
    have new : ∀ b, l.ownBlock = some b → wr.heap.size ≤ b := fun b hb => (hr1.lt b hb).1
    by_cases e : j = n
    · subst e
      rw [upd_same, upd_other _ _ (show k ≠ j by omega)]
      cases hl : l.ownBlock with
      | none => exact Or.inl rfl
      | some b => exact Or.inr (fun e2 => by have h8 := far k (by omega) b e2.symm; have h9 := new b hl; omega)
    · by_cases e2 : k = n
      · subst e2
        rw [upd_same, upd_other _ _ e]
        cases hl : (U j).ownBlock with
        | none => exact Or.inl rfl
        | some b => exact Or.inr (fun e3 => by have h8 := far j (by omega) b hl; have h9 := new b e3.symm; omega)
      · rw [upd_other _ _ e, upd_other _ _ e2]
        exact h.apart j k (by omega) (by omega) hne
  · obtain ⟨u, h3, h4⟩ := h2.wants k hk'
    refine ⟨u, h3, ?_⟩
    rw [upd_other _ _ (show k ≠ n by omega)]
    exact hk h4
  · by_cases e : k = n
    · subst e; rw [upd_same]; exact hxs
    · rw [upd_other _ _ e]; exact h.len k (by omega)
theorem Lp.addW {w wr w2 w3 : World} {n : Nat} {vl vw vw' u : Value} {us ws : List Value} {U : Nat → Value} {X : Nat → List ByteArray} (h : Lp w wr (n + 1) n vl vw us ws U X) (hu : Row wr w.heap.size 9 u (sV (X n))) (hb2 : Below wr.heap.size wr w2)
    (hr3 : Row w3 w.heap.size 28 vw' (ws ++ [u])) (hg3 : w2.grownBy w3 vw.ownBlock) (hat : vw'.ownBlock = vw.ownBlock ∨ vw'.ownBlock = some w2.heap.size) : Lp w w3 (n + 1) (n + 1) vl vw' us (ws ++ [u]) U X := by
  have h2 := h.below hb2
  have hk : ∀ {B : Nat} {v : Value} {ys : List Value}, Row w2 B 9 v ys → Row w3 B 9 v ys := fun hr => hr.kept hg3 (hr.apart h2.rw' (by decide))
  refine ⟨h2.bel.grown hg3 h2.bel.size (fun k hk => (h2.rw'.lt k hk).1), h2.rl.kept hg3 ?_, hr3, fun k h1 h3 => ?_, h.lu, by rw [List.length_append, h.lw]; rfl, Nat.le_refl _, h.each, fun k hk' => hk (h2.rows k hk'), h.apart, fun k hk' => ?_, h.len⟩
  · cases hv : vl.ownBlock with
    | none => exact Or.inl rfl
    | some x => exact Or.inr (fun e => h.ap x hv e.symm)
  · rcases hat with hat | hat
    · exact h.ap k h1 (hat ▸ h3)
    · rw [hat] at h3
      injection h3 with h3
      have := (h2.rl.lt k h1).2
      omega
  · by_cases e : k = n
    · subst e
      refine ⟨u, ?_, hk (row_below hu hb2)⟩
      rw [List.getElem?_append_right (by rw [h.lw]; exact Nat.le_refl _), h.lw, Nat.sub_self]
      rfl
    · obtain ⟨z, h3, h4⟩ := h2.wants k (by omega)
      exact ⟨z, by rw [List.getElem?_append_left (by rw [h.lw]; omega)]; exact h3, hk h4⟩
def Lz (w wr : World) (c : Nat) (vl vw : Value) : Prop := ∃ us ws U X, Lp w wr c c vl vw us ws U X
set_option maxRecDepth 100000 in
set_option maxHeartbeats 4000000 in
theorem marked_none (w : World) : Calls Tryd.prog 20 #[.slice none 0 0] w fun e w' => e = .returned (.bool true) ∧ Below w.heap.size w w' := by
  go_enter Tryd.func20, Tryd.ntmps20
  go_wp2_with fail
  go_loopw [3] (fun iv wr => iv = .int .i64 0 ∧ wr = w) (fun _ _ => 0)
  case atStart => exact ⟨rfl, rfl⟩
  case round =>
    obtain ⟨rfl, rfl⟩ := hrel
    go_wp2_with fail
    go_loopw [5, 6] (fun mr iv W => mr = .slice none 0 0 ∧ iv = .int .i64 0 ∧ Hid (W = wr)) (fun _ _ _ => 0)
    case atStart => exact ⟨rfl, rfl, rfl⟩
    case round =>
      obtain ⟨rfl, rfl, HW⟩ := hrel
      go_wp2_with fail
      go_loopw [9] (fun iv W => iv = .int .i64 0 ∧ Hid (W = wr)) (fun _ _ => 0)
      case atStart => exact ⟨rfl, rfl⟩
      case round =>
        obtain ⟨rfl, HW2⟩ := hrel
        go_wp2
        go_ret
        have e1 := HW2.out
        have e2 := HW.out
        subst e1
        subst e2
        exact ⟨rfl, Below.refl _ _⟩
/-- marked of any such lists. -/
theorem marked_lists {w wr : World} {c : Nat} {vl vw : Value} (h : Lz w wr c vl vw) (hc : c ≤ 100) : Calls Tryd.prog 20 #[vl] wr fun e w' => e = .returned (.bool true) ∧ Below w.heap.size wr w' := by
  obtain ⟨us, ws, U, X, h⟩ := h
  have hsz := h.bel.size
  rcases h.rl.2 with ⟨rfl, h0⟩ | ⟨g, cap, cur, rfl, _⟩
  · refine (marked_none wr).mono ?_
    rintro e w' ⟨h1, h2⟩
    exact ⟨h1, h2.mono hsz⟩
  · have hl := h.rl
    rw [h.lu] at hl ⊢
    refine marked_some (U := U) (X := fun k => sV (X k)) (L := fun k => (X k).length) hl h.lu h.each ⟨h.rows, fun k hk b hb => ((h.rows k hk).lt b hb).2, h.apart⟩ hc (fun k hk => ⟨sV_len _, h.len k hk⟩) hsz
end Go.Proofs.YtmogbkgchhplkabDoor
