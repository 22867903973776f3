/- Tokens in memory. -/
import Derived.Test.YtcdilcjgmcamcaaTkC
import Derived.Test.YtcdilcjgmcamcaaTkB
import Derived.Deep.MidRow
namespace Go.Proofs.Ytcdilcjgmcamcaa
open Go.RowKit Go.Maps

def tkC (t : Tok) : List Value := [.int .i64 t.kind, .string t.text, .int .i64 t.line, .int .i64 t.place]
def tkV (l : List Tok) : List Value := l.flatMap tkC
theorem tkV_len (l : List Tok) : (tkV l).length = l.length * 4 := by
  induction l with
  | nil => rfl
  | cons t l ih => rw [show tkV (t :: l) = tkC t ++ tkV l from rfl, List.length_append, ih, List.length_cons]; show 4 + _ = _; omega
theorem tkV_snoc (l : List Tok) (t : Tok) : tkV (l ++ [t]) = tkV l ++ tkC t := by
  unfold tkV; rw [List.flatMap_append]; simp
theorem tkV_app (l m : List Tok) : tkV (l ++ m) = tkV l ++ tkV m := by
  unfold tkV; rw [List.flatMap_append]
theorem tkV_one (l : List Tok) : ∀ u ∈ tkV l, u.oneCell' = true := by
  intro u hu
  unfold tkV at hu
  obtain ⟨t, _, h⟩ := List.mem_flatMap.1 hu
  unfold tkC at h
  simp only [List.mem_cons, List.not_mem_nil, or_false] at h
  rcases h with rfl | rfl | rfl | rfl <;> rfl
theorem tkV_at (l : List Tok) (j k : Nat) (hj : j < l.length) (hk : k < 4) : (tkV l)[4 * j + k]? = (tkC (l.getD j .nul))[k]? := by
  induction l generalizing j with
  | nil => simp at hj
  | cons t l ih =>
    rw [show tkV (t :: l) = tkC t ++ tkV l from rfl]
    have hl : (tkC t).length = 4 := rfl
    cases j with
    | zero => rw [List.getElem?_append_left (by omega)]; simp
    | succ j =>
      rw [List.getElem?_append_right (by omega), hl, show 4 * (j + 1) + k - 4 = 4 * j + k by omega, ih j (by simpa using hj)]
      simp
/-- A slice of tokens of the call's own. -/
def OwnT (w : World) (B : Nat) (v : Value) (l : List Tok) : Prop := w.ownsRow B 27 4 v l.length (tkV l)
/-- A slice of tokens: in this world it reads the list. -/
def IsTk (w : World) (v : Value) (l : List Tok) : Prop :=
  ∃ a c, v = .slice a l.length c ∧ l.length ≤ c ∧ c ≤ 9223372036854775807 ∧ (a = none → c = 0) ∧ (0 < l.length → ∃ b o, a = some ⟨b, o, none⟩ ∧ ∀ j k, j < l.length → k < 4 → w.cell? ⟨b, o + (4 * j + k), none⟩ = (tkC (l.getD j .nul))[k]?)
theorem IsTk.below {w w' : World} {v : Value} {l : List Tok} (h : IsTk w v l) (hb : Below w.heap.size w w') : IsTk w' v l := by
  obtain ⟨a, c, hv, hl, hm, hz, hc⟩ := h
  refine ⟨a, c, hv, hl, hm, hz, fun hp => ?_⟩
  obtain ⟨b, o, ha, hcell⟩ := hc hp
  have h0 := hcell 0 0 hp (by omega)
  have hlt : b < w.heap.size := World.block_lt_of_cell? w ⟨b, o + (4 * 0 + 0), none⟩ (u := .int .i64 (l.getD 0 .nul).kind) (by rw [h0]; rfl)
  exact ⟨b, o, ha, fun j k hj hk => (hb.cell (p := ⟨b, o + (4 * j + k), none⟩) hlt).trans (hcell j k hj hk)⟩
theorem IsTk.nil (w : World) : IsTk w (.slice none 0 0) [] := ⟨none, 0, rfl, Nat.le_refl _, by decide, fun _ => rfl, fun h => absurd h (by simp)⟩
theorem OwnT.nil (w : World) (B : Nat) : OwnT w B (.slice none 0 0) [] := World.ownsRow_nil _ _ _ _
theorem OwnT.shape {w : World} {B : Nat} {v : Value} {l : List Tok} (h : OwnT w B v l) : ∃ a c, v = .slice a l.length c := by
  rcases h.2 with ⟨rfl, h0⟩ | ⟨g, cap, cur, rfl, _⟩
  · exact ⟨none, 0, by rw [h0]⟩
  · exact ⟨_, cap, rfl⟩
theorem OwnT.below {w w' : World} {B : Nat} {v : Value} {l : List Tok} (h : OwnT w B v l) (hb : Below w.heap.size w w') : OwnT w' B v l :=
  World.ownsRow.kept (row := none) h ⟨hb.os, hb.tape, hb.output, hb.size, fun k hk _ => hb.block k hk⟩ (by cases v.ownBlock <;> simp)
theorem OwnT.kept {w w' : World} {B : Nat} {v : Value} {l : List Tok} {row : Option Nat} (h : OwnT w B v l) (hg : w.grownBy w' row) (hne : v.ownBlock = none ∨ v.ownBlock ≠ row) : OwnT w' B v l := World.ownsRow.kept h hg hne
theorem OwnT.mono {w : World} {B B' : Nat} {v : Value} {l : List Tok} (h : OwnT w B v l) (hb : B' ≤ B) : OwnT w B' v l := by
  obtain ⟨h1, h2⟩ := h
  refine ⟨h1, ?_⟩
  rcases h2 with h2 | ⟨g, cap, cur, hv, hg, rest⟩
  · exact Or.inl h2
  · exact Or.inr ⟨g, cap, cur, hv, by omega, rest⟩
theorem OwnT.isTk {w : World} {B : Nat} {v : Value} {l : List Tok} (h : OwnT w B v l) : IsTk w v l := by
  have h' := h
  rcases h.2 with ⟨rfl, h0⟩ | ⟨g, cap, cur, rfl, hb, hg, hle, hm, hs, ht⟩
  · have : l = [] := List.length_eq_zero_iff.1 h0
    subst this
    exact IsTk.nil w
  · refine ⟨some ⟨g, 0, none⟩, cap, rfl, hle, by simpa [maxLen] using hm, fun h => (by cases h), fun hp => ⟨g, 0, rfl, fun j k hj hk => ?_⟩⟩
    have e := tkV_at l j k hj hk
    have hlen : 4 * j + k < (tkV l).length := by rw [tkV_len]; omega
    rw [Nat.zero_add, ← e, List.getElem?_eq_getElem hlen]
    have := World.ownsRow.cells (g := g) h' rfl (4 * j + k) _ (List.getElem?_eq_getElem hlen)
    rw [Addr.add_lit, Nat.zero_add] at this
    exact this
theorem OwnT.block {w : World} {B : Nat} {v : Value} {l : List Tok} (h : OwnT w B v l) {g : Nat} {cs : Array Value} {t : TypeId} {m : Nat × Nat} (hc : w.heap[g]? = some (.cells cs t m)) (ht : t ≠ 27) : v.ownBlock = none ∨ v.ownBlock ≠ some g := by
  rcases h.2 with ⟨rfl, _⟩ | ⟨g', cap, cur, rfl, _, hgg, _⟩
  · exact Or.inl rfl
  · refine Or.inr fun e => ?_
    simp only [Value.ownBlock, Option.some.injEq] at e
    subst e
    rw [hgg] at hc
    simp only [Option.some.injEq, Obj.cells.injEq] at hc
    exact ht hc.2.1.symm
theorem infoTk : (Try.prog.info? 27).map (fun i => (i.zero, i.size, i.bytes)) = some (some (.agg #[.int .i64 0, .string ByteArray.empty, .int .i64 0, .int .i64 0]), 4, 40) := by kernel_rfl
section
variable {ops : Array Oper} {rest : List Oper} {o : Oper} {a : Act} {Q : Exit → Act → World → Prop} {w : World} {K : Act → World → Prop} {E : Prop}
/-- Tokens are appended to a slice of tokens of the call's own. -/
theorem wp_appTk (x y : Operand) (ho : o.op = .call { callee := .builtin .append, args := #[x, y], argTypes := #[25, 25] }) {B : Nat} {v : Value} {l m : List Tok} {ad : Addr} {n c : Nat} (hx : a.eval x = v) (hown : OwnT w B v l) (hy : a.eval y = .slice (some ad) n c) (hn : n = m.length)
    (hm : ∀ j u, (tkV m)[j]? = some u → w.cell? (ad.add j) = some u) (hl : l.length + m.length ≤ 1000000000000) (hB : B ≤ w.heap.size)
    (hk : ∀ v' w', OwnT w' B v' (l ++ m) → w.grownBy w' v.ownBlock → (v.ownBlock = none ∨ ∃ b, v.ownBlock = some b ∧ B ≤ b) → (v'.ownBlock = v.ownBlock ∨ v'.ownBlock = some w.heap.size) → K (a.put o.dst v') w') : o.wp Try.prog a w K Q := by
  obtain ⟨i0, hi, hz0, hz1, hz2⟩ := info_parts infoTk
  subst hn
  obtain ⟨v', w', hr, h2, h3, h4, h5⟩ := run_append_own_at (P := Try.prog) w B 25 o.type 27 i0 _ 4 40 Try.underlying25 hi hz0 hz1 hz2 rfl (by decide) v l.length (tkV l) hown ad m.length c (tkV m) (by rw [tkV_len]) hm (tkV_one m) (by unfold maxLen; omega) (by omega) hB
  unfold Oper.wp execOp
  simp only [ho, resolve, invoke, builtin, Sem.run_bind, Sem.run_pure, Result.andThen_ok, List.map_toArray, List.map_cons, List.map_nil, hx, hy, hr]
  refine hk v' w' ?_ h3 ?_ h5
  · unfold OwnT; rw [List.length_append, tkV_app]; exact h2
  · cases hv : v.ownBlock with
    | none => exact Or.inl rfl
    | some b => exact Or.inr ⟨b, rfl, (World.ownsRow.lt hown b hv).1⟩
theorem wpList_appTk (hgd : o.guard = none) (x y : Operand) (ho : o.op = .call { callee := .builtin .append, args := #[x, y], argTypes := #[25, 25] }) {B : Nat} {v : Value} {l m : List Tok} {ad : Addr} {n c : Nat} (hx : a.eval x = v) (hown : OwnT w B v l) (hy : a.eval y = .slice (some ad) n c) (hn : n = m.length)
    (hm : ∀ j u, (tkV m)[j]? = some u → w.cell? (ad.add j) = some u) (hl : l.length + m.length ≤ 1000000000000) (hB : B ≤ w.heap.size)
    (hk : ∀ v' w', OwnT w' B v' (l ++ m) → w.grownBy w' v.ownBlock → (v.ownBlock = none ∨ ∃ b, v.ownBlock = some b ∧ B ≤ b) → (v'.ownBlock = v.ownBlock ∨ v'.ownBlock = some w.heap.size) → wpList Try.prog ops Q rest (a.put o.dst v') w') : wpList Try.prog ops Q (o :: rest) a w :=
  wpList_plain hgd fun _ hK => wp_appTk x y ho hx hown hy hn hm hl hB fun v' w' h1 h2 h3 h4 => hK _ _ (hk v' w' h1 h2 h3 h4)
theorem step_appTk (hw : Region.wanted o (yielded ops a.tmps) = true) (x y : Operand) (ho : o.op = .call { callee := .builtin .append, args := #[x, y], argTypes := #[25, 25] }) {B : Nat} {v : Value} {l m : List Tok} {ad : Addr} {n c : Nat} (hx : a.eval x = v) (hown : OwnT w B v l) (hy : a.eval y = .slice (some ad) n c) (hn : n = m.length)
    (hm : ∀ j u, (tkV m)[j]? = some u → w.cell? (ad.add j) = some u) (hl : l.length + m.length ≤ 1000000000000) (hB : B ≤ w.heap.size)
    (hk : ∀ v' w', OwnT w' B v' (l ++ m) → w.grownBy w' v.ownBlock → (v.ownBlock = none ∨ ∃ b, v.ownBlock = some b ∧ B ≤ b) → (v'.ownBlock = v.ownBlock ∨ v'.ownBlock = some w.heap.size) → K (a.put o.dst v') w') : if Region.wanted o (yielded ops a.tmps) = true then Oper.wp Try.prog o a w K Q else E := by
  rw [if_pos hw]
  exact wp_appTk x y ho hx hown hy hn hm hl hB hk
/-- One operation whose run is known. -/
theorem step_run (hw : Region.wanted o (yielded ops a.tmps) = true) {v : Value} {w' : World} (hrun : (execOp a.eval o).run Try.prog w = .ok (.value v) w') (hk : K (a.put o.dst v) w') : if Region.wanted o (yielded ops a.tmps) = true then Oper.wp Try.prog o a w K Q else E := by
  rw [if_pos hw]
  unfold Oper.wp
  rw [hrun]
  exact hk
end
/-- A new block that holds one token. -/
theorem tok_new (w : World) (t : Tok) : ∀ j u, (tkV [t])[j]? = some u → (w.alloc (.cells (tkC t).toArray 27)).cell? ((⟨w.heap.size, 0, none⟩ : Addr).add j) = some u := by
  intro j u h
  rw [Addr.add_lit, Nat.zero_add]
  have := Arr.cell (Arr.new w (tkC t) 27) j
  rw [this]
  have e : tkV [t] = tkC t := by unfold tkV; simp
  rw [e] at h
  exact h
theorem below_app {B : Nat} {a w w' : World} {v : Value} (h : Below B a w) (hg : w.grownBy w' v.ownBlock) (hB : B ≤ w.heap.size) (hv : v.ownBlock = none ∨ ∃ b, v.ownBlock = some b ∧ B ≤ b) : Below B a w' :=
  h.grown hg hB (fun j hj => by
    rcases hv with hv | ⟨b, hv, hb⟩
    · rw [hv] at hj; cases hj
    · rw [hv] at hj; injection hj with hj; omega)
end Go.Proofs.Ytcdilcjgmcamcaa
