/- Lists of writes, as the statements of chapter 3 have them. -/
import Derived.Test.YtfgjhlnaaopdeabDkV
import Derived.Test.YtfgjhlnaaopdeabDkFl
import Derived.Test.YtfgjhlnaaopdeabDkK
namespace Go.Proofs.Ytfgjhlnaaopdeab
open Go.RowKit Go.Maps

/-- A slice of numbers and bytes, in memory that nobody writes to. -/
structure IsWs (w : World) (v : Value) (l : Ats) : Prop where
  rd : ∃ es : List (Int × Value), w.ownsRow 0 25 2 v l.length (atV es) ∧ es.length = l.length ∧ ∀ j, j < l.length → (es.getD j dE).1 = (l.getD j dA).1 ∧ Own8 w 0 (es.getD j dE).2 (l.getD j dA).2
theorem IsWs.below {w w' : World} {v : Value} {l : Ats} (h : IsWs w v l) (hb : Below w.heap.size w w') : IsWs w' v l := by
  obtain ⟨es, h1, h2, h3⟩ := h.rd
  exact ⟨es, owns_below h1 hb, h2, fun j hj => ⟨(h3 j hj).1, (h3 j hj).2.below hb⟩⟩
theorem IsWs.tm {F : Nat → Prop} {w w' : World} {v : Value} {l : Ats} (h : IsWs w v l) (hu : Up F w w') (hT : Tm w F) : IsWs w' v l := by
  obtain ⟨es, h1, h2, h3⟩ := h.rd
  exact ⟨es, owns_tm h1 hu hT (by decide) (by decide), h2, fun j hj => ⟨(h3 j hj).1, (h3 j hj).2.tm hu hT⟩⟩
theorem IsWs.nil (w : World) : IsWs w (.slice none 0 0) [] := ⟨[], World.ownsRow_nil _ _ _ _, rfl, fun j hj => by simp at hj⟩
theorem IsWs.shape {w : World} {v : Value} {l : Ats} (h : IsWs w v l) : ∃ a c, v = .slice a l.length c ∧ (0 < l.length → ∃ g, a = some ⟨g, 0, none⟩ ∧ l.length ≤ c ∧ c ≤ 9223372036854775807) := by
  obtain ⟨es, h1, _⟩ := h.rd
  rcases h1.2 with ⟨rfl, h0⟩ | ⟨g, cap, cur, rfl, _, _, hle, hm, _⟩
  · exact ⟨none, 0, by rw [h0], fun hp => by omega⟩
  · exact ⟨_, cap, rfl, fun _ => ⟨g, rfl, hle, by simpa [maxLen] using hm⟩⟩
theorem IsWs.elem {w : World} {g n c : Nat} {l : Ats} (h : IsWs w (.slice (some ⟨g, 0, none⟩) n c) l) {j : Nat} (hj : j < l.length) : ∃ u, w.cell? ⟨g, j * 2, none⟩ = some (.int .i64 (l.getD j dA).1) ∧ w.cell? ⟨g, j * 2 + 1, none⟩ = some u ∧ Own8 w 0 u (l.getD j dA).2 := by
  obtain ⟨es, h1, h2, h3⟩ := h.rd
  obtain ⟨a1, a2⟩ := atV_get (es := es) (j := j) (by omega)
  have c1 := h1.cells (g := g) rfl _ _ a1
  have c2 := h1.cells (g := g) rfl _ _ a2
  rw [Addr.add_lit, Nat.zero_add] at c1 c2
  rw [(h3 j hj).1] at c1
  exact ⟨_, c1, c2, (h3 j hj).2⟩
structure OwnWs (w : World) (B : Nat) (v : Value) (l : Ats) : Prop where
  rd : ∃ es : List (Int × Value), w.ownsRow B 25 2 v l.length (atV es) ∧ es.length = l.length ∧ ∀ j, j < l.length → (es.getD j dE).1 = (l.getD j dA).1 ∧ Own8 w 0 (es.getD j dE).2 (l.getD j dA).2
theorem OwnWs.isWs {w : World} {B : Nat} {v : Value} {l : Ats} (h : OwnWs w B v l) : IsWs w v l := by
  obtain ⟨es, h1, h2, h3⟩ := h.rd
  exact ⟨es, owns_mono h1 (Nat.zero_le _), h2, h3⟩
theorem OwnWs.nil (w : World) (B : Nat) : OwnWs w B (.slice none 0 0) [] := ⟨[], World.ownsRow_nil _ _ _ _, rfl, fun j hj => by simp at hj⟩
theorem OwnWs.below {w w' : World} {B : Nat} {v : Value} {l : Ats} (h : OwnWs w B v l) (hb : Below w.heap.size w w') : OwnWs w' B v l := by
  obtain ⟨es, h1, h2, h3⟩ := h.rd
  exact ⟨es, owns_below h1 hb, h2, fun j hj => ⟨(h3 j hj).1, (h3 j hj).2.below hb⟩⟩
theorem OwnWs.shape {w : World} {B : Nat} {v : Value} {l : Ats} (h : OwnWs w B v l) : ∃ a c, v = .slice a l.length c := by
  obtain ⟨a, c, h1, _⟩ := h.isWs.shape
  exact ⟨a, c, h1⟩
theorem IsWs.other {w w' : World} {g : Nat} {v : Value} {l : Ats} {cs : Array Value} {t : TypeId} {m : Nat × Nat} (h : IsWs w v l) (hg : w.grownBy w' (some g)) (hc : w.heap[g]? = some (.cells cs t m)) (h1 : t ≠ 5) (h2 : t ≠ 25) : IsWs w' v l := by
  obtain ⟨es, k1, k2, k3⟩ := h.rd
  refine ⟨es, k1.kept hg ?_, k2, fun j hj => ⟨(k3 j hj).1, (k3 j hj).2.other hg hc h1⟩⟩
  rcases k1.2 with ⟨rfl, _⟩ | ⟨g', cap, cur, rfl, _, hgg, _⟩
  · exact Or.inl rfl
  · refine Or.inr fun e => ?_
    simp only [Value.ownBlock, Option.some.injEq] at e
    subst e
    rw [hgg] at hc
    simp only [Option.some.injEq, Obj.cells.injEq] at hc
    exact h2 hc.2.1.symm
theorem infoW : (Try.prog.info? 25).map (fun i => (i.zero, i.size, i.bytes)) = some (some (.agg #[.int .i64 0, .slice none 0 0]), 2, 32) := by kernel_rfl
section
variable {ops : Array Oper} {rest : List Oper} {o : Oper} {a : Act} {Q : Exit → Act → World → Prop} {w : World} {K : Act → World → Prop} {E : Prop}
theorem wp_appW (x y : Operand) (ho : o.op = .call { callee := .builtin .append, args := #[x, y], argTypes := #[22, 22] }) {B g : Nat} {v u : Value} {l : Ats} {i : Int} {s : List Int} (hx : a.eval x = v) (hown : OwnWs w B v l) (hy : a.eval y = .slice (some ⟨g, 0, none⟩) 1 1)
    (hA : Arr w g 25 [.int .i64 i, u]) (hu : Own8 w 0 u s) (hl : l.length ≤ 1099511627776) (hB : B ≤ w.heap.size)
    (hk : ∀ v' w', OwnWs w' B v' (l ++ [(i, s)]) → w.grownBy w' v.ownBlock → (v.ownBlock = none ∨ ∃ b, v.ownBlock = some b ∧ B ≤ b) → K (a.put o.dst v') w') : o.wp Try.prog a w K Q := by
  obtain ⟨i0, hi, hz0, hz1, hz2⟩ := info_parts infoW
  obtain ⟨es, h1, h2, h3⟩ := hown.rd
  have hone : ∀ z ∈ [Value.int .i64 i, u], z.oneCell' = true := by
    obtain ⟨ua, un, uc, rfl⟩ := (Own8.isB hu).shape
    intro z hz
    simp only [List.mem_cons, List.not_mem_nil, or_false] at hz
    rcases hz with rfl | rfl <;> rfl
  refine wp_append_lies w x y 22 ho B 25 i0 _ 2 32 Try.underlying22 hi hz0 hz1 hz2 rfl (by decide) v l.length (atV es) hx h1 ⟨g, 0, none⟩ 1 1 [.int .i64 i, u] hy rfl (fun j z hz => by rw [Addr.add_lit, Nat.zero_add]; exact hA.cell_of hz) hone (by decide) (by unfold maxLen; omega) (by omega) hB _ rfl ?_
  intro g6 c6 w6 hr6 hg6 hat6 hlt6
  have keep8 : ∀ (z : Value) (xs : List Int), Own8 w 0 z xs → Own8 w6 0 z xs := fun z xs hz => ⟨hz.1.kept hg6 (owns_apart hz.1 h1 (by decide)), hz.2⟩
  refine hk _ w6 ⟨es ++ [(i, u)], ?_, by simp [h2], fun j hj => ?_⟩ hg6 ?_
  · rw [atV_snoc, List.length_append, List.length_singleton]
    exact hr6
  · rw [List.length_append, List.length_singleton] at hj
    rw [snoc_getD, snoc_getD, h2]
    by_cases hj1 : j < l.length
    · rw [if_pos hj1, if_pos hj1]; exact ⟨(h3 j hj1).1, keep8 _ _ (h3 j hj1).2⟩
    · have : j = l.length := by omega
      rw [if_neg hj1, if_neg hj1, if_pos this, if_pos this]
      exact ⟨rfl, keep8 _ _ hu⟩
  · cases hv : v.ownBlock with
    | none => exact Or.inl rfl
    | some b => exact Or.inr ⟨b, rfl, (h1.lt b hv).1⟩
theorem wpList_appW (hgd : o.guard = none) (x y : Operand) (ho : o.op = .call { callee := .builtin .append, args := #[x, y], argTypes := #[22, 22] }) {B g : Nat} {v u : Value} {l : Ats} {i : Int} {s : List Int} (hx : a.eval x = v) (hown : OwnWs w B v l) (hy : a.eval y = .slice (some ⟨g, 0, none⟩) 1 1)
    (hA : Arr w g 25 [.int .i64 i, u]) (hu : Own8 w 0 u s) (hl : l.length ≤ 1099511627776) (hB : B ≤ w.heap.size)
    (hk : ∀ v' w', OwnWs w' B v' (l ++ [(i, s)]) → w.grownBy w' v.ownBlock → (v.ownBlock = none ∨ ∃ b, v.ownBlock = some b ∧ B ≤ b) → wpList Try.prog ops Q rest (a.put o.dst v') w') : wpList Try.prog ops Q (o :: rest) a w :=
  wpList_plain hgd fun _ hK => wp_appW x y ho hx hown hy hA hu hl hB fun v' w' h1 h2 h3 => hK _ _ (hk v' w' h1 h2 h3)
theorem step_appW (hgd : o.guard = none) (x y : Operand) (ho : o.op = .call { callee := .builtin .append, args := #[x, y], argTypes := #[22, 22] }) {B g : Nat} {v u : Value} {l : Ats} {i : Int} {s : List Int} (hx : a.eval x = v) (hown : OwnWs w B v l) (hy : a.eval y = .slice (some ⟨g, 0, none⟩) 1 1)
    (hA : Arr w g 25 [.int .i64 i, u]) (hu : Own8 w 0 u s) (hl : l.length ≤ 1099511627776) (hB : B ≤ w.heap.size)
    (hk : ∀ v' w', OwnWs w' B v' (l ++ [(i, s)]) → w.grownBy w' v.ownBlock → (v.ownBlock = none ∨ ∃ b, v.ownBlock = some b ∧ B ≤ b) → K (a.put o.dst v') w') : if Region.wanted o (yielded ops a.tmps) = true then Oper.wp Try.prog o a w K Q else E := by
  rw [if_pos (by simp [Region.wanted, hgd])]
  exact wp_appW x y ho hx hown hy hA hu hl hB hk
theorem buildW_run (W : World) (i : Int) (ua : Option Addr) (un uc : Nat) : (Instr.buildSlice 22 1 #[(0, .agg #[.int .i64 i, .slice ua un uc])]).run Try.prog W = .ok (.slice (some ⟨W.heap.size, 0, none⟩) 1 1) (W.alloc (.cells [.int .i64 i, .slice ua un uc].toArray 25)) := by kernel_rfl
theorem step_buildW (hgd : o.guard = none) (x : Operand) (ho : o.op = .buildSlice 22 1 #[(0, x)]) {i : Int} {ua : Option Addr} {un uc : Nat} (hx : a.eval x = .agg #[.int .i64 i, .slice ua un uc])
    (hk : K (a.put o.dst (.slice (some ⟨w.heap.size, 0, none⟩) 1 1)) (w.alloc (.cells [.int .i64 i, .slice ua un uc].toArray 25))) : if Region.wanted o (yielded ops a.tmps) = true then Oper.wp Try.prog o a w K Q else E := by
  rw [if_pos (by simp [Region.wanted, hgd])]
  unfold Oper.wp execOp
  simp only [ho, List.map_toArray, List.map_cons, List.map_nil, hx, Sem.run_bind, buildW_run w, Result.andThen_ok, Sem.run_pure]
  exact hk
end
/-- A list of writes that is handed in: it is read alone. -/
structure IsWr (w : World) (v : Value) (l : Ats) : Prop where
  val : ∃ a cap, v = .slice a l.length cap ∧ l.length ≤ cap ∧ cap ≤ 9223372036854775807 ∧ (0 < l.length → ∃ b off, a = some ⟨b, off, none⟩ ∧
    ∀ j, j < l.length → w.cell? ⟨b, off + j * 2, none⟩ = some (.int .i64 (l.getD j dA).1) ∧ ∃ u, w.cell? ⟨b, off + (j * 2 + 1), none⟩ = some u ∧ IsB w u (l.getD j dA).2)
theorem IsWr.below {w w' : World} {v : Value} {l : Ats} (h : IsWr w v l) (hb : Below w.heap.size w w') : IsWr w' v l := by
  obtain ⟨a, cap, hv, hl, hm, hc⟩ := h.val
  refine ⟨a, cap, hv, hl, hm, fun hp => ?_⟩
  obtain ⟨b, off, ha, hcell⟩ := hc hp
  refine ⟨b, off, ha, fun j hj => ?_⟩
  obtain ⟨h1, u, h2, h3⟩ := hcell j hj
  exact ⟨(hb.cell (p := ⟨b, off + j * 2, none⟩) (World.block_lt_of_cell? w _ h1)).trans h1, u, (hb.cell (p := ⟨b, off + (j * 2 + 1), none⟩) (World.block_lt_of_cell? w _ h2)).trans h2, h3.below hb⟩
theorem isWr_nil (w : World) : IsWr w (.slice none 0 0) [] := ⟨none, 0, rfl, Nat.le_refl _, by decide, fun h => by simp at h⟩
/-- A number brought into 0 to m-1. -/
def modN (x : Int) (m : Nat) : Nat := (x % (m : Int)).toNat
theorem modN_lt (x : Int) {m : Nat} (h : 0 < m) : modN x m < m := by
  unfold modN
  have h1 := Int.emod_nonneg x (show (m : Int) ≠ 0 by omega)
  have h2 := Int.emod_lt_of_pos x (show (0 : Int) < m by omega)
  omega
set_option maxRecDepth 100000 in
set_option maxHeartbeats 1000000 in
theorem mod_calls {w : World} {x : Int} {m : Nat} (h0 : 0 < m) (h1 : m ≤ 1152921504606846976) : Calls Try.prog 16 #[.int .i64 x, .int .i64 (m : Int)] w fun e w' => e = .returned (.int .i64 ((modN x m : Nat) : Int)) ∧ w' = w := by
  have hm0 : ¬ (m : Int) = 0 := by omega
  have ht1 := Int.tmod_lt_of_pos x (show (0 : Int) < m by omega)
  have ht2 : -(m : Int) < x.tmod m := Int.lt_tmod_of_pos x (show (0 : Int) < m by omega)
  have hwr : IntKind.i64.wrap (x.tmod (m : Int)) = x.tmod m := IntWalk.i64_in _ (by omega)
  have hwr2 : IntKind.i64.wrap (x.tmod (m : Int) + m) = x.tmod m + m := IntWalk.i64_in _ (by omega)
  have key : ((modN x m : Nat) : Int) = if x.tmod m < 0 then x.tmod m + m else x.tmod m := by
    unfold modN
    have e1 := Int.emod_nonneg x (show (m : Int) ≠ 0 by omega)
    have e2 := Int.emod_lt_of_pos x (show (0 : Int) < m by omega)
    have hd := @Int.tmod_eq_emod x m
    by_cases hc : 0 ≤ x ∨ (m : Int) ∣ x
    · rw [if_pos hc] at hd
      rw [if_neg (by omega)]
      omega
    · rw [if_neg hc] at hd
      have hna : ((m : Int).natAbs : Int) = m := by omega
      rw [if_pos (by omega)]
      omega
  by_cases hn : x.tmod m < 0
  · rw [if_pos hn] at key
    rw [key]
    clear key
    go_enter Try.func16, Try.ntmps16
    go_wp2
    go_ret
    exact ⟨rfl, rfl⟩
  · rw [if_neg hn] at key
    rw [key]
    clear key
    go_enter Try.func16, Try.ntmps16
    go_wp2
    go_ret
    exact ⟨rfl, rfl⟩
end Go.Proofs.Ytfgjhlnaaopdeab
