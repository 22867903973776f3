/- Settle: what its loops leave. -/
import Derived.Test.YtifmfnkpogconaaDoorUnt4
namespace Go.Proofs.YtifmfnkpogconaaDoor
open Go.RowKit

def TI (t : TypeId) : Prop := t = 3
theorem Ch.grown_new {B : Nat} {T : TypeId → Prop} {a w w' : World} {row : Option Nat} (h : Ch B T a w) (hg : w.grownBy w' row) (hr : ∀ k, row = some k → a.heap.size ≤ k) : Ch B T a w' :=
  ⟨hg.os.trans h.os, hg.tape.trans h.tape, hg.output.trans h.output, Nat.le_trans h.size hg.size, fun k hk ho => (hg.block k (Nat.lt_of_lt_of_le hk h.size) (fun e => by have := hr k e.symm; omega)).trans (h.block k hk ho)⟩
/-- A slice in the block of another one, or in a new one. -/
def Loc (w : World) (u v : Value) : Prop := v.ownBlock = u.ownBlock ∨ ∃ k, v.ownBlock = some k ∧ w.heap.size ≤ k
theorem app_step {wr W W' : World} {u v v' : Value} (hG : wr.grownBy W u.ownBlock) (hg : W.grownBy W' v.ownBlock) (hv : Loc wr u v) (hat : v'.ownBlock = v.ownBlock ∨ v'.ownBlock = some W.heap.size) : wr.grownBy W' u.ownBlock ∧ Loc wr u v' := by
  refine ⟨Go.Proofs.YtifmfnkpogconaaDoor.grown_new hG hg ?_, ?_⟩
  · rcases hv with hv | ⟨k, hk, hle⟩
    · exact Or.inl hv
    · exact Or.inr fun j hj => by rw [hk] at hj; injection hj with hj; omega
  · rcases hat with hat | hat
    · rcases hv with hv | ⟨k, hk, hle⟩
      · exact Or.inl (hat.trans hv)
      · exact Or.inr ⟨k, hat.trans hk, hle⟩
    · exact Or.inr ⟨_, hat, hG.size⟩
theorem grown_refl (w : World) (row : Option Nat) : w.grownBy w row := ⟨rfl, rfl, rfl, Nat.le_refl _, fun _ _ _ => rfl⟩
section
variable {ops : Array Oper} {rest : List Oper} {o : Oper} {a : Act} {Q : Exit → Act → World → Prop} {w : World} {K : Act → World → Prop}
theorem wp_appSh (x y : Operand) (ho : o.op = .call { callee := .builtin .append, args := #[x, y], argTypes := #[49, 49] }) {B : Nat} {v : Value} {xs : List Value} {ad : Addr} {m c : Nat} {ys : List Value} (hx : a.eval x = v) (hrow : Row w B 3 v xs) (hy : a.eval y = .slice (some ad) m c) (hl2 : ys.length = m) (hys : ∀ j u, ys[j]? = some u → w.cell? (ad.add j) = some u) (h1 : ∀ u ∈ ys, u.oneCell' = true)
    (hl : xs.length + m ≤ 1000000000) (hB : B ≤ w.heap.size) (hk : ∀ v' w', Row w' B 3 v' (xs ++ ys) → w.grownBy w' v.ownBlock → (v'.ownBlock = v.ownBlock ∨ v'.ownBlock = some w.heap.size) → Shares w w' 3 v xs ys → K (a.put o.dst v') w') : o.wp Tryd.prog a w K Q := by
  obtain ⟨i0, hi, hz0, hz1, hz2⟩ := info_part infoI
  obtain ⟨v', w', hr, h2, h3, h4, h5⟩ := run_append_share (P := Tryd.prog) w B 49 o.type 3 i0 (.int .i64 0) 8 Tryd.underlying49 hi hz0 hz1 hz2 rfl v xs hrow ad m c ys hl2 hys h1 (by unfold maxLen; omega) (by omega) hB
  unfold Oper.wp execOp
  simp only [ho, resolve, invoke, builtin, Sem.run_bind, Sem.run_pure, Result.andThen_ok, List.map_toArray, List.map_cons, List.map_nil, hx, hy, hr]
  exact hk v' w' h2 h3 h4 h5
theorem wpList_appSh (hgd : o.guard = none) (x y : Operand) (ho : o.op = .call { callee := .builtin .append, args := #[x, y], argTypes := #[49, 49] }) {B : Nat} {v : Value} {xs : List Value} {ad : Addr} {m c : Nat} {ys : List Value} (hx : a.eval x = v) (hrow : Row w B 3 v xs) (hy : a.eval y = .slice (some ad) m c) (hl2 : ys.length = m) (hys : ∀ j u, ys[j]? = some u → w.cell? (ad.add j) = some u) (h1 : ∀ u ∈ ys, u.oneCell' = true)
    (hl : xs.length + m ≤ 1000000000) (hB : B ≤ w.heap.size) (hk : ∀ v' w', Row w' B 3 v' (xs ++ ys) → w.grownBy w' v.ownBlock → (v'.ownBlock = v.ownBlock ∨ v'.ownBlock = some w.heap.size) → Shares w w' 3 v xs ys → wpList Tryd.prog ops Q rest (a.put o.dst v') w') : wpList Tryd.prog ops Q (o :: rest) a w :=
  wpList_plain hgd fun _ hK => wp_appSh x y ho hx hrow hy hl2 hys h1 hl hB fun v' w' h1 h2 h3 h4 => hK _ _ (hk v' w' h1 h2 h3 h4)
end
/-- The mark of the i-th list. -/
def qv (i : Nat) : Value := .int .i64 (-1 - (i : Int))
/-- By how much a list of n numbers is lengthened. -/
def zq (n : Nat) : Nat := min n 200 + 70
/-- What the first i lists have become, lengthened. -/
def Long1 (w : World) (B S : Nat) (U : Nat → Value) (L : Nat → Nat) (ms : List Value) (i : Nat) : Prop :=
  ∀ k, k < i → ∃ u, ms[k]? = some u ∧ Row w B 3 u (longer (qv k) (qv k) (L k) (zq (L k))) ∧ (u.ownBlock = (U k).ownBlock ∨ ∃ g, u.ownBlock = some g ∧ S ≤ g)
theorem Long1.step {w w' : World} {B S : Nat} {U : Nat → Value} {R : Nat → List Value} {L : Nat → Nat} {ms : List Value} {n i : Nat} (h : Long1 w B S U L ms i) (hi : i < n) (hR : Lines w B S 3 U R n) (hg : w.grownBy w' (U i).ownBlock) : Long1 w' B S U L ms i := by
  intro k hk
  obtain ⟨u, h1, h2, h3⟩ := h k hk
  refine ⟨u, h1, h2.kept hg ?_, h3⟩
  rcases h3 with h3 | ⟨g, hg1, hg2⟩
  · rw [h3]; exact hR.apart k i (by omega) hi (by omega)
  · refine Or.inr fun e => ?_
    have := hR.hi i hi g (e.symm.trans hg1)
    omega
theorem Long1.lines {w w' : World} {B S : Nat} {U : Nat → Value} {L : Nat → Nat} {ms : List Value} {i : Nat} (h : Long1 w B S U L ms i) (hR : ∀ u xs, Row w B 3 u xs → Row w' B 3 u xs) : Long1 w' B S U L ms i := by
  intro k hk
  obtain ⟨u, h1, h2, h3⟩ := h k hk
  exact ⟨u, h1, hR _ _ h2, h3⟩
theorem Long1.add {w : World} {B S : Nat} {U : Nat → Value} {L : Nat → Nat} {ms : List Value} {i : Nat} (h : Long1 w B S U L ms i) (hm : ms.length = i) {g1 : Value} {wr : World} (hS : S ≤ wr.heap.size)
    (r1 : Row w B 3 g1 (longer (qv i) (qv i) (L i) (zq (L i)))) (l1 : Loc wr (U i) g1) : Long1 w B S U L (ms ++ [g1]) (i + 1) := by
  intro k hk
  by_cases e : k < i
  · obtain ⟨u, h1, h2, h3⟩ := h k e
    exact ⟨u, by rw [List.getElem?_append_left (by omega)]; exact h1, h2, h3⟩
  · obtain rfl : k = i := by omega
    refine ⟨g1, by rw [List.getElem?_append_right (by omega), hm, Nat.sub_self]; rfl, r1, ?_⟩
    rcases l1 with hg | ⟨j, h1, h2⟩
    · exact Or.inl hg
    · exact Or.inr ⟨j, h1, by omega⟩
def Rq (L : Nat → Nat) (X : Nat → List Value) (i : Nat) : Nat → List Value := fun k => if k < i then List.replicate (L k) (qv k) else X k
theorem Rq_lt {L : Nat → Nat} {X : Nat → List Value} {i k : Nat} (h : k < i) : Rq L X i k = List.replicate (L k) (qv k) := if_pos h
theorem Rq_ge {L : Nat → Nat} {X : Nat → List Value} {i k : Nat} (h : ¬ k < i) : Rq L X i k = X k := if_neg h
def sliceLen : Value → Nat
  | .slice _ n _ => n
  | _ => 0
end Go.Proofs.YtifmfnkpogconaaDoor
