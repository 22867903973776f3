/- A region that draws its order, walked by hand: one operation at a time over a frame that is a letter. -/
import Derived.Test.YtmnmnepiikeomaaDoorShaPart
namespace Go.Proofs.YtmnmnepiikeomaaDoor
open Go.RowKit

/-- From there one goes on. -/
structure Goes (A K : Act → World → Prop) : Prop where
  go : ∀ a w, A a w → K a w
/-- One operation's condition, closed: where a term is asked of it nothing is reckoned. -/
structure OpWp (P : Program) (o : Oper) (a : Act) (w : World) (K : Act → World → Prop) (Q : Exit → Act → World → Prop) : Prop where
  out : Oper.wp P o a w K Q
section
variable {P : Program} {md : Region.Mode} {ops : Array Oper} {Q : Exit → Act → World → Prop} {fuel : Nat} {listed : Array Bool} {a : Act} {w : World}
theorem wpAny_gen (h : ∀ fr, fr = a → wpAny P md ops Q fuel listed fr w) : wpAny P md ops Q fuel listed a w := h a rfl
/-- Just one operation can come. -/
theorem wpAny_one (i : Nat) {o : Oper} (hr : Region.ready md ops listed = [i]) (ho : ops[i]? = some o) (hg : o.guard = none) (h : ∀ K : Act → World → Prop, Goes (wpAny P md ops Q fuel (listed.setIfInBounds i true)) K → OpWp P o a w K Q) : wpAny P md ops Q (fuel + 1) listed a w :=
  wpAny_ready hr (by simp) (AllReady.cons ho (fun K hK => by rw [if_pos (by simp [Region.wanted, hg])]; exact (h K ⟨hK⟩).out) AllReady.nil)
/-- An operation that leaves the world as it is, ahead of the others. -/
theorem wpAny_val (i : Nat) (d : Tmp) (v : Value) {oi : Oper} (hi : ops[i]? = some oi) (hd : oi.dst = some d) (hs : Region.noSelect ops = true) (hf : Region.free md ops listed i = true) (hr : (Region.ready md ops listed).contains i = true)
    (hQ : ∀ c a w, Q (.panic c) (a.put oi.dst v) w → Q (.panic c) a w) (hy : Yields P ops oi v a) (h : wpAny P md ops Q fuel (listed.setIfInBounds i true) (a.put (some d) v) w) : wpAny P md ops Q (fuel + 1) listed a w :=
  wpAny_take hi hs hf hr hQ hy (hd ▸ h)
end
section
variable {o : Oper} {a : Act} {w : World} {K : Act → World → Prop} {Q : Exit → Act → World → Prop}
theorem wp_loadPart (d : Tmp) (x : Operand) (t : TypeId) (hd : o.dst = some d) (ho : o.op = .load t x) {g off n : Nat} {t0 e : TypeId} {cs : List Value} (cs' : List Value) (hx : a.eval x = .pointer (some ⟨g, off, none⟩)) (h : Arr w g t0 cs) (hp : ∀ j v, cs'[j]? = some v → cs[off + j]? = some v)
    (hu : Tryd.prog.underlying t = some (.array n e)) (hi : (Tryd.prog.info? t).map (·.size) = some cs'.length) (hk : K (a.put (some d) (.agg cs'.toArray)) w) : OpWp Tryd.prog o a w K Q := by
  refine ⟨?_⟩
  have h0 := load_part h hp hu hi
  have h1 : (Instr.loadAt t (.pointer (some ⟨g, off, none⟩))).run Tryd.prog w = .ok (.agg cs'.toArray) w := by
    simp only [Instr.loadAt, Instr.sureAddr, Sem.run_bind, Sem.run_pure, Result.andThen]
    exact h0
  unfold Oper.wp execOp
  simp only [ho, hx, Sem.run_bind, h1, Result.andThen_ok, Sem.run_pure]
  rw [← hd] at hk
  exact hk
theorem wp_storePart (x y : Operand) (t : TypeId) (hd : o.dst = none) (ho : o.op = .store t x y) {g off : Nat} {t0 : TypeId} {cs : List Value} (cs' : List Value) (hx : a.eval x = .pointer (some ⟨g, off, none⟩)) (hy : a.eval y = .agg cs'.toArray) (h : Arr w g t0 cs) (hi : (Tryd.prog.info? t).map (·.size) = some cs'.length)
    (hf : off + cs'.length ≤ cs.length) (h1 : ∀ u ∈ cs', u.oneCell' = true) (hk : ∀ w', Arr w' g t0 (cs.take off ++ cs' ++ cs.drop (off + cs'.length)) → Wrote w w' g → K a w') : OpWp Tryd.prog o a w K Q := by
  refine ⟨?_⟩
  have h2 := store_part h hf h1 hi
  unfold Oper.wp execOp
  simp only [ho, hx, hy, Sem.run_bind, h2, Result.andThen_ok, Sem.run_pure]
  have := hk _ (setRow_heap w g _ _ t0 _ h) ⟨fun k hk => Go.setRow_other w g k _ hk, by simp, fun _ _ hb hB => below_setRow hb hB _⟩
  have e : a.put o.dst undef = a := by rw [hd]; rfl
  show K (a.put o.dst undef) _
  rw [e]
  exact this
end
end Go.Proofs.YtmnmnepiikeomaaDoor
