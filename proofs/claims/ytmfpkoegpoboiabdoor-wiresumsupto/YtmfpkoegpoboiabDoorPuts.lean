/- Frames whose scratch slots hold whatever was put there, in whatever order; steps of a region that draws, over such a frame. -/
import Derived.Test.YtmfpkoegpoboiabDoorBs
import Derived.Deep.RegionHeld3
namespace Go.Proofs.YtmfpkoegpoboiabDoor
open Go.RowKit

def updV (vs : Nat → Value) (d : Nat) (v : Value) : Nat → Value := fun j => if j = d then v else vs j
/-- The frame with these values in the listed slots. -/
def putsL (fr : Act) (l : List Nat) (vs : Nat → Value) : Act := l.foldl (fun a d => a.put (some d) (vs d)) fr
theorem putsL_defers (vs : Nat → Value) : ∀ (l : List Nat) (fr : Act), (putsL fr l vs).defers = fr.defers
  | [], _ => rfl
  | d :: l, fr => (putsL_defers vs l (fr.put (some d) (vs d))).trans rfl
theorem putsL_size (vs : Nat → Value) : ∀ (l : List Nat) (fr : Act), (putsL fr l vs).tmps.size = fr.tmps.size
  | [], _ => rfl
  | d :: l, fr => (putsL_size vs l (fr.put (some d) (vs d))).trans (by simp [Act.put])
theorem putsL_get (vs : Nat → Value) : ∀ (l : List Nat) (fr : Act) (j : Nat), (putsL fr l vs).tmps[j]? = if j ∈ l ∧ j < fr.tmps.size then some (vs j) else fr.tmps[j]?
  | [], fr, j => by simp [putsL]
  | d :: l, fr, j => by
    have h := putsL_get vs l (fr.put (some d) (vs d)) j
    have hs : (fr.put (some d) (vs d)).tmps.size = fr.tmps.size := by simp [Act.put]
    rw [hs] at h
    have e : putsL fr (d :: l) vs = putsL (fr.put (some d) (vs d)) l vs := rfl
    rw [e, h]
    by_cases h1 : j ∈ l ∧ j < fr.tmps.size
    · rw [if_pos h1, if_pos ⟨List.mem_cons_of_mem _ h1.1, h1.2⟩]
    · rw [if_neg h1]
      have e2 : (fr.put (some d) (vs d)).tmps[j]? = (fr.tmps.setIfInBounds d (vs d))[j]? := rfl
      rw [e2, Array.getElem?_setIfInBounds]
      by_cases h2 : d = j
      · subst h2
        by_cases h3 : d < fr.tmps.size
        · simp [h3]
        · simp [h3]
      · rw [if_neg h2, if_neg]
        rintro ⟨h3, h4⟩
        rcases List.mem_cons.1 h3 with h3 | h3
        · exact h2 h3.symm
        · exact h1 ⟨h3, h4⟩
theorem act_ext {a b : Act} (h : a.defers = b.defers) (ht : ∀ j : Nat, a.tmps[j]? = b.tmps[j]?) : a = b := by
  obtain ⟨t, d⟩ := a
  obtain ⟨t', d'⟩ := b
  have e : t = t' := Array.ext_getElem? (fun j => ht j)
  have e2 : d = d' := h
  rw [e, e2]
theorem putsL_put {fr : Act} {l : List Nat} {vs : Nat → Value} {d : Nat} (hd : d ∈ l) (v : Value) : (putsL fr l vs).put (some d) v = putsL fr l (updV vs d v) := by
  refine act_ext ((putsL_defers vs l fr).trans (putsL_defers _ l fr).symm) fun j => ?_
  have e : ((putsL fr l vs).put (some d) v).tmps[j]? = ((putsL fr l vs).tmps.setIfInBounds d v)[j]? := rfl
  rw [e, Array.getElem?_setIfInBounds, putsL_size, putsL_get, putsL_get]
  by_cases h2 : d = j
  · subst h2
    by_cases h3 : d < fr.tmps.size
    · simp [h3, hd, updV]
    · simp [h3]
  · have : updV vs d v j = vs j := if_neg (Ne.symm h2)
    rw [if_neg h2, this]
theorem putsL_start (fr : Act) (l : List Nat) : fr = putsL fr l (fun d => fr.tmps.getD d undef) := by
  refine act_ext (putsL_defers _ l fr).symm fun j => ?_
  rw [putsL_get]
  by_cases h : j ∈ l ∧ j < fr.tmps.size
  · rw [if_pos h]
    simp [h.2]
  · rw [if_neg h]
theorem putsL_eval {fr : Act} {l : List Nat} {vs : Nat → Value} {d : Nat} (hd : d ∈ l) (hs : d < fr.tmps.size) : (putsL fr l vs).eval (.tmp d) = vs d := by
  have h := putsL_get vs l fr d
  rw [if_pos ⟨hd, hs⟩] at h
  show (putsL fr l vs).tmps.getD d undef = _
  rw [Array.getD_eq_getD_getElem?, h]
  rfl
theorem updV_eq {vs : Nat → Value} {d : Nat} {v : Value} : updV vs d v d = v := if_pos rfl
theorem updV_ne {vs : Nat → Value} {d j : Nat} {v : Value} (h : j ≠ d) : updV vs d v j = vs j := if_neg h
section
variable {o : Oper} {a : Act} {w : World} {K : Act → World → Prop} {Q : Exit → Act → World → Prop} {E : Prop} {ops : Array Oper}
/-- A literal of one slice is laid. -/
theorem step_lit1 (hgd : o.guard = none) (x : Operand) (ho : o.op = .buildSlice 37 1 #[(0, x)]) {aa : Option Addr} {n c : Nat} (hx : a.eval x = .slice aa n c) (hk : K (a.put o.dst (.slice (some ⟨w.heap.size, 0, none⟩) 1 1)) (w.alloc (.cells #[.slice aa n c] 23))) :
    if Region.wanted o (yielded ops a.tmps) = true then Oper.wp Tryd.prog o a w K Q else E := by
  rw [if_pos (by simp [Region.wanted, hgd])]
  have hrun : (execOp a.eval o).run Tryd.prog w = .ok (.value (.slice (some ⟨w.heap.size, 0, none⟩) 1 1)) (w.alloc (.cells #[.slice aa n c] 23)) := by
    have hB : (Instr.buildSlice 37 1 #[(0, .slice aa n c)]).run Tryd.prog w = .ok (.slice (some ⟨w.heap.size, 0, none⟩) 1 1) (w.alloc (.cells #[.slice aa n c] 23)) := by kernel_rfl
    unfold execOp
    simp only [ho, List.map_toArray, List.map_cons, List.map_nil, hx, Sem.run_bind, hB, Result.andThen_ok, Sem.run_pure]
  unfold Oper.wp
  rw [hrun]
  exact hk
/-- A call of a Go function with one argument. -/
theorem step_call1 (hgd : o.guard = none) (f : Nat) (hf : ∀ (v : Value) (W : World), (callFunc f #[v]).run Tryd.prog W = .ok (.enter f #[v]) W) (x : Operand) (ts : Array TypeId) (ho : o.op = .call { callee := .value (.func f), args := #[x], argTypes := ts }) {v : Value} (hx : a.eval x = v) {r : Value} {w' : World} (hc : Calls Tryd.prog f #[v] w fun e w2 => e = .returned r ∧ w2 = w') (hk : K (a.put o.dst r) w') :
    if Region.wanted o (yielded ops a.tmps) = true then Oper.wp Tryd.prog o a w K Q else E := by
  rw [if_pos (by simp [Region.wanted, hgd])]
  have hrun : (execOp a.eval o).run Tryd.prog w = .ok (.enter f #[v]) w := by
    have h1 := hf v w
    unfold execOp
    have hfv : a.eval (.func f) = .func (.func f) #[] #[] := rfl
    simp [ho, hx, hfv, resolve, invoke, Deferred.ofValue, h1]
  unfold Oper.wp
  rw [hrun]
  refine hc.mono ?_
  rintro e w2 ⟨rfl, rfl⟩
  exact hk
end
section
variable {md : Region.Mode} {ops : Array Oper} {Q : Exit → Act → World → Prop} {fuel : Nat} {listed : Array Bool} {a : Act} {w : World}
theorem wpAny_fr (h : ∀ fr, fr = a → wpAny Tryd.prog md ops Q fuel listed fr w) : wpAny Tryd.prog md ops Q fuel listed a w := h a rfl
/-- The region's condition, closed. -/
theorem wpAny_close (h : ∀ (R : Nat → Array Bool → Act → World → Prop) (QN : Act → World → Prop), (∀ f l b v, R f l b v = wpAny Tryd.prog md ops Q f l b v) → (∀ b v, QN b v = Q .normal b v) → R fuel listed a w) : wpAny Tryd.prog md ops Q fuel listed a w := h _ _ (fun _ _ _ _ => rfl) (fun _ _ => rfl)
/-- An operation that leaves the world as it is, over a frame of scratch. -/
theorem wpAny_scr (i : Nat) (d : Tmp) (v : Value) {fr : Act} {l : List Nat} {vs : Nat → Value} {oi : Oper} (hi : ops[i]? = some oi) (hd : oi.dst = some d) (hl : d ∈ l) (hs : Region.noSelect ops = true) (hf : Region.free md ops listed i = true) (hr : (Region.ready md ops listed).contains i = true)
    (hQ : ∀ c a w, Q (.panic c) (a.put oi.dst v) w → Q (.panic c) a w) (hy : Yields Tryd.prog ops oi v (putsL fr l vs)) (h : wpAny Tryd.prog md ops Q fuel (listed.setIfInBounds i true) (putsL fr l (updV vs d v)) w) : wpAny Tryd.prog md ops Q (fuel + 1) listed (putsL fr l vs) w :=
  wpAny_take hi hs hf hr hQ hy (by rw [hd, putsL_put hl]; exact h)
theorem yields_move {o : Oper} {x : Operand} {v : Value} (hg : o.guard = none) (ho : o.op = .move x) (hx : a.eval x = v) : Yields Tryd.prog ops o v a :=
  Or.inl ⟨by simp [Region.wanted, hg], fun w => by simp [execOp, ho, hx]⟩
theorem elemS2 : Tryd.prog.underlying 23 = some (.slice (Tryd.prog.elem 23)) := by kernel_rfl
theorem sizeS2 (W : World) : (sizeOf (Tryd.prog.elem 23)).run Tryd.prog W = .ok 1 W := by kernel_rfl
theorem slice_to (aa : Option Addr) (n cap t : Nat) (ht : t ≤ cap) (W : World) : (Instr.sliceAt 23 (.slice aa n cap) none (some (.int .i64 (t : Int))) none).run Tryd.prog W = .ok (.slice aa t cap) W := by
  rw [run_sliceAt_slice W _ _ _ _ _ elemS2, run_slice_h W _ aa n cap elemS2 .i64 t (by omega) (by omega), sizeS2]
  simp [Result.andThen, sliced]
  intro _
  cases aa with
  | none => rfl
  | some ad => simp [Addr.add]
theorem yields_to {o : Oper} {x y : Operand} {aa : Option Addr} {n cap t : Nat} (hg : o.guard = none) (ho : o.op = .slice 23 x none (some y) none) (hx : a.eval x = .slice aa n cap) (hy : a.eval y = .int .i64 (t : Int)) (ht : t ≤ cap) : Yields Tryd.prog ops o (.slice aa t cap) a :=
  Or.inl ⟨by simp [Region.wanted, hg], fun w => by
    have h := slice_to aa n cap t ht w
    simp [execOp, ho, hx, hy, h]⟩
theorem yields_bin {o : Oper} {x y : Operand} {op : BinOp} {t t' : TypeId} {u v r : Value} (hg : o.guard = none) (ho : o.op = .binOp op t x y t') (hx : a.eval x = u) (hy : a.eval y = v) (hq : ∀ W, (eqGuard op t x y u v).run Tryd.prog W = .ok () W) (hb : ∀ W, (binOp op t u v).run Tryd.prog W = .ok r W) : Yields Tryd.prog ops o r a :=
  Or.inl ⟨by simp [Region.wanted, hg], fun w => by
    unfold execOp
    simp only [ho, hx, hy, Sem.run_bind, hq, hb, Result.andThen_ok, Sem.run_pure]⟩
theorem guard_ints (op : BinOp) (t : TypeId) (x y : Operand) (k k' : IntKind) (m n : Int) (W : World) : (eqGuard op t x y (.int k m) (.int k' n)).run Tryd.prog W = .ok () W := by
  unfold eqGuard
  cases op <;> simp
theorem xor_ints (t : TypeId) (m n : Int) (W : World) : (binOp .xor t (.int .u32 m) (.int .u32 n)).run Tryd.prog W = .ok (.int .u32 (bits .xor .u32 m n)) W := by
  go_simp
theorem neq_ints (t : TypeId) (m : Int) (W : World) : (binOp .neq t (.int .u32 m) (.int .u32 m)).run Tryd.prog W = .ok (.bool false) W := by
  go_simp
/-- Whichever of these comes. -/
theorem wpAny_scrs {rs : List Nat} {R : Nat → Array Bool → Act → World → Prop} (hR : ∀ f l b v, R f l b v = wpAny Tryd.prog md ops Q f l b v) (hr : Region.ready md ops listed = rs) (hne : rs ≠ []) (h : AllReady Tryd.prog md ops Q fuel listed a w rs) : R (fuel + 1) listed a w := by
  rw [hR]
  exact wpAny_ready hr hne h
end
end Go.Proofs.YtmfpkoegpoboiabDoor
