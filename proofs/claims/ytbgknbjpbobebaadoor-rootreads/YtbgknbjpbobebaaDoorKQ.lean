/- A disk and the document's beside it: a Read of both. The document's Load. A disk and the document's begin, and tell of themselves. The document's Write. -/
import Derived.Test.YtbgknbjpbobebaaDoorKP
import Derived.Deep.DeepCutAuto
namespace Go.Proofs.YtbgknbjpbobebaaDoor
open Go.RowKit Go.Maps

def Fp (g p gl gm : Nat) (V : Nat → Value) (b : Nat) : Prop := b = g ∨ Ft p gl gm V b
theorem wpList_storeRow {ops : Array Oper} {rest : List Oper} {o : Oper} {a : Act} {w : World} {Q : Exit → Act → World → Prop} (hgd : o.guard = none) (x y : Operand) (t : TypeId) (ho : o.op = .store t x y) {b of : Nat} {cs : List Value} (hx : a.eval x = .pointer (some ⟨b, of, none⟩)) (hy : a.eval y = .agg cs.toArray) (ht : w.there b of cs.length) (hi : (Tryd.prog.info? t).map (·.size) = some cs.length) (h1 : ∀ u ∈ cs, u.oneCell' = true)
    (hk : wpList Tryd.prog ops Q rest (a.put o.dst undef) (w.setCells b of cs)) : wpList Tryd.prog ops Q (o :: rest) a w :=
  wpList_store_mid hgd t x y ho b of cs.toArray hx hy (by rw [List.size_toArray]; exact ht) (by rw [List.size_toArray]; exact hi) (all_oneCell_toArray h1) hk
theorem Arr.setTail {w : World} {g : Nat} {t : TypeId} {c : Value} {cs : List Value} (h : Arr w g t (c :: cs)) {ds : List Value} (hl : ds.length = cs.length) : Arr (w.setCells g 1 ds) g t (c :: ds) := by
  obtain ⟨c2, h1, h2, h3⟩ := setCells_row ds 1 w (c :: cs).toArray h (by simp; omega)
  unfold Arr
  rw [h1]
  congr 2
  apply Array.ext_getElem?
  intro q
  rw [h3 q]
  cases q with
  | zero => rw [if_neg (by omega)]; simp
  | succ q =>
    by_cases hq : q < ds.length
    · rw [if_pos (by omega)]; simp
    · rw [if_neg (by omega), Array.getElem?_eq_none (by simp; omega), Array.getElem?_eq_none (by simp; omega)]
theorem drew_size (w : World) : w.drew.heap.size = w.heap.size := rfl
def z36 : List Value := [.int .i64 0, .slice none 0 0, .slice none 0 0, .int .i64 0, .int .i64 0, .int .i64 0]
theorem read_enter (v u : Value) (W : World) : (callFunc 69 #[v, u]).run Tryd.prog W = .ok (.enter 69 #[v, u]) W := by kernel_rfl
section
variable {ops : Array Oper} {o : Oper} {a : Act} {w : World} {K : Act → World → Prop} {Q : Exit → Act → World → Prop} {E : Prop}
theorem alloc36_run (W : World) : (Instr.alloc 44 true (.tuple #[])).run Tryd.prog W = .ok (.pointer (some ⟨W.heap.size, 0, none⟩)) (W.alloc (.cells z36.toArray 44)) := by kernel_rfl
theorem step_alloc36 (hgd : o.guard = none) (ho : o.op = .alloc 44) (hk : K (a.put o.dst (.pointer (some ⟨w.heap.size, 0, none⟩))) (w.alloc (.cells z36.toArray 44))) : if Region.wanted o (yielded ops a.tmps) = true then Oper.wp Tryd.prog o a w K Q else E := by
  rw [if_pos (by simp [Region.wanted, hgd])]
  unfold Oper.wp execOp
  simp only [ho, Sem.run_bind, alloc36_run w, Result.andThen_ok, Sem.run_pure]
  exact hk
end
/-- The act of one Read, where the number is a sector's, and where it is none. -/
def rdOf (D : AD) (x : Int) : Bool := decide (0 ≤ x ∧ x < D.la.length)
def AD.readAt (D : AD) (x : Int) : AD := if rdOf D x = true then D.read else D
theorem pread_any {w : World} {p gl gm : Nat} {V : Nat → Value} {D : AD} (h : Dk w p gl gm V D) (x : Int) (hr0 : 0 ≤ D.rd) (hr1 : D.rd ≤ 1152921504606846976) :
    Calls Tryd.prog 69 #[.pointer (some ⟨p, 0, none⟩), .int .i64 x] w fun e w' => ∃ v, e = .returned (.tuple #[v, .int .i64 (if rdOf D x = true then 0 else 31)]) ∧ IsB w' v (if rdOf D x = true then D.now x.toNat else []) ∧ Dk w' p gl gm V (D.readAt x) ∧ Up (Ft p gl gm V) w w' := by
  by_cases hx : 0 ≤ x ∧ x < D.la.length
  · have hd : rdOf D x = true := by unfold rdOf; exact decide_eq_true hx
    obtain ⟨i, rfl⟩ := Int.eq_ofNat_of_zero_le hx.1
    refine (read_calls (i := i) h (by omega) hr0 hr1).mono ?_
    rintro e w' ⟨g, rfl, _, hA, hD, hg⟩
    refine ⟨_, by rw [if_pos hd], ?_, ?_, Up.of_grown hg (fun b hb => Or.inl (by injection hb with hb; exact hb.symm))⟩
    · rw [if_pos hd, Int.toNat_natCast]; exact isB_arrS hA (h.ok.now (by omega))
    · unfold AD.readAt; rw [if_pos hd]; exact hD
  · have hd : rdOf D x = false := by unfold rdOf; exact decide_eq_false hx
    have hn : ¬ rdOf D x = true := by rw [hd]; decide
    refine (read_bad (x := x) h.cells.1 (by omega)).mono ?_
    rintro e w' ⟨rfl, rfl⟩
    exact ⟨_, by rw [if_neg hn], by rw [if_neg hn]; exact isB_nil _, by unfold AD.readAt; rw [if_neg hn]; exact h, Up.refl _ _⟩
def RD.readAt (R : RD) (b : Bool) : RD := { R with rd := if b = true then R.rd + 1 else R.rd }
theorem Rel.readAt {D : AD} {R : RD} (h : Rel D R) (x : Int) : Rel (D.readAt x) (R.readAt (rdOf D x)) := by
  unfold AD.readAt RD.readAt
  by_cases hd : rdOf D x = true
  · rw [if_pos hd, if_pos hd]; exact h.read
  · rw [if_neg hd, if_neg hd]; exact h
end Go.Proofs.YtbgknbjpbobebaaDoor

namespace Go.Proofs.YtbgknbjpbobebaaDoor
open Go.RowKit Go.Maps

section
variable {ops : Array Oper} {o : Oper} {a : Act} {w : World} {K : Act → World → Prop} {Q : Exit → Act → World → Prop} {E : Prop}
theorem load34_run {W : World} {ad : Addr} {v : Value} (h : W.cell? ad = some v) : (Instr.loadAt 40 (.pointer (some ad))).run Tryd.prog W = .ok v W := by
  have hu := Tryd.underlying40
  go_simp
theorem step_load34 (hgd : o.guard = none) (x : Operand) (ho : o.op = .load 40 x) {ad : Addr} {v : Value} (hx : a.eval x = .pointer (some ad)) (hc : w.cell? ad = some v) (hk : K (a.put o.dst v) w) : if Region.wanted o (yielded ops a.tmps) = true then Oper.wp Tryd.prog o a w K Q else E := by
  rw [if_pos (by simp [Region.wanted, hgd])]
  unfold Oper.wp execOp
  simp only [ho, hx, Sem.run_bind, load34_run hc, Result.andThen_ok, Sem.run_pure]
  exact hk
theorem store34_run {W : World} {ad : Addr} {v u : Value} {aa : Option Addr} {n c : Nat} (hv : v = .slice aa n c) (h : W.cell? ad = some u) (hf : W.frozen? ad = false) : (Instr.storeAt 40 (.pointer (some ad)) v).run Tryd.prog W = .ok () (W.setCell ad v) := by
  subst hv
  obtain ⟨b, o, s⟩ := ad
  have hs : s = none := by
    cases s with
    | none => rfl
    | some x => simp [World.cell?] at h; split at h <;> simp at h
  subst hs
  go_simp
theorem step_store34 (hgd : o.guard = none) (x y : Operand) (ho : o.op = .store 40 x y) {ad : Addr} {v u : Value} {aa : Option Addr} {n c : Nat} (hx : a.eval x = .pointer (some ad)) (hy : a.eval y = v) (hv : v = .slice aa n c) (hc : w.cell? ad = some u) (hf : w.frozen? ad = false) (hk : K (a.put o.dst undef) (w.setCell ad v)) : if Region.wanted o (yielded ops a.tmps) = true then Oper.wp Tryd.prog o a w K Q else E := by
  rw [if_pos (by simp [Region.wanted, hgd])]
  unfold Oper.wp execOp
  simp only [ho, hx, hy, Sem.run_bind, store34_run hv hc hf, Result.andThen_ok, Sem.run_pure]
  exact hk
theorem buildAt_run (W : World) (i : Int) (ua : Option Addr) (un uc : Nat) : (Instr.buildSlice 40 1 #[(0, .agg #[.int .i64 i, .slice ua un uc])]).run Tryd.prog W = .ok (.slice (some ⟨W.heap.size, 0, none⟩) 1 1) (W.alloc (.cells [.int .i64 i, .slice ua un uc].toArray 94)) := by kernel_rfl
theorem step_buildAt (hgd : o.guard = none) (x : Operand) (ho : o.op = .buildSlice 40 1 #[(0, x)]) {i : Int} {ua : Option Addr} {un uc : Nat} (hx : a.eval x = .agg #[.int .i64 i, .slice ua un uc])
    (hk : K (a.put o.dst (.slice (some ⟨w.heap.size, 0, none⟩) 1 1)) (w.alloc (.cells [.int .i64 i, .slice ua un uc].toArray 94))) : if Region.wanted o (yielded ops a.tmps) = true then Oper.wp Tryd.prog o a w K Q else E := by
  rw [if_pos (by simp [Region.wanted, hgd])]
  unfold Oper.wp execOp
  simp only [ho, List.map_toArray, List.map_cons, List.map_nil, hx, Sem.run_bind, buildAt_run w, Result.andThen_ok, Sem.run_pure]
  exact hk
theorem step_call1Q (hgd : o.guard = none) (f : Nat) (hf : ∀ (v : Value) (W : World), (callFunc f #[v]).run Tryd.prog W = .ok (.enter f #[v]) W) (x : Operand) (ts : Array TypeId) (ho : o.op = .call { callee := .value (.func f), args := #[x], argTypes := ts }) {v : Value} (hx : a.eval x = v)
    {Post : Ending → World → Prop} (hc : Calls Tryd.prog f #[v] w Post) (hk : ∀ e w2, Post e w2 → ∃ r, e = .returned r ∧ K (a.put o.dst r) w2) :
    if Region.wanted o (yielded ops a.tmps) = true then Oper.wp Tryd.prog o a w K Q else E := by
  rw [if_pos (by simp [Region.wanted, hgd])]
  have hrun : (execOp a.eval o).run Tryd.prog w = .ok (.enter f #[v]) w := by
    have h1 := hf v w
    unfold execOp
    have hfv : a.eval (.func f) = .func (.func f) #[] #[] := rfl
    simp [ho, hx, hfv, resolve, invoke, Deferred.ofValue, h1]
  unfold Oper.wp
  rw [hrun]
  refine hc.mono ?_
  intro e w2 hp
  obtain ⟨r, rfl, hK⟩ := hk e w2 hp
  exact hK
end
theorem copy_enter (v : Value) (W : World) : (callFunc 42 #[v]).run Tryd.prog W = .ok (.enter 42 #[v]) W := by kernel_rfl
theorem results2 {fn : Func} {p s : Tmp} {t : TypeId} {g : Nat} {tmps : Array Value} {w : World} {v u : Value} (h : fn.results = #[.cell p t, .tmp s]) (ha : tmps.getD p undef = .pointer (some ⟨g, 0, none⟩)) (hu : tmps.getD s undef = u) (hl : (loadVar t ⟨g, 0, none⟩).run Tryd.prog w = .ok v w) : (results fn tmps).run Tryd.prog w = .ok (.tuple #[v, u]) w := by
  have ha' : tmps[p]?.getD undef = .pointer (some ⟨g, 0, none⟩) := by simpa using ha
  have hu' : tmps[s]?.getD undef = u := by simpa using hu
  simp [results, h, asAddr, ha', hu', hl]
theorem z36_one : ∀ u ∈ z36, u.oneCell' = true := by
  intro u hu
  simp only [z36, List.mem_cons, List.not_mem_nil, or_false] at hu
  rcases hu with rfl | rfl | rfl | rfl | rfl | rfl <;> rfl
theorem OwnAts.shapeN {w : World} {B : Nat} {v : Value} {l : Ats} (h : OwnAts w B v l) : ∃ a n c, v = .slice a n c := by
  obtain ⟨a, c, h1⟩ := h.shape
  exact ⟨a, _, c, h1⟩
theorem OwnAts.other {w w' : World} {B g : Nat} {v : Value} {l : Ats} {cs : Array Value} {t : TypeId} {m : Nat × Nat} (h : OwnAts w B v l) (hg : w.grownBy w' (some g)) (hc : w.heap[g]? = some (.cells cs t m)) (h1 : t ≠ 5) (h2 : t ≠ 94) : OwnAts w' B v l := by
  obtain ⟨es, k1, k2, k3⟩ := h.rd
  refine ⟨es, k1.kept hg ?_, k2, fun j hj => ⟨(k3 j hj).1, (k3 j hj).2.other hg hc h1⟩⟩
  rcases k1.2 with ⟨rfl, _⟩ | ⟨g', cap, cur, rfl, _, hgg, _⟩
  · exact Or.inl rfl
  · refine Or.inr fun e => ?_
    simp only [Value.ownBlock, Option.some.injEq] at e
    subst e
    rw [hgg] at hc
    simp only [Option.some.injEq, Obj.cells.injEq] at hc
    exact h2 hc.2.1.symm
theorem OwnAts.ne {w : World} {B g : Nat} {v : Value} {l : Ats} {cs : List Value} {t : TypeId} (h : OwnAts w B v l) (hc : Arr w g t cs) (h2 : t ≠ 94) : v.ownBlock ≠ some g := by
  obtain ⟨es, k1, _⟩ := h.rd
  intro e
  rcases k1.2 with ⟨rfl, _⟩ | ⟨g', cap, cur, rfl, _, hgg, _⟩
  · cases e
  · simp only [Value.ownBlock, Option.some.injEq] at e
    subst e
    unfold Arr at hc
    rw [hgg] at hc
    simp only [Option.some.injEq, Obj.cells.injEq] at hc
    exact h2 hc.2.1.symm
end Go.Proofs.YtbgknbjpbobebaaDoor

namespace Go.Proofs.YtbgknbjpbobebaaDoor
open Go.RowKit Go.Maps

theorem rel_zero (n : Nat) : Rel (zeroD n) ⟨n, [], [], 0, 0, 0⟩ := by
  refine ⟨by simp [zeroD], fun i hi => ?_, fun i _ => rfl, fun a ha => by simp at ha, fun a ha => by simp at ha, rfl, rfl, rfl⟩
  simp only [zeroD, List.length_replicate] at hi
  simp only [zeroD]
  rw [List.getD_eq_getElem?_getD, List.getElem?_replicate, if_pos hi]
  rfl
theorem rel_load {xss : List (List Int)} (h : ∀ s ∈ xss, IsSec s) : Rel ⟨xss, fun _ => [], 0, 0, 0⟩ ⟨xss.length, atsOf xss, [], 0, 0, 0⟩ :=
  ⟨rfl, fun i hi => (lastOf_atsOf xss i hi).symm, fun _ _ => rfl, atsOf_ok xss h, fun a ha => by simp at ha, rfl, rfl, rfl⟩
theorem rel_image {D : AD} {R : RD} (h : Rel D R) : (List.range R.n).map (fun i : Nat => lastOf R.la (i : Int)) = D.la := by
  apply List.ext_getElem
  · simp [h.n]
  · intro i h1 h2
    have := h.la i h2
    rw [getD_eq h2] at this
    simp [this]
/-- A pair in memory of its own. -/
structure Born (w w' : World) (g p gl gm : Nat) (V : Nat → Value) : Prop where
  g : w.heap.size ≤ g
  p : w.heap.size ≤ p
  gl : w.heap.size ≤ gl
  gm : w.heap.size ≤ gm
  v : ∀ i, V i = .slice none 0 0
  b : Below w.heap.size w w'
theorem Born.fp {w w' : World} {g p gl gm : Nat} {V : Nat → Value} (h : Born w w' g p gl gm V) : ∀ b, Fp g p gl gm V b → w.heap.size ≤ b := by
  rintro b (rfl | rfl | rfl | rfl | ⟨i, hi⟩)
  · exact h.g
  · exact h.p
  · exact h.gl
  · exact h.gm
  · rw [h.v i] at hi; cases hi
def AD.plus (D : AD) (k : Nat) : AD := { D with rd := D.rd + k }
def RD.plus (R : RD) (k : Nat) : RD := { R with rd := R.rd + k }
theorem plus_step (D : AD) (k : Nat) (hk : k < D.la.length) : (D.plus k).readAt (k : Int) = D.plus (k + 1) := by
  have : rdOf (D.plus k) (k : Int) = true := by unfold rdOf AD.plus; exact decide_eq_true ⟨by omega, by show (k : Int) < D.la.length; omega⟩
  unfold AD.readAt
  rw [if_pos this]
  unfold AD.plus AD.read
  congr 1
  show D.rd + k + 1 = D.rd + ((k + 1 : Nat) : Int)
  omega
theorem rplus_step (D : AD) (R : RD) (k : Nat) (hk : k < D.la.length) : (R.plus k).readAt (rdOf (D.plus k) (k : Int)) = R.plus (k + 1) := by
  have : rdOf (D.plus k) (k : Int) = true := by unfold rdOf AD.plus; exact decide_eq_true ⟨by omega, by show (k : Int) < D.la.length; omega⟩
  unfold RD.readAt
  rw [if_pos this]
  unfold RD.plus
  congr 1
  show R.rd + k + 1 = R.rd + ((k + 1 : Nat) : Int)
  omega
end Go.Proofs.YtbgknbjpbobebaaDoor

namespace Go.Proofs.YtbgknbjpbobebaaDoor
open Go.RowKit Go.Maps

theorem take_succ_ats {l : Ats} {k : Nat} (hk : k < l.length) : l.take (k + 1) = l.take k ++ [((l.getD k dA).1, (l.getD k dA).2)] := by
  rw [List.take_succ_eq_append_getElem hk, getD_eq hk]
set_option maxRecDepth 100000 in
set_option maxHeartbeats 2000000 in
theorem rwrite_out {w : World} {a1 a2 : Option Addr} {n1 n2 c1 c2 : Nat} {n x rd wt fl : Int} {v : Value} (hx : x < 0 ∨ n ≤ x) :
    Calls Tryd.prog 16 #[.agg #[.int .i64 n, .slice a1 n1 c1, .slice a2 n2 c2, .int .i64 rd, .int .i64 wt, .int .i64 fl], .int .i64 x, v] w fun e w' => e = .returned (.tuple #[.agg #[.int .i64 n, .slice a1 n1 c1, .slice a2 n2 c2, .int .i64 rd, .int .i64 wt, .int .i64 fl], .int .i64 31]) ∧ Below w.heap.size w w' := by
  by_cases h0 : x < 0
  · clear hx
    go_enter Tryd.func16, Tryd.ntmps16
    go_wp2
    refine bodyPost_ret (v := .tuple #[.agg #[.int .i64 n, .slice a1 n1 c1, .slice a2 n2 c2, .int .i64 rd, .int .i64 wt, .int .i64 fl], .int .i64 31]) ?_ rfl ?_
    · simp [results, Tryd.results16, go_sem]
    · exact ⟨rfl, ((Below.refl _ _).alloc (Nat.le_refl _) _).alloc (by simp) _⟩
  · have h1 : decide (x < 0) = false := by simpa using h0
    have h2 : decide (n ≤ x) = true := by rcases hx with hx | hx; · exact absurd hx h0
                                          · simpa using hx
    clear hx h0
    go_enter Tryd.func16, Tryd.ntmps16
    go_wp2
    refine bodyPost_ret (v := .tuple #[.agg #[.int .i64 n, .slice a1 n1 c1, .slice a2 n2 c2, .int .i64 rd, .int .i64 wt, .int .i64 fl], .int .i64 31]) ?_ rfl ?_
    · simp [results, Tryd.results16, go_sem]
    · exact ⟨rfl, ((Below.refl _ _).alloc (Nat.le_refl _) _).alloc (by simp) _⟩
set_option maxRecDepth 100000 in
set_option maxHeartbeats 2000000 in
theorem rwrite_size {w : World} {a1 a2 ba : Option Addr} {n1 n2 c1 c2 bn bc i : Nat} {n rd wt fl : Int} (hi : (i : Int) < n) (hb : bn ≠ 512) :
    Calls Tryd.prog 16 #[.agg #[.int .i64 n, .slice a1 n1 c1, .slice a2 n2 c2, .int .i64 rd, .int .i64 wt, .int .i64 fl], .int .i64 (i : Int), .slice ba bn bc] w fun e w' => e = .returned (.tuple #[.agg #[.int .i64 n, .slice a1 n1 c1, .slice a2 n2 c2, .int .i64 rd, .int .i64 wt, .int .i64 fl], .int .i64 32]) ∧ Below w.heap.size w w' := by
  have h1 : decide ((i : Int) < 0) = false := by simp
  have h2 : decide (n ≤ (i : Int)) = false := by simpa using hi
  have hb2 : ¬ (bn : Int) = 512 := by omega
  clear hi
  go_enter Tryd.func16, Tryd.ntmps16
  go_wp2
  refine bodyPost_ret (v := .tuple #[.agg #[.int .i64 n, .slice a1 n1 c1, .slice a2 n2 c2, .int .i64 rd, .int .i64 wt, .int .i64 fl], .int .i64 32]) ?_ rfl ?_
  · simp [results, Tryd.results16, go_sem]
  · exact ⟨rfl, ((Below.refl _ _).alloc (Nat.le_refl _) _).alloc (by simp) _⟩
set_option maxRecDepth 100000 in
set_option maxHeartbeats 4000000 in
theorem rwrite_good {w : World} {a1 a2 ba : Option Addr} {n1 n2 c1 c2 bc i : Nat} {n rd wt fl : Int} {l : Ats} {s : List Int} (h : IsAts w (.slice a2 n2 c2) l) (hs : IsB w (.slice ba 512 bc) s) (hi : (i : Int) < n) (hl : l.length ≤ 549755813888) (hw0 : 0 ≤ wt) (hw1 : wt ≤ 1152921504606846976) :
    Calls Tryd.prog 16 #[.agg #[.int .i64 n, .slice a1 n1 c1, .slice a2 n2 c2, .int .i64 rd, .int .i64 wt, .int .i64 fl], .int .i64 (i : Int), .slice ba 512 bc] w fun e w' => ∃ a3 n3 c3, e = .returned (.tuple #[.agg (rdC n a1 n1 c1 a3 n3 c3 rd (wt + 1) fl).toArray, .int .i64 0]) ∧ IsAts w' (.slice a3 n3 c3) (l ++ [((i : Int), s)]) ∧ Below w.heap.size w w' := by
  have h1 : decide ((i : Int) < 0) = false := by simp
  have h2 : decide (n ≤ (i : Int)) = false := by simpa using hi
  have hsl : s.length = 512 := hs.lenEq.symm
  obtain ⟨a2', c2', e2, hp⟩ := h.shape
  injection e2 with e2a e2b e2c
  subst e2a e2b e2c
  have HCP : Hid (∀ W, Below w.heap.size w W → Calls Tryd.prog 42 #[.slice ba 512 bc] W fun e w' => ∃ u, e = .returned u ∧ Own8 w' W.heap.size u s ∧ Below W.heap.size W w') := fun W hW => copy_calls (hs.below hW) (by rw [hsl]; decide)
  have HA := hide h
  have hlen : l.length ≤ 9223372036854775807 := by omega
  have HTK : Hid (∀ k, k < l.length → l.take (k + 1) = l.take k ++ [((l.getD k dA).1, (l.getD k dA).2)]) := fun k hk => take_succ_ats hk
  have HTL : Hid (∀ k, k ≤ l.length → (l.take k).length = k) := fun k hk => by rw [List.length_take]; omega
  clear h hs hi hsl
  generalize hm : l.length = m at *
  have HM := hide hm
  clear hm
  have hZ0 : Arr ((w.alloc (.cells #[.int .i64 n, .slice a1 n1 c1, .slice a2 m c2, .int .i64 rd, .int .i64 wt, .int .i64 fl] 44)).alloc (.cells z36.toArray 44)) (w.heap.size + 1) 44 z36 := by
    have := Arr.new (w.alloc (.cells #[.int .i64 n, .slice a1 n1 c1, .slice a2 m c2, .int .i64 rd, .int .i64 wt, .int .i64 fl] 44)) z36 44
    rw [size_alloc] at this
    exact this
  have hX0 : Arr ((w.alloc (.cells #[.int .i64 n, .slice a1 n1 c1, .slice a2 m c2, .int .i64 rd, .int .i64 wt, .int .i64 fl] 44)).alloc (.cells z36.toArray 44)) w.heap.size 44 (rdC n a1 n1 c1 a2 m c2 rd wt fl) := (Arr.new w (rdC n a1 n1 c1 a2 m c2 rd wt fl) _).alloc _
  have hb0 : Below w.heap.size w ((w.alloc (.cells #[.int .i64 n, .slice a1 n1 c1, .slice a2 m c2, .int .i64 rd, .int .i64 wt, .int .i64 fl] 44)).alloc (.cells z36.toArray 44)) := ((Below.refl _ _).alloc (Nat.le_refl _) _).alloc (by simp) _
  go_enter Tryd.func16, Tryd.ntmps16
  go_wp2
  go_loopw [8, 9] (fun vv iv wr => ∃ k : Nat, k ≤ m ∧ iv = .int .i64 (k : Int) ∧ OwnAts wr w.heap.size vv (l.take k) ∧ Arr wr w.heap.size 44 (rdC n a1 n1 c1 a2 m c2 rd wt fl) ∧ Arr wr (w.heap.size + 1) 44 z36 ∧ Below w.heap.size w wr) (fun _ iv _ => m - (intOf iv).toNat)
  case atStart => exact ⟨0, by omega, rfl, by simpa using OwnAts.nil _ w.heap.size, hX0, hZ0, hb0⟩
  case round =>
    clear hX0 hZ0 hb0
    obtain ⟨k, hk, rfl, hown, hX, hZ, hnx⟩ := hrel
    have hsz := hnx.size
    obtain ⟨pa, pc, rfl⟩ := hown.shape
    rw [unhide HTL k hk] at hown ⊢
    have hx2 := hX.cell_of (j := 2) rfl
    have hxl := hX.lt
    by_cases hlt : k < m
    · obtain ⟨g, rfl, hle, hcm⟩ := hp (by omega)
      obtain ⟨z, hc1, hc2, hz⟩ := (HA.out.below hnx).elem (j := k) (by rw [HM.out]; exact hlt)
      obtain ⟨za, zn, zc, rfl⟩ := (Own8.isB hz).shape
      have HTk := hide (unhide HTK k hlt)
      have hAn := Arr.new wr [.int .i64 (l.getD k dA).1, .slice za zn zc] 94
      have hbn := (Below.refl wr.heap.size wr).alloc (Nat.le_refl _) (.cells [.int .i64 (l.getD k dA).1, .slice za zn zc].toArray 94)
      have HO2 := hide (hown.below hbn)
      have HZ2 := hide (hz.below hbn)
      have hsz2 : w.heap.size ≤ (wr.alloc (.cells [.int .i64 (l.getD k dA).1, .slice za zn zc].toArray 94)).heap.size := by simp; omega
      have HX2 := hide (hX.below hbn)
      have HZZ := hide (hZ.below hbn)
      have HNX := hide hnx
      have HTLk := hide (unhide HTL k hk)
      clear hown hz hX hZ hnx
      generalize (l.getD k dA).1 = y at *
      generalize (l.getD k dA).2 = ys at *
      go_wp2_with (first
        | (at_builtin; refine wpList_appAt rfl (.tmp 30) (.tmp 36) rfl rfl (unhide HO2) rfl hAn (unhide HZ2) (by rw [HTLk.out]; omega) hsz2 ?_; intro v6 w6 hO6 hg6 hv6))
      have hX6 := HX2.out.keep (hg6.block _ HX2.out.lt (HO2.out.ne HX2.out (by decide)).symm)
      have hZ6 := HZZ.out.keep (hg6.block _ HZZ.out.lt (HO2.out.ne HZZ.out (by decide)).symm)
      go_roundw
      case rel => exact ⟨k + 1, by omega, by go_num, by rw [HTk.out]; exact hO6, hX6, hZ6, below_app (HNX.out.trans (hbn.mono hsz)) hg6 hsz2 hv6⟩
      case measure => simp [intOf]; omega
    · have hkm : k = m := by omega
      have HTE : Hid (l.take k = l) := hide (List.take_of_length_le (by rw [HM.out]; omega))
      have HCu := hide (unhide HCP wr hnx)
      have HTLk := hide (unhide HTL k hk)
      have HO := hide hown
      have HX := hide hX
      have HZ := hide hZ
      have HNX := hide hnx
      have hkb : k ≤ 549755813888 := by omega
      clear hown hX hZ hnx hkm
      have hund := Tryd.underlying44
      go_wp2_with (first
        | (go_at_call 42; refine (unhide HCu).mono ?_; rintro e w2 ⟨u2, rfl, hu2, hb2⟩; obtain ⟨ua, un, uc, rfl⟩ := (Own8.isB hu2).shape; have hAn := Arr.new w2 [.int .i64 (i : Int), .slice ua un uc] 94; have hbn := (Below.refl w2.heap.size w2).alloc (Nat.le_refl _) (.cells [.int .i64 (i : Int), .slice ua un uc].toArray 94); have hO2 := (HO.out.below hb2).below hbn; have hu3 := (hu2.mono (Nat.zero_le _)).below hbn; have hX2 := (HX.out.below hb2).below hbn; have hZ2 := (HZ.out.below hb2).below hbn; have hsz2 : w.heap.size ≤ (w2.alloc (.cells [.int .i64 (i : Int), .slice ua un uc].toArray 94)).heap.size := (by have := hb2.size; simp; omega))
        | (at_builtin; refine wpList_appAt rfl (.tmp 38) (.tmp 43) rfl rfl hO2 rfl hAn hu3 (by rw [HTLk.out]; omega) hsz2 ?_; intro v6 w6 hO6 hg6 hv6; have hX6 := hX2.keep (hg6.block _ hX2.lt (hO2.ne hX2 (by decide)).symm); have hZ6 := hZ2.keep (hg6.block _ hZ2.lt (hO2.ne hZ2 (by decide)).symm); obtain ⟨ya, yn, yc, rfl⟩ := hO6.shapeN; have hc62 := hX6.cell_of (j := 2) rfl; have hf62 := hX6.frozen 2; have hc64 := hX6.cell_of (j := 4) rfl; have hf64 := hX6.frozen 4; have hX7 : Arr ((w6.setCell ⟨w.heap.size, 2, none⟩ (.slice ya yn yc)).setCell ⟨w.heap.size, 4, none⟩ (.int .i64 (wt + 1))) w.heap.size 44 (rdC n a1 n1 c1 ya yn yc rd (wt + 1) fl) := (hX6.set 2 _).set 4 _; have hZ7 : Arr ((w6.setCell ⟨w.heap.size, 2, none⟩ (.slice ya yn yc)).setCell ⟨w.heap.size, 4, none⟩ (.int .i64 (wt + 1))) (w.heap.size + 1) 44 z36 := (hZ6.other ⟨w.heap.size, 2, none⟩ _ (by simp)).other ⟨w.heap.size, 4, none⟩ _ (by simp))
        | (refine wpList_load_mid rfl 44 (.tmp 3) rfl w.heap.size 0 rfl (rdC n a1 n1 c1 ya yn yc rd (wt + 1) fl) _ hX7.range hund rfl info36 ?_)
        | (refine wpList_storeRow (cs := (rdC n a1 n1 c1 ya yn yc rd (wt + 1) fl)) rfl (.tmp 6) (.tmp 53) 44 rfl rfl rfl hZ7.there info36 (rdC_one _ _ _ _ _ _ _ _ _ _) ?_))
      have hg8a := grown_cell w6 w.heap.size 2 (.slice ya yn yc)
      have hg8b := grown_cell (w6.setCell ⟨w.heap.size, 2, none⟩ (.slice ya yn yc)) w.heap.size 4 (.int .i64 (wt + 1))
      have hg8c := grown_setCells ((w6.setCell ⟨w.heap.size, 2, none⟩ (.slice ya yn yc)).setCell ⟨w.heap.size, 4, none⟩ (.int .i64 (wt + 1))) (w.heap.size + 1) 0 (rdC n a1 n1 c1 ya yn yc rd (wt + 1) fl)
      have hXa := hX6.set 2 (.slice ya yn yc)
      have hI8 := ((hO6.isAts.other hg8a hX6 (by decide) (by decide)).other hg8b hXa (by decide) (by decide)).other hg8c hZ7 (by decide) (by decide)
      have hZ8 := hZ7.setAll (ds := (rdC n a1 n1 c1 ya yn yc rd (wt + 1) fl)) rfl
      have hB6 : Below w.heap.size w w6 := below_app ((HNX.out.trans (hb2.mono hsz)).trans (hbn.mono (by have := hb2.size; omega))) hg6 hsz2 hv6
      have hB8 : Below w.heap.size w (((w6.setCell ⟨w.heap.size, 2, none⟩ (.slice ya yn yc)).setCell ⟨w.heap.size, 4, none⟩ (.int .i64 (wt + 1))).setCells (w.heap.size + 1) 0 (rdC n a1 n1 c1 ya yn yc rd (wt + 1) fl)) := ((hB6.setCell (Nat.le_refl _) _).setCell (Nat.le_refl _) _).grown hg8c (by have := hB6.size; simp; omega) (fun j hj => by injection hj with hj; omega)
      rw [HTE.out] at hI8
      generalize ((w6.setCell ⟨w.heap.size, 2, none⟩ (.slice ya yn yc)).setCell ⟨w.heap.size, 4, none⟩ (.int .i64 (wt + 1))).setCells (w.heap.size + 1) 0 (rdC n a1 n1 c1 ya yn yc rd (wt + 1) fl) = w8 at *
      have hload : (loadVar 44 ⟨w.heap.size + 1, 0, none⟩).run Tryd.prog w8 = .ok (.agg (rdC n a1 n1 c1 ya yn yc rd (wt + 1) fl).toArray) w8 := run_loadVar_mid _ _ 0 _ _ _ hZ8.range hund rfl info36
      refine bodyPost_ret (v := .tuple #[.agg (rdC n a1 n1 c1 ya yn yc rd (wt + 1) fl).toArray, .int .i64 0]) ?_ rfl ?_
      · exact results2 rfl rfl rfl hload
      · exact ⟨ya, yn, yc, rfl, hI8, hB8⟩
end Go.Proofs.YtbgknbjpbobebaaDoor
