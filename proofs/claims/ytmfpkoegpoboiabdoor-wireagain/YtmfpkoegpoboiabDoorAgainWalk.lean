/- WireAgain's walk. -/
import Derived.Test.YtmfpkoegpoboiabDoorDesks
import Derived.Test.YtmfpkoegpoboiabDoorOps
import Derived.Deep.RegionLaw
import Derived.Deep.AppendLies
namespace Go.Proofs.YtmfpkoegpoboiabDoor
open Go.RowKit

theorem infoDp : (Tryd.prog.info? 51).map (fun i => (i.zero, i.size, i.bytes)) = some (some (.pointer none), 1, 8) := by kernel_rfl
section
variable {o : Oper} {a : Act} {w : World} {K : Act → World → Prop} {Q : Exit → Act → World → Prop} {E : Prop} {ops : Array Oper}
/-- A call of a Go function with two arguments, as a step of a region. -/
theorem step_call2 (hgd : o.guard = none) (f : Nat) (hf : ∀ (v u : Value) (W : World), (callFunc f #[v, u]).run Tryd.prog W = .ok (.enter f #[v, u]) W) (x y : Operand) (ts : Array TypeId) (ho : o.op = .call { callee := .value (.func f), args := #[x, y], argTypes := ts }) {v u : Value} (hx : a.eval x = v) (hy : a.eval y = u) {R : Value → World → Prop}
    (hc : Calls Tryd.prog f #[v, u] w fun e w2 => ∃ r, e = .returned r ∧ R r w2) (hk : ∀ r w', R r w' → K (a.put o.dst r) w') : if Region.wanted o (yielded ops a.tmps) = true then Oper.wp Tryd.prog o a w K Q else E := by
  rw [if_pos (by simp [Region.wanted, hgd])]
  have hrun : (execOp a.eval o).run Tryd.prog w = .ok (.enter f #[v, u]) w := by
    have h1 := hf v u w
    unfold execOp
    have hfv : a.eval (.func f) = .func (.func f) #[] #[] := rfl
    simp [ho, hx, hy, hfv, resolve, invoke, Deferred.ofValue, h1]
  unfold Oper.wp
  rw [hrun]
  refine hc.mono ?_
  rintro e w2 ⟨r, rfl, h⟩
  exact hk r w2 h
end
theorem lend_enter (v u : Value) (W : World) : (callFunc 24 #[v, u]).run Tryd.prog W = .ok (.enter 24 #[v, u]) W := by kernel_rfl
/-- The pointers to the desks behind the first one. -/
def ptrs (G : Nat → Nat) (m : Nat) : List Value := (List.range (m - 1)).map fun k => .pointer (some ⟨G (k + 1), 0, none⟩)
theorem ptrs_len (G : Nat → Nat) (m : Nat) : (ptrs G m).length = m - 1 := by simp [ptrs]
theorem ptrs_at (G : Nat → Nat) {m k : Nat} (h : k + 1 < m) : (ptrs G m)[k]? = some (.pointer (some ⟨G (k + 1), 0, none⟩)) := by
  unfold ptrs
  rw [List.getElem?_map, List.getElem?_range (by omega)]
  rfl
/-- The desks as they stand between two calls. -/
structure Ag (w : World) (B gd : Nat) (vds : Value) (m : Nat) (G : Nat → Nat) (Rm : Nat → Value) (X : Nat → List Int) (N : Nat → Nat) : Prop where
  one : 1 ≤ m
  few : m ≤ 6000000000000
  d : Dks w B m G Rm X N
  g0 : G 0 = gd
  r : Row w B 51 vds (ptrs G m)
theorem Ag.below {w w' : World} {B gd m : Nat} {vds : Value} {G : Nat → Nat} {Rm : Nat → Value} {X : Nat → List Int} {N : Nat → Nat} (h : Ag w B gd vds m G Rm X N) (hb : Below w.heap.size w w') : Ag w' B gd vds m G Rm X N := ⟨h.one, h.few, h.d.below hb, h.g0, h.r.grown (below_grown hb)⟩

theorem Dk.low {W W' : World} {B g n : Nat} {room : Value} {xs : List Int} (h : Dk W B g room xs n) (hg : B ≤ g) (hB : B ≤ W.heap.size) (hk : Kp (Off g room) W W') : Below B W W' :=
  hk.below hB fun k hk => ⟨by omega, fun e => by have := (h.own.1.lt k e).1; omega⟩
/-- One desk has changed, and the row of pointers stands. -/
theorem Ag.step {w w' : World} {B gd m : Nat} {vds : Value} {G : Nat → Nat} {Rm : Nat → Value} {X : Nat → List Int} {N : Nat → Nat} (h : Ag w B gd vds m G Rm X N) {k n : Nat} (hk : k < m) {rm : Value} {ys : List Int} (hkp : Kp (Off (G k) (Rm k)) w w') (hd : Dk w' B (G k) rm ys n) (hl : ∀ b, rm.ownBlock = some b → (Rm k).ownBlock = some b ∨ w.heap.size ≤ b) :
    Ag w' B gd vds m G (upd Rm k rm) (upd X k ys) (upd N k n) :=
  ⟨h.one, h.few, h.d.step hk hkp hd hl, h.g0, h.r.kp hkp fun b hb => by
    obtain ⟨c, hc⟩ := h.r.blk hb
    exact (h.d.dk k hk).off hc (by decide) (by decide)⟩
theorem Ag.keep {A : Nat → Prop} {w w' : World} {B gd m : Nat} {vds : Value} {G : Nat → Nat} {Rm : Nat → Value} {X : Nat → List Int} {N : Nat → Nat} (h : Ag w B gd vds m G Rm X N) (hk : Kp A w w') (hA : ∀ k, k < m → A (G k) ∧ ∀ b, (Rm k).ownBlock = some b → A b) (hA2 : ∀ b, vds.ownBlock = some b → A b) : Ag w' B gd vds m G Rm X N :=
  ⟨h.one, h.few, h.d.keep hk hA, h.g0, h.r.kp hk hA2⟩
/-- A block of another kind than all of the desks' is set. -/
theorem Ag.away {w : World} {B gd m gp : Nat} {vds : Value} {G : Nat → Nat} {Rm : Nat → Value} {X : Nat → List Int} {N : Nat → Nat} {c : Array Value} {t : TypeId} (h : Ag w B gd vds m G Rm X N) (hb : w.heap[gp]? = some (.cells c t (0, 0))) (h1 : t ≠ 53) (h2 : t ≠ 5) (h3 : t ≠ 51) {w' : World} (hg : w.grownBy w' (some gp)) : Ag w' B gd vds m G Rm X N := by
  have hk : Kp (fun k => k ≠ gp) w w' := (Kp.refl _ _).grown hg fun k hk ha => ha (by injection hk with hk; exact hk.symm)
  refine h.keep hk (fun k hkm => ⟨(blk_ne hb (h.d.dk k hkm).blk h1).symm, fun b hbb => ?_⟩) (fun b hbb => ?_)
  · obtain ⟨c', hc'⟩ := (h.d.dk k hkm).own.row.blk hbb
    exact (blk_ne hb hc' h2).symm
  · obtain ⟨c', hc'⟩ := h.r.blk hbb
    exact (blk_ne hb hc' h3).symm
/-- While the parts come back. -/
structure P3 (W w : World) (gd go : Nat) (OC : Array Value) (xss : List (List Int)) (dv : Value) (j L m : Nat) (G : Nat → Nat) (Rm : Nat → Value) (X : Nat → List Int) (Nn : Nat → Nat) : Prop where
  ag : Ag W w.heap.size gd dv m G Rm X Nn
  lm : L + 1 ≤ m
  lk : ∀ i, j ≤ i → i < L → ∃ u, Lent Rm X Nn (i + 1) (xss.getD i []) u
  o : W.heap[go]? = some (.cells OC 56 (0, 0))
  b : Below w.heap.size w W
theorem P3.below {W W' w : World} {gd go j L m : Nat} {OC : Array Value} {xss : List (List Int)} {dv : Value} {G : Nat → Nat} {Rm : Nat → Value} {X : Nat → List Int} {Nn : Nat → Nat} (h : P3 W w gd go OC xss dv j L m G Rm X Nn) (hb : Below W.heap.size W W') : P3 W' w gd go OC xss dv j L m G Rm X Nn :=
  ⟨h.ag.below hb, h.lm, h.lk, by rw [hb.block go (Array.getElem?_eq_some_iff.1 h.o).1]; exact h.o, below_aft h.b hb⟩
/-- A desk that has lent is wiped. -/
theorem P3.wiped {W W' w : World} {gd go j j' L m q : Nat} {OC : Array Value} {xss : List (List Int)} {dv : Value} {G : Nat → Nat} {Rm : Nat → Value} {X : Nat → List Int} {Nn : Nat → Nat} (h : P3 W w gd go OC xss dv j L m G Rm X Nn) (hq : q < m) (hj : j ≤ j') (hqj : q ≤ j') {g2 R c n : Nat} {ys : List Int} (hr : Rm q = .slice (some ⟨g2, 0, none⟩) R c) (hk : Kp (Off (G q) (.slice (some ⟨g2, 0, none⟩) R c)) W W') (hd : Dk W' w.heap.size (G q) (.slice (some ⟨g2, 0, none⟩) R c) ys n) :
    P3 W' w gd go OC xss dv j' L m G (upd Rm q (.slice (some ⟨g2, 0, none⟩) R c)) (upd X q ys) (upd Nn q n) := by
  have hdk := h.ag.d.dk q hq
  rw [hr] at hdk
  have hk' := hk
  rw [← hr] at hk'
  refine ⟨h.ag.step hq hk' hd (fun b hb => Or.inl (by rw [hr]; exact hb)), h.lm, fun i h1 h2 => ?_, hk.keeps h.o (hdk.off h.o (by decide) (by decide)), h.b.trans (hdk.low (h.ag.d.lo q hq) h.b.size hk)⟩
  obtain ⟨u, hu⟩ := h.lk i (by omega) h2
  exact ⟨u, hu.upd (by omega)⟩
theorem Lent.dk {w : World} {B m : Nat} {G : Nat → Nat} {Rm : Nat → Value} {X : Nat → List Int} {N : Nat → Nat} {k : Nat} {bs : List Int} {u : Value} (h : Lent Rm X N k bs u) (hd : Dks w B m G Rm X N) (hk : k < m) : ∃ g2 R c, Rm k = .slice (some ⟨g2, 0, none⟩) R c ∧ Dk w B (G k) (.slice (some ⟨g2, 0, none⟩) R c) (lentL bs R) bs.length ∧ bs.length ≤ R := by
  obtain ⟨g2, R, c, h1, h2, h3, h4, _⟩ := h
  have := hd.dk k hk
  rw [h1, h2, h3] at this
  exact ⟨g2, R, c, h1, this, h4⟩
/-- While the parts are lent. -/
structure P2 (W w : World) (gd go gp : Nat) (OC : Array Value) (K u0 A N V : Value) (xs : List Int) (xss : List (List Int)) (dv : Value) (k m : Nat) (G : Nat → Nat) (Rm : Nat → Value) (X : Nat → List Int) (Nn : Nat → Nat) (us : List Value) (vpp : Value) : Prop where
  ag : Ag W w.heap.size gd dv m G Rm X Nn
  km : k + 1 ≤ m
  l0 : Lent Rm X Nn 0 xs u0
  ul : us.length = k
  lk : ∀ j, j < k → ∃ u, us[j]? = some u ∧ Lent Rm X Nn (j + 1) (xss.getD j []) u
  ur : Row W w.heap.size 23 vpp us
  o : W.heap[go]? = some (.cells OC 56 (0, 0))
  p : W.heap[gp]? = some (.cells #[K, u0, A, N, V, vpp] 56 (0, 0))
  b : Below w.heap.size w W
theorem P2.start {w4 w : World} {gd go gp m : Nat} {OC : Array Value} {K u0 A N V b0 b5 dv : Value} {xs : List Int} {xss : List (List Int)} {G : Nat → Nat} {Rm : Nat → Value} {X : Nat → List Int} {Nn : Nat → Nat} (ha : Ag w4 w.heap.size gd dv m G Rm X Nn) (hl : Lent Rm X Nn 0 xs u0) (hgo : w4.heap[go]? = some (.cells OC 56 (0, 0))) (hgp : w4.heap[gp]? = some (.cells #[K, b0, A, N, V, b5] 56 (0, 0))) (hne : go ≠ gp) (hb : Below w.heap.size w w4) (hgpB : w.heap.size ≤ gp) :
    P2 ((w4.setCell ⟨gp, 1, none⟩ u0).setCell ⟨gp, 5, none⟩ (.slice none 0 0)) w gd go gp OC K u0 A N V xs xss dv 0 m G Rm X Nn [] (.slice none 0 0) := by
  have s1 := grown_set1 w4 gp 1 u0
  have p1 := heap_setCell_same w4 gp 1 _ _ u0 hgp
  have a1 := ha.away hgp (by decide) (by decide) (by decide) s1
  have o1 : (w4.setCell ⟨gp, 1, none⟩ u0).heap[go]? = some (.cells OC 56 (0, 0)) := by rw [s1.block go (Array.getElem?_eq_some_iff.1 hgo).1 (by simpa using hne)]; exact hgo
  have s2 := grown_set1 (w4.setCell ⟨gp, 1, none⟩ u0) gp 5 (.slice none 0 0)
  have p2 := heap_setCell_same (w4.setCell ⟨gp, 1, none⟩ u0) gp 5 _ _ (.slice none 0 0) p1
  have a2 := a1.away p1 (by decide) (by decide) (by decide) s2
  have o2 : ((w4.setCell ⟨gp, 1, none⟩ u0).setCell ⟨gp, 5, none⟩ (.slice none 0 0)).heap[go]? = some (.cells OC 56 (0, 0)) := by rw [s2.block go (Array.getElem?_eq_some_iff.1 o1).1 (by simpa using hne)]; exact o1
  exact ⟨a2, by have := ha.one; omega, hl, rfl, fun j hj => by omega, Row.nil _ _ _, o2, p2, (hb.grown s1 hb.size (fun k hk => by injection hk with hk; omega)).grown s2 (by simp; exact hb.size) (fun k hk => by injection hk with hk; omega)⟩
theorem ptrs_add (G : Nat → Nat) {m g : Nat} (hm : 1 ≤ m) : ptrs (upd G m g) (m + 1) = ptrs G m ++ [.pointer (some ⟨g, 0, none⟩)] := by
  obtain ⟨j, rfl⟩ : ∃ j, m = j + 1 := ⟨m - 1, by omega⟩
  unfold ptrs
  simp only [Nat.add_sub_cancel]
  rw [List.range_succ, List.map_append]
  congr 1
  · apply List.map_congr_left
    intro k hk
    rw [upd_other _ _ (by have := List.mem_range.1 hk; omega)]
  · simp [upd_same]
theorem P2.more {wr w : World} {gd go gp k m : Nat} {OC : Array Value} {K u0 A N V dv vpp : Value} {xs : List Int} {xss : List (List Int)} {G : Nat → Nat} {Rm : Nat → Value} {X : Nat → List Int} {Nn : Nat → Nat} {us : List Value} (h : P2 wr w gd go gp OC K u0 A N V xs xss dv k m G Rm X Nn us vpp) (hm : m ≤ 5999999999999)
    {wa : World} (hba : Below wr.heap.size wr wa) (hblk : wa.heap[wr.heap.size]? = some (.cells #[.slice none 0 0, .int .i64 0] 53 (0, 0))) {w8 : World} {v8 : Value} (hg : wa.grownBy w8 dv.ownBlock) (hrow : w8.ownsRow w.heap.size 51 1 v8 ((ptrs G m).length + 1) (ptrs G m ++ [.pointer (some ⟨wr.heap.size, 0, none⟩)])) :
    P2 w8 w gd go gp OC K u0 A N V xs xss v8 k (m + 1) (upd G m wr.heap.size) (upd Rm m (.slice none 0 0)) (upd X m []) (upd Nn m 0) us vpp := by
  have hag := h.ag
  have hone := hag.one
  have hra := hag.r.grown (below_grown hba)
  have hda := hag.d.add hba (Nat.le_refl _) h.b.size hblk
  have hk : Kp (fun b => dv.ownBlock ≠ some b) wa w8 := (Kp.refl _ _).grown hg fun b hb ha => ha hb
  have hty : ∀ (b : Nat) (c : Array Value) (t : TypeId), wa.heap[b]? = some (.cells c t (0, 0)) → t ≠ 51 → dv.ownBlock ≠ some b := fun b c t hb ht e => by
    obtain ⟨c', hc'⟩ := hra.blk e
    exact blk_ne hb hc' ht rfl
  have oa : wa.heap[go]? = some (.cells OC 56 (0, 0)) := by rw [hba.block go (Array.getElem?_eq_some_iff.1 h.o).1]; exact h.o
  have pa : wa.heap[gp]? = some (.cells #[K, u0, A, N, V, vpp] 56 (0, 0)) := by rw [hba.block gp (Array.getElem?_eq_some_iff.1 h.p).1]; exact h.p
  have ua := h.ur.grown (below_grown hba)
  refine ⟨⟨by omega, by omega, hda.keep hk fun j hj => ⟨hty _ _ _ (hda.dk j hj).blk (by decide), fun b hb => ?_⟩, by rw [upd_other _ _ (by omega)]; exact hag.g0, ?_⟩, by have := h.km; omega, h.l0.upd (by omega), h.ul, fun j hj => ?_, ua.kp hk fun b hb => ?_, hk.keeps oa (hty _ _ _ oa (by decide)), hk.keeps pa (hty _ _ _ pa (by decide)), ?_⟩
  · obtain ⟨c', hc'⟩ := (hda.dk j hj).own.row.blk hb
    exact hty _ _ _ hc' (by decide)
  · rw [ptrs_add G hone]
    unfold Row
    rw [List.length_append]
    exact hrow
  · obtain ⟨u, h1, h2⟩ := h.lk j hj
    exact ⟨u, h1, h2.upd (by have := h.km; omega)⟩
  · obtain ⟨c', hc'⟩ := ua.blk hb
    exact hty _ _ _ hc' (by decide)
  · have hb2 := h.b
    exact (hb2.trans (hba.mono hb2.size)).grown hg (Nat.le_trans hb2.size hba.size) fun b hb => (hra.lt b hb).1
theorem P2.below {wr w w' : World} {gd go gp k m : Nat} {OC : Array Value} {K u0 A N V dv vpp : Value} {xs : List Int} {xss : List (List Int)} {G : Nat → Nat} {Rm : Nat → Value} {X : Nat → List Int} {Nn : Nat → Nat} {us : List Value} (h : P2 wr w gd go gp OC K u0 A N V xs xss dv k m G Rm X Nn us vpp) (hb : Below wr.heap.size wr w') :
    P2 w' w gd go gp OC K u0 A N V xs xss dv k m G Rm X Nn us vpp :=
  ⟨h.ag.below hb, h.km, h.l0, h.ul, h.lk, h.ur.grown (below_grown hb), by rw [hb.block go (Array.getElem?_eq_some_iff.1 h.o).1]; exact h.o, by rw [hb.block gp (Array.getElem?_eq_some_iff.1 h.p).1]; exact h.p, below_aft h.b hb⟩
theorem P2.next {W w : World} {gd go gp k m : Nat} {OC : Array Value} {K u0 A N V dv vpp : Value} {xs : List Int} {xss : List (List Int)} {G : Nat → Nat} {Rm : Nat → Value} {X : Nat → List Int} {Nn : Nat → Nat} {us : List Value} (h : P2 W w gd go gp OC K u0 A N V xs xss dv k m G Rm X Nn us vpp) (hk : k + 1 < m) (hne : go ≠ gp) (hgpB : w.heap.size ≤ gp)
    {w5 : World} {g5 R c : Nat} (hd5 : Dk w5 w.heap.size (G (k + 1)) (.slice (some ⟨g5, 0, none⟩) R c) (lentL (xss.getD k []) R) (xss.getD k []).length) (hR : (xss.getD k []).length ≤ R) (hloc : (Rm (k + 1)).ownBlock = some g5 ∨ W.heap.size ≤ g5) (hk5 : Kp (Off (G (k + 1)) (Rm (k + 1))) W w5)
    {wl : World} (hwl : Below w5.heap.size w5 wl) {v6 : Value} {w6 : World} (hr6 : w6.ownsRow w.heap.size 23 1 v6 (us.length + 1) (us ++ [.slice (some ⟨g5, 0, none⟩) (xss.getD k []).length c])) (hg6 : wl.grownBy w6 vpp.ownBlock) :
    P2 (w6.setCell ⟨gp, 5, none⟩ v6) w gd go gp OC K u0 A N V xs xss dv (k + 1) m G (upd Rm (k + 1) (.slice (some ⟨g5, 0, none⟩) R c)) (upd X (k + 1) (lentL (xss.getD k []) R)) (upd Nn (k + 1) (xss.getD k []).length) (us ++ [.slice (some ⟨g5, 0, none⟩) (xss.getD k []).length c]) v6 := by
  have hdk := h.ag.d.dk (k + 1) hk
  have hlo := h.ag.d.lo (k + 1) hk
  have hB := h.b.size
  have a5 := (h.ag.step hk hk5 hd5 (fun b hb => by
    simp only [Value.ownBlock, Option.some.injEq] at hb
    subst hb
    exact hloc)).below hwl
  have o5 : wl.heap[go]? = some (.cells OC 56 (0, 0)) := by
    have := hk5.keeps h.o (hdk.off h.o (by decide) (by decide))
    rw [hwl.block go (Array.getElem?_eq_some_iff.1 this).1]; exact this
  have p5 : wl.heap[gp]? = some (.cells #[K, u0, A, N, V, vpp] 56 (0, 0)) := by
    have := hk5.keeps h.p (hdk.off h.p (by decide) (by decide))
    rw [hwl.block gp (Array.getElem?_eq_some_iff.1 this).1]; exact this
  have u5 : Row wl w.heap.size 23 vpp us := (h.ur.kp hk5 fun b hb => by
    obtain ⟨c', hc'⟩ := h.ur.blk hb
    exact hdk.off hc' (by decide) (by decide)).grown (below_grown hwl)
  have b5 : Below w.heap.size w wl := by
    have b4 := h.b.trans (hdk.low hlo hB hk5)
    exact b4.trans (hwl.mono b4.size)
  have hk6 : Kp (fun b => vpp.ownBlock ≠ some b) wl w6 := (Kp.refl _ _).grown hg6 fun b hb ha => ha hb
  have hty : ∀ (b : Nat) (c : Array Value) (t : TypeId), wl.heap[b]? = some (.cells c t (0, 0)) → t ≠ 23 → vpp.ownBlock ≠ some b := fun b c t hb ht e => by
    obtain ⟨c', hc'⟩ := u5.blk e
    exact blk_ne hb hc' ht rfl
  have a6 := a5.keep hk6 (fun j hj => ⟨hty _ _ _ (a5.d.dk j hj).blk (by decide), fun b hb => by
    obtain ⟨c', hc'⟩ := (a5.d.dk j hj).own.row.blk hb
    exact hty _ _ _ hc' (by decide)⟩) (fun b hb => by
    obtain ⟨c', hc'⟩ := a5.r.blk hb
    exact hty _ _ _ hc' (by decide))
  have o6 := hk6.keeps o5 (hty _ _ _ o5 (by decide))
  have p6 := hk6.keeps p5 (hty _ _ _ p5 (by decide))
  have hr6' : Row w6 w.heap.size 23 v6 (us ++ [.slice (some ⟨g5, 0, none⟩) (xss.getD k []).length c]) := by unfold Row; rw [List.length_append]; exact hr6
  have s := grown_set1 w6 gp 5 v6
  have p7 := heap_setCell_same w6 gp 5 _ _ v6 p6
  have b6 := b5.grown hg6 b5.size fun b hb => (u5.lt b hb).1
  refine ⟨a6.away p6 (by decide) (by decide) (by decide) s, by omega, h.l0.upd (by omega), by simp [h.ul], fun j hj => ?_, hr6'.kept s (Or.inr fun e => ?_), by rw [s.block go (Array.getElem?_eq_some_iff.1 o6).1 (by simpa using hne)]; exact o6, p7, b6.grown s b6.size fun b hb => by injection hb with hb; omega⟩
  · by_cases e : j < k
    · obtain ⟨u, h1, h2⟩ := h.lk j e
      exact ⟨u, by rw [List.getElem?_append_left (by rw [h.ul]; exact e)]; exact h1, h2.upd (by omega)⟩
    · obtain rfl : j = k := by omega
      refine ⟨_, by rw [List.getElem?_append_right (by rw [h.ul]; exact Nat.le_refl _), h.ul, Nat.sub_self]; rfl, ⟨g5, R, c, upd_same _ _ _, upd_same _ _ _, upd_same _ _ _, hR, rfl⟩⟩
  · obtain ⟨c', hc'⟩ := hr6'.blk e
    exact blk_ne hc' p6 (by decide) rfl
set_option maxRecDepth 100000 in
set_option maxHeartbeats 4000000 in
theorem again_walk {w : World} {v : Value} {os : List OpF} (h : IsOps w v os) (hlen : os.length ≤ 140737488351232) (hT : Tab w) :
    Calls Tryd.prog 7 #[v] w fun e w' => e = .returned (.bool true) ∧ Below w.heap.size w w' := by
  obtain ⟨i0, hi, hz0, hz1, hz2⟩ := info_parts infoDp
  obtain ⟨i1, hj, hy0, hy1, hy2⟩ := info_parts info23
  have h' := h
  obtain ⟨⟨a, cap, rfl, hl, hm, hc⟩, he⟩ := h
  obtain ⟨n, hn⟩ : ∃ n, n = os.length := ⟨_, rfl⟩
  rw [← hn] at hl hc he h' hlen ⊢
  have HC := hide hc
  have HE := hide he
  have HT := hide hT
  have HST := hide (started_calls w hT)
  clear hc he hT hn h'
  go_enter Tryd.func7, Tryd.ntmps7
  go_wp2_with fail
  refine (unhide HST).mono ?_
  rintro e w1 ⟨rfl, hb1⟩
  go_wp2_with fail
  have hb2 : Below w1.heap.size w1 (w1.alloc (.cells #[.slice none 0 0, .int .i64 0] 53)) := (Below.refl _ _).alloc (Nat.le_refl _) _
  have hB2 := below_aft hb1 hb2
  have hs1 := hb1.size
  have hag : Ag (w1.alloc (.cells #[.slice none 0 0, .int .i64 0] 53)) w.heap.size w1.heap.size (.slice none 0 0) 1 (fun _ => w1.heap.size) (fun _ => .slice none 0 0) (fun _ => []) (fun _ => 0) :=
    ⟨Nat.le_refl _, by decide, ⟨fun k hk => ⟨heap_alloc_new w1 _, Own8.nil _ _, by simp, by simp⟩, fun k hk => hs1, fun j k hj hk hjk => by omega, fun j k hj hk hjk => by omega⟩, rfl, Row.nil _ _ _⟩
  obtain ⟨gd, hgd⟩ : ∃ gd, gd = w1.heap.size := ⟨_, rfl⟩
  rw [← hgd] at hag ⊢
  have HAG := hide hag
  have HB2 := hide hB2
  clear hag hgd hb2 hb1 hB2 hs1
  go_loopw [4, 5] (fun dv iv W => ∃ (i : Nat), i ≤ 2 * n ∧ iv = .int .i64 (i : Int) ∧ (∃ m G Rm X N, Ag W w.heap.size gd dv m G Rm X N) ∧ Below w.heap.size w W) (fun _ i _ => 2 * n - (intOf i).toNat)
  case atStart => exact ⟨0, by omega, rfl, ⟨_, _, _, _, _, HAG.out⟩, HB2.out⟩
  case round =>
    obtain ⟨i, hi2, rfl, ⟨m, G, Rm, X, N, hag⟩, hb⟩ := hrel
    by_cases hlt : i < 2 * n
    · obtain ⟨b, off, rfl, hcell⟩ := unhide HC (by omega)
      obtain ⟨q, hq⟩ : ∃ q, q = i / 2 := ⟨_, rfl⟩
      have hqn : q < n := by omega
      obtain ⟨q2, hq2⟩ : ∃ q2, q2 = (i / 2 + i % 2) % n := ⟨_, rfl⟩
      have hq2n : q2 < n := by rw [hq2]; exact Nat.mod_lt _ (by omega)
      have hok := (unhide HE q hqn).below hb
      have hwok := unhide HE q2 hq2n
      have hok2 := hwok.below hb
      obtain ⟨o, hoe⟩ : ∃ o, o = os.getD q .nul := ⟨_, rfl⟩
      obtain ⟨f, hfe⟩ : ∃ f, f = os.getD q2 .nul := ⟨_, rfl⟩
      have hcs := hcell q hqn
      have hcs2 := hcell q2 hq2n
      rw [← hoe] at hok hcs
      rw [← hfe] at hok2 hcs2 hwok
      have hc : ∀ j u, j < 6 → o.cells[j]? = some u → wr.cell? ⟨b, off + (q * 6 + j), none⟩ = some u := fun j u hf hu => by
        have h1 := (hcs j hf).trans hu
        exact (hb.cell (World.block_lt_of_cell? _ _ h1)).trans h1
      have hd : ∀ j u, j < 6 → f.cells[j]? = some u → wr.cell? ⟨b, off + (q2 * 6 + j), none⟩ = some u := fun j u hf hu => by
        have h1 := (hcs2 j hf).trans hu
        exact (hb.cell (World.block_lt_of_cell? _ _ h1)).trans h1
      obtain ⟨ob, obn, obc, hob⟩ := hok.b.shape
      obtain ⟨op, opc, hop, _⟩ := hok.p
      obtain ⟨fb, fbn, fbc, hfb⟩ := hok2.b.shape
      obtain ⟨fp, fpc, hfp, hfpl, hfpm, hfpc⟩ := hok2.p
      have hc0 := hc 0 _ (by omega) rfl
      have hc1 := hc 1 _ (by omega) rfl
      have hc2 := hc 2 _ (by omega) rfl
      have hc3 := hc 3 _ (by omega) rfl
      have hc4 := hc 4 _ (by omega) rfl
      have hc5 := hc 5 _ (by omega) rfl
      have hd0 := hd 0 _ (by omega) rfl
      have hd1 := hd 1 _ (by omega) rfl
      have hd2 := hd 2 _ (by omega) rfl
      have hd3 := hd 3 _ (by omega) rfl
      have hd4 := hd 4 _ (by omega) rfl
      have hd5 := hd 5 _ (by omega) rfl
      rw [hob] at hc1
      rw [hop] at hc5
      rw [hfb] at hd1
      rw [hfp] at hd5
      simp only [Nat.add_zero] at hc0 hd0
      simp only [← Nat.add_assoc] at hc1 hc2 hc3 hc4 hc5 hd1 hd2 hd3 hd4 hd5
      have hbl : b < wr.heap.size := World.block_lt_of_cell? _ _ hc0
      have hqi : (i : Int) / 2 = (q : Int) := by omega
      have hqm : ((q : Int) + (i : Int) % 2) % (n : Int) = (q2 : Int) := by
        have : (q : Int) + (i : Int) % 2 = ((i / 2 + i % 2 : Nat) : Int) := by omega
        rw [this, hq2]; rfl
      have HQ := hide hq
      have HQ2 := hide hq2
      have hwb : IsB w (.slice fb fbn fbc) f.xs := by rw [← hfb]; exact hwok.b
      have hwp : IsBB w (.slice fp f.xss.length fpc) f.xss := by rw [← hfp]; exact hwok.p
      have HWB := hide hwb
      have HWP := hide hwp
      have HWK := hide hwok
      have hwo : 0 ≤ o.V ∧ o.V ≤ 18446744073709551615 ∧ o.N ≤ 9223372036854775807 := ⟨hok.v0, hok.v1, hok.n1⟩
      have HWO := hide hwo
      have hfl : fbn = f.xs.length := hwb.lenEq
      have hfl2 := hwok.lb
      clear hwb hwp hwok hwo
      have HOK := hide hok
      have HOK2 := hide hok2
      have HHAG := hide hag
      have HBw := hide hb
      clear hc hd hcs hcs2 hcell hq hq2 hok hok2 hoe hfe hag hb hob hop hfb hfp
      have HFL := hide hfl
      have HFL2 := hide hfl2
      clear hfl hfl2
      go_wp2_with fail
      have hA1 : Below wr.heap.size wr (wr.alloc (.cells #[.int .i64 o.K, .slice fb fbn fbc, .int .i64 o.A, .int .i64 o.N, .int .u64 o.V, .slice fp f.xss.length fpc] 56)) := (Below.refl _ _).alloc (Nat.le_refl _) _
      have hgo1 : (wr.alloc (.cells #[.int .i64 o.K, .slice fb fbn fbc, .int .i64 o.A, .int .i64 o.N, .int .u64 o.V, .slice fp f.xss.length fpc] 56)).heap[wr.heap.size]? = some (.cells #[.int .i64 o.K, .slice fb fbn fbc, .int .i64 o.A, .int .i64 o.N, .int .u64 o.V, .slice fp f.xss.length fpc] 56 (0, 0)) := heap_alloc_new wr _
      have hz1' : (wr.alloc (.cells #[.int .i64 o.K, .slice fb fbn fbc, .int .i64 o.A, .int .i64 o.N, .int .u64 o.V, .slice fp f.xss.length fpc] 56)).heap.size = wr.heap.size + 1 := by simp
      generalize (wr.alloc (.cells #[.int .i64 o.K, .slice fb fbn fbc, .int .i64 o.A, .int .i64 o.N, .int .u64 o.V, .slice fp f.xss.length fpc] 56)) = wa at *
      have hA2 : Below wa.heap.size wa (wa.alloc (.cells #[.int .i64 f.K, .slice fb fbn fbc, .int .i64 f.A, .int .i64 f.N, .int .u64 f.V, .slice fp f.xss.length fpc] 56)) := (Below.refl _ _).alloc (Nat.le_refl _) _
      have hz2' : (wa.alloc (.cells #[.int .i64 f.K, .slice fb fbn fbc, .int .i64 f.A, .int .i64 f.N, .int .u64 f.V, .slice fp f.xss.length fpc] 56)).heap.size = wa.heap.size + 1 := by simp
      have hgo2 := hgo1
      rw [← hA2.block wr.heap.size (by omega)] at hgo2
      generalize (wa.alloc (.cells #[.int .i64 f.K, .slice fb fbn fbc, .int .i64 f.A, .int .i64 f.N, .int .u64 f.V, .slice fp f.xss.length fpc] 56)) = wb at *
      have hA3 : Below wb.heap.size wb (wb.alloc (.cells #[.int .i64 o.K, .slice fb fbn fbc, .int .i64 o.A, .int .i64 o.N, .int .u64 o.V, .slice fp f.xss.length fpc] 56)) := (Below.refl _ _).alloc (Nat.le_refl _) _
      have hgp3 : (wb.alloc (.cells #[.int .i64 o.K, .slice fb fbn fbc, .int .i64 o.A, .int .i64 o.N, .int .u64 o.V, .slice fp f.xss.length fpc] 56)).heap[wb.heap.size]? = some (.cells #[.int .i64 o.K, .slice fb fbn fbc, .int .i64 o.A, .int .i64 o.N, .int .u64 o.V, .slice fp f.xss.length fpc] 56 (0, 0)) := heap_alloc_new wb _
      have hgo3 := hgo2
      rw [← hA3.block wr.heap.size (by omega)] at hgo3
      generalize (wb.alloc (.cells #[.int .i64 o.K, .slice fb fbn fbc, .int .i64 o.A, .int .i64 o.N, .int .u64 o.V, .slice fp f.xss.length fpc] 56)) = wd at *
      have hAd := below_aft hA1 (below_aft hA2 hA3)
      have hag3 := (unhide HHAG).below hAd
      have hbd0 := unhide HBw
      have hbd := below_aft hbd0 hAd
      rw [show wr.heap.size + 1 + 1 = wb.heap.size by omega]
      obtain ⟨gp, hgp⟩ : ∃ gp, gp = wb.heap.size := ⟨_, rfl⟩
      obtain ⟨go, hgo⟩ : ∃ go, go = wr.heap.size := ⟨_, rfl⟩
      have hpo : go ≠ gp := by omega
      have hgpB : w.heap.size ≤ gp := by have := hbd0.size; omega
      rw [← hgp] at hgp3 ⊢
      rw [← hgo] at hgo3 ⊢
      clear hA1 hA2 hA3 hgo1 hgo2 hz1' hz2' hAd hbd0 hgp hgo hc0 hc1 hc2 hc3 hc4 hc5 hd0 hd1 hd2 hd3 hd4 hd5 hbl hqi hqm HQ HQ2 HHAG HBw HOK HOK2 hqn hq2n
      obtain ⟨L, hL⟩ : ∃ L, L = f.xss.length := ⟨_, rfl⟩
      rw [← hL] at hgp3 hgo3 HWP hfpl hfpc ⊢
      have HLL := hide hL
      have hLb : L ≤ 5864062014635 := by rw [hL]; have := (unhide HWK).lp; omega
      have hdk0 := hag3.d.dk 0 hag3.one
      have hg0 := hag3.g0
      have hlo0 := hag3.d.lo 0 hag3.one
      have hsB : w.heap.size ≤ wd.heap.size := hbd.size
      have HVB : Hid (∀ W, Kp (Off (G 0) (Rm 0)) wd W → IsB W (.slice fb fbn fbc) f.xs) := fun W hW => (unhide HWB).below (hbd.trans (hdk0.low hlo0 hsB hW))
      have HLN := hide (lend_calls hdk0 hsB (unhide HVB) HFL2.out)
      rw [hg0] at HLN
      have HAG3 := hide hag3
      have HDK0 := hide hdk0
      clear hL hdk0 hag3
      refine (unhide HLN).mono ?_
      rintro e w4 ⟨g2, R, c2, rfl, hd4, hR4, hloc4, hk4⟩
      have hag3 := HAG3.out
      have hdk0 := HDK0.out
      rw [hg0] at hdk0
      have hgp4 := hk4.keeps hgp3 (hdk0.off hgp3 (by decide) (by decide))
      have hgo4 := hk4.keeps hgo3 (hdk0.off hgo3 (by decide) (by decide))
      have hag4 := hag3.step hag3.one (by rw [hg0]; exact hk4) (by rw [hg0]; exact hd4) (fun b hb => by
        simp only [Value.ownBlock, Option.some.injEq] at hb
        subst hb
        exact hloc4)
      have hbd4 : Below w.heap.size w w4 := hbd.trans (hdk0.low (by rw [← hg0]; exact hlo0) hsB hk4)
      have hln4 : Lent (upd Rm 0 (.slice (some ⟨g2, 0, none⟩) R c2)) (upd X 0 (lentL f.xs R)) (upd N 0 f.xs.length) 0 f.xs (.slice (some ⟨g2, 0, none⟩) f.xs.length c2) := ⟨g2, R, c2, upd_same _ _ _, upd_same _ _ _, upd_same _ _ _, hR4, rfl⟩
      generalize upd Rm 0 (.slice (some ⟨g2, 0, none⟩) R c2) = Rm4 at *
      generalize upd X 0 (lentL f.xs R) = X4 at *
      generalize upd N 0 f.xs.length = N4 at *
      have hcp1 : w4.cell? ⟨gp, 1, none⟩ = some (.slice fb fbn fbc) := by rw [cell_of_row w4 gp 1 _ _ _ hgp4]; rfl
      have hfp1 := frozen_of_row w4 gp 1 _ _ hgp4
      have hcp5 : w4.cell? ⟨gp, 5, none⟩ = some (.slice fp L fpc) := by rw [cell_of_row w4 gp 5 _ _ _ hgp4]; rfl
      have hfp5 := frozen_of_row w4 gp 5 _ _ hgp4
      have HGP4 := hide hgp4
      have HGO4 := hide hgo4
      have HAG4 := hide hag4
      have HLN4 := hide hln4
      have HBD4 := hide hbd4
      clear hgp4 hgo4 hag4 hln4 hbd4 hag3 hdk0 hd4 hk4 hloc4 HLN HAG3 HDK0 HVB hgp3 hgo3 hbd hlo0 hsB hR4
      have HBU : Hid (∀ (j : Nat), j < L → ∃ bp offp, fp = some ⟨bp, offp, none⟩ ∧ ∃ a m c, (∀ W, Below w.heap.size w W → W.cell? ⟨bp, offp + j, none⟩ = some (.slice a m c) ∧ IsB W (.slice a m c) (f.xss.getD j [])) ∧ (f.xss.getD j []).length ≤ 140737488351232) := fun j hj => by
        obtain ⟨a1, c1, hv1, _, _, hcc⟩ := unhide HWP
        injection hv1 with e1 _ _
        subst e1
        obtain ⟨bp, offp, ha1, hcell⟩ := hcc (by rw [← HLL.out]; omega)
        obtain ⟨u, hu, hiu⟩ := hcell j (by rw [← HLL.out]; exact hj)
        obtain ⟨a, m, c, rfl⟩ := hiu.shape
        refine ⟨bp, offp, ha1, a, m, c, fun W hW => ⟨(hW.cell (p := ⟨bp, offp + j, none⟩) (World.block_lt_of_cell? _ _ hu)).trans hu, hiu.below hW⟩, ?_⟩
        have hjl : j < f.xss.length := by rw [← HLL.out]; exact hj
        refine (unhide HWK).lps _ ?_
        rw [List.getD_eq_getElem?_getD, List.getElem?_eq_getElem hjl]
        exact List.getElem_mem hjl
      go_wp2_with fail
      go_loopw [4, 9] (fun dv kv W => ∃ (k : Nat), k ≤ L ∧ kv = .int .i64 (k : Int) ∧ ∃ m G Rm X N us vpp, P2 W w gd go gp #[.int .i64 o.K, .slice fb fbn fbc, .int .i64 o.A, .int .i64 o.N, .int .u64 o.V, .slice fp L fpc] (.int .i64 o.K) (.slice (some ⟨g2, 0, none⟩) f.xs.length c2) (.int .i64 o.A) (.int .i64 o.N) (.int .u64 o.V) f.xs f.xss dv k m G Rm X N us vpp) (fun _ k _ => L - (intOf k).toNat)
      case atStart =>
        refine ⟨0, by omega, rfl, m, G, Rm4, X4, N4, [], .slice none 0 0, ?_⟩
        exact P2.start HAG4.out HLN4.out HGO4.out HGP4.out hpo HBD4.out hgpB
      case round =>
        clear hcp1 hfp1 hcp5 hfp5
        obtain ⟨k, hkL, rfl, m, G, Rm, X, N, us, vpp, hp2⟩ := hrel
        have hco5 : wr.cell? ⟨go, 5, none⟩ = some (.slice fp L fpc) := by rw [cell_of_row wr go 5 _ _ _ hp2.o]; rfl
        obtain ⟨ad, cd, hvd⟩ := hp2.ag.r.shape
        rw [ptrs_len] at hvd
        obtain ⟨md1, hmd⟩ : ∃ md1, md1 = m - 1 := ⟨_, rfl⟩
        rw [← hmd] at hvd
        subst hvd
        have hmk := hp2.km
        have hfew := hp2.ag.few
        have hkm : k ≤ md1 := by omega
        have HMD := hide hmd
        have HP2 := hide hp2
        have hsr : w.heap.size ≤ wr.heap.size := hp2.b.size
        have hrr := hp2.ag.r
        have HPL := hide (ptrs_len G m)
        clear hp2 hmd
        by_cases hltk : k < L
        · go_upto_if 62 with fail
          go_cut [4] (fun dv W => ∃ m G Rm X N, P2 W w gd go gp #[.int .i64 o.K, .slice fb fbn fbc, .int .i64 o.A, .int .i64 o.N, .int .u64 o.V, .slice fp L fpc] (.int .i64 o.K) (.slice (some ⟨g2, 0, none⟩) f.xs.length c2) (.int .i64 o.A) (.int .i64 o.N) (.int .u64 o.V) f.xs f.xss dv k m G Rm X N us vpp ∧ k + 2 ≤ m)
          case first =>
            have HB8 : Hid (Below wr.heap.size wr ((wr.alloc (.cells #[.slice none 0 0, .int .i64 0] 53)).alloc (.cells #[.pointer (some ⟨wr.heap.size, 0, none⟩)] 51))) := ((Below.refl _ _).alloc (Nat.le_refl _) _).alloc (by simp) _
            have HG8 : Hid (((wr.alloc (.cells #[.slice none 0 0, .int .i64 0] 53)).alloc (.cells #[.pointer (some ⟨wr.heap.size, 0, none⟩)] 51)).heap[wr.heap.size]? = some (.cells #[.slice none 0 0, .int .i64 0] 53 (0, 0))) := by
              show _ = _
              rw [(World.grownBy_alloc _ _ none).block wr.heap.size (by simp) (by simp)]
              exact heap_alloc_new wr _
            by_cases hkd : k = md1
            · have hkb : ((k : Int) == (md1 : Int)) = true := by rw [hkd]; simp
              have HKD := hide hkd
              clear hkd
              go_wp2_with (at_builtin; refine wpList_append_own _ rfl _ _ 54 rfl w.heap.size 51 i0 (.pointer none) 1 8 Tryd.underlying54 hi hz0 hz1 hz2 rfl (by decide) _ _ _ rfl (World.ownsRow.alloc (World.ownsRow.alloc hrr _) _) ⟨wr.heap.size + 1, 0, none⟩ 1 1 [.pointer (some ⟨wr.heap.size, 0, none⟩)] rfl rfl (cell_one_at _ _ _ (by simp)) (by intro u hu; simp at hu; subst hu; rfl) (by have := HPL.out; unfold maxLen; omega) (by have := HPL.out; omega) (by simp; omega) ?_; intro v8 w8 hw8 hg8 hnil8)
              go_meet
              refine ⟨_, _, _, _, _, (unhide HP2).more (by have := HMD.out; have := HKD.out; omega) (unhide HB8) (unhide HG8) hg8 hw8, by omega⟩
            · have hkb : ((k : Int) == (md1 : Int)) = false := by
                simp only [beq_eq_false_iff_ne, ne_eq]; omega
              have HKD := hide hkd
              clear hkd
              go_wp2
              go_meet
              exact ⟨m, G, Rm, X, N, HP2.out, by have := HMD.out; have := HKD.out; omega⟩
          case rest =>
            clear HP2 hrr HPL HMD hkm hmk hfew hco5 hsr
            obtain ⟨m, G, Rm, X, N, hp2, hkm2⟩ := hcut
            have hk1 : k + 1 < m := by omega
            have hag := hp2.ag
            have hco5 : wc.cell? ⟨go, 5, none⟩ = some (.slice fp L fpc) := by rw [cell_of_row wc go 5 _ _ _ hp2.o]; rfl
            obtain ⟨ap, cp, hvp⟩ := hp2.ur.shape
            rw [hp2.ul] at hvp
            subst hvp
            have hcp5 : wc.cell? ⟨gp, 5, none⟩ = some (.slice ap k cp) := by rw [cell_of_row wc gp 5 _ _ _ hp2.p]; rfl
            have hfp5 := frozen_of_row wc gp 5 _ _ hp2.p
            obtain ⟨gds, cds, hvd, hcd1, hcd2, _, hgdw⟩ := hag.r.head (by rw [ptrs_len]; omega)
            rw [ptrs_len] at hvd hcd1
            obtain ⟨md2, hmd2⟩ : ∃ md2, md2 = m - 1 := ⟨_, rfl⟩
            rw [← hmd2] at hvd hcd1
            subst hvd
            have hkmd : k < md2 := by omega
            have hcds : wc.cell? ⟨gds, k, none⟩ = some (.pointer (some ⟨G (k + 1), 0, none⟩)) := by rw [hag.r.cellAt (by rw [ptrs_len]; omega), ptrs_at G hk1]
            obtain ⟨bp, offp, rfl, pa, pm, pc, hpart, hpl⟩ := unhide HBU k hltk
            have hpc := (hpart wc hp2.b).1
            have hdk := hag.d.dk (k + 1) hk1
            have hlo := hag.d.lo (k + 1) hk1
            have hsr : w.heap.size ≤ wc.heap.size := hp2.b.size
            have hvb : ∀ W, Kp (Off (G (k + 1)) (Rm (k + 1))) wc W → IsB W (.slice pa pm pc) (f.xss.getD k []) := fun W hW => (hpart W (hp2.b.trans (hdk.low hlo hsr hW))).2
            have HLN : Hid (∀ W, Below wc.heap.size wc W → Calls Tryd.prog 24 #[.pointer (some ⟨G (k + 1), 0, none⟩), .slice pa pm pc] W fun e w' => ∃ r, e = .returned r ∧ ∃ g2 R c, r = .slice (some ⟨g2, 0, none⟩) (f.xss.getD k []).length c ∧ Dk w' w.heap.size (G (k + 1)) (.slice (some ⟨g2, 0, none⟩) R c) (lentL (f.xss.getD k []) R) (f.xss.getD k []).length ∧ (f.xss.getD k []).length ≤ R ∧ ((Rm (k + 1)).ownBlock = some g2 ∨ W.heap.size ≤ g2) ∧ Kp (Off (G (k + 1)) (Rm (k + 1))) W w') := fun W hW =>
              (lend_calls (hdk.below hW) (Nat.le_trans hsr hW.size) (fun W' hW' => hvb W' ((Kp.of_below hW).trans hW')) hpl).mono (by
                rintro e w' ⟨g2, R, c, rfl, h1, h2, h3, h4⟩
                exact ⟨_, rfl, g2, R, c, rfl, h1, h2, h3, h4⟩)
            have HK5 : Hid (∀ W w5, Below wc.heap.size wc W → Kp (Off (G (k + 1)) (Rm (k + 1))) W w5 → w5.cell? ⟨gp, 5, none⟩ = some (.slice ap k cp) ∧ w5.frozen? ⟨gp, 5, none⟩ = false ∧ w5.ownsRow w.heap.size 23 1 (.slice ap k cp) us.length us ∧ w.heap.size ≤ w5.heap.size ∧ gp < w5.heap.size) := fun W w5 hW h5 => by
              have hpW : W.heap[gp]? = some (.cells #[.int .i64 o.K, .slice (some ⟨g2, 0, none⟩) f.xs.length c2, .int .i64 o.A, .int .i64 o.N, .int .u64 o.V, .slice ap k cp] 56 (0, 0)) := by rw [hW.block gp (Array.getElem?_eq_some_iff.1 hp2.p).1]; exact hp2.p
              have e := h5.keeps hpW ((hdk.below hW).off hpW (by decide) (by decide))
              have hu := hp2.ur.grown (below_grown hW)
              refine ⟨by rw [cell_of_row w5 gp 5 _ _ _ e]; rfl, frozen_of_row w5 gp 5 _ _ e, hu.kp h5 (fun b hb => ?_), Nat.le_trans hsr (Nat.le_trans hW.size h5.size), (Array.getElem?_eq_some_iff.1 e).1⟩
              obtain ⟨c', hc'⟩ := hu.blk hb
              exact (hdk.below hW).off hc' (by decide) (by decide)
            have HK6 : Hid (∀ (W w5 w6 : World) (ob : Obj), Below wc.heap.size wc W → Kp (Off (G (k + 1)) (Rm (k + 1))) W w5 → (w5.alloc ob).grownBy w6 (Value.slice ap k cp).ownBlock → w6.cell? ⟨gp, 5, none⟩ = some (.slice ap k cp) ∧ w6.frozen? ⟨gp, 5, none⟩ = false) := fun W w5 w6 ob hW h5 h6 => by
              have hpW : W.heap[gp]? = some (.cells #[.int .i64 o.K, .slice (some ⟨g2, 0, none⟩) f.xs.length c2, .int .i64 o.A, .int .i64 o.N, .int .u64 o.V, .slice ap k cp] 56 (0, 0)) := by rw [hW.block gp (Array.getElem?_eq_some_iff.1 hp2.p).1]; exact hp2.p
              have e := h5.keeps hpW ((hdk.below hW).off hpW (by decide) (by decide))
              have e2 : w6.heap[gp]? = some (.cells #[.int .i64 o.K, .slice (some ⟨g2, 0, none⟩) f.xs.length c2, .int .i64 o.A, .int .i64 o.N, .int .u64 o.V, .slice ap k cp] 56 (0, 0)) := by
                rw [((World.grownBy_alloc w5 ob _).trans h6).block gp (Array.getElem?_eq_some_iff.1 e).1 (fun h => ?_)]
                · exact e
                · obtain ⟨c', hc'⟩ := hp2.ur.blk h.symm
                  exact blk_ne hc' hp2.p (by decide) rfl
              exact ⟨by rw [cell_of_row w6 gp 5 _ _ _ e2]; rfl, frozen_of_row w6 gp 5 _ _ e2⟩
            have HP2 := hide hp2
            have HMD2 := hide hmd2
            have HUL := hide hp2.ul
            obtain ⟨bl, hbl⟩ : ∃ bl, bl = (f.xss.getD k []).length := ⟨_, rfl⟩
            have HBL := hide hbl
            obtain ⟨gk, hgk⟩ : ∃ gk, gk = G (k + 1) := ⟨_, rfl⟩
            rw [← hgk] at hcds HLN HK5 HK6
            rw [← hbl] at HLN
            have HGK := hide hgk
            have hkc : k ≤ cds := by omega
            have hkpc : k < fpc := by omega
            have hkmi : (k : Int) < (md2 : Int) := by omega
            have hkLi : (k : Int) < (L : Int) := by omega
            clear hpart hvb hdk hag hp2 hmd2 hgk hcd2 hbl hpl hlo
            go_upto_region 20 with fail
            focus (go_region_law (first
              | (refine step_call2 (by rfl) 24 lend_enter _ _ _ (by rfl) (by rfl) (by rfl) (unhide HLN _ (Below.drew (Below.refl _ _))) ?_; rintro r5 w5 ⟨g5, R5, c5, rfl, hd5, hR5, hloc5, hk5⟩; obtain ⟨hc55, hf55, hu55, hs55, hgp55⟩ := unhide HK5 _ _ (Below.drew (Below.refl _ _)) hk5)
              | (refine step_append_lies _ (by rfl) _ _ _ (by rfl) w.heap.size 23 i1 _ 1 24 Tryd.underlying37 hj hy0 hy1 hy2 rfl (by omega) _ us.length _ (by rfl) (World.ownsRow.alloc hu55 _) ⟨w5.heap.size, 0, none⟩ 1 1 [.slice (some ⟨g5, 0, none⟩) bl c5] (by rfl) (by rfl) (cell_one_new _ _ _) (by simp [Value.oneCell']) (by omega) (by have := HUL.out; unfold maxLen; omega) (by have := HUL.out; omega) (by simp; omega) (w5.heap.size + 1) (by simp) ?_; intro g6 c6 w6 hr6 hg6 hat6 hlt6; obtain ⟨hc66, hf66⟩ := unhide HK6 _ w5 w6 _ (Below.drew (Below.refl _ _)) hk5 hg6)))
            all_goals (
              go_wp2
              go_roundw
              case rel =>
                rw [HGK.out] at hd5 hk5
                rw [HBL.out] at hd5 hR5 hr6
                exact ⟨k + 1, by omega, by go_num, m, G, _, _, _, _, _, ((unhide HP2).below (Below.drew (Below.refl _ _))).next hk1 hpo hgpB hd5 hR5 hloc5 hk5 ((Below.refl _ _).alloc (Nat.le_refl _) _) hr6 hg6⟩
              case measure => simp [intOf]; omega)
        · have hke : k = L := by omega
          have hp2 := HP2.out
          have hbb : IsBB wr vpp f.xss := by
            obtain ⟨ap, cp, hvp⟩ := hp2.ur.shape
            refine ⟨ap, cp, by rw [hvp, hp2.ul, hke, HLL.out], ?_⟩
            have hul : us.length = f.xss.length := by rw [hp2.ul, hke, HLL.out]
            have hkx : k = f.xss.length := by rw [hke, HLL.out]
            by_cases h0 : 0 < us.length
            · obtain ⟨gv, cv, hv2, h1, h2, _, _⟩ := hp2.ur.head h0
              have hvv := hvp.symm.trans hv2
              injection hvv with e1 _ e3
              subst e1 e3
              refine ⟨by omega, h2, fun _ => ⟨gv, 0, rfl, fun j hj => ?_⟩⟩
              obtain ⟨u, hu, hlu⟩ := hp2.lk j (by omega)
              have hur := hp2.ur
              rw [hv2] at hur
              exact ⟨u, by rw [Nat.zero_add, hur.cellAt (by omega), hu], hlu.isB hp2.ag.d (by have := hp2.km; omega)⟩
            · have hcap : cp ≤ 9223372036854775807 := by
                rcases hp2.ur.2 with ⟨hh, _⟩ | ⟨g9, cap9, cur9, hh, _, _, _, hm9, _⟩
                · rw [hvp] at hh
                  injection hh with _ _ h3
                  omega
                · rw [hvp] at hh
                  injection hh with _ _ h3
                  subst h3
                  simpa [maxLen] using hm9
              exact ⟨by omega, hcap, fun hp => by omega⟩
          obtain ⟨ap, cp, hvp⟩ := hp2.ur.shape
          rw [hvp] at hbb
          have hblk := hp2.p
          rw [hvp] at hblk
          have hop : IsOp wr (.agg #[.int .i64 o.K, .slice (some ⟨g2, 0, none⟩) f.xs.length c2, .int .i64 o.A, .int .i64 o.N, .int .u64 o.V, .slice ap us.length cp]) o.K o.A o.N o.V f.xs f.xss :=
            ⟨⟨_, _, _, _, _, _, rfl, hp2.l0.isB hp2.ag.d hp2.ag.one, hbb⟩, HWO.out.1, HWO.out.2.1, HWO.out.2.2, HFL2.out⟩
          have HAN := hide (answered_calls hop ((unhide HT).below hp2.b))
          have q0 : wr.cell? ⟨gp, 0, none⟩ = some (.int .i64 o.K) := cell_of_row wr gp 0 _ _ _ hblk
          have q1 : wr.cell? ⟨gp, 1, none⟩ = some (.slice (some ⟨g2, 0, none⟩) f.xs.length c2) := by rw [cell_of_row wr gp 1 _ _ _ hblk]; rfl
          have q2' : wr.cell? ⟨gp, 2, none⟩ = some (.int .i64 o.A) := by rw [cell_of_row wr gp 2 _ _ _ hblk]; rfl
          have q3 : wr.cell? ⟨gp, 3, none⟩ = some (.int .i64 o.N) := by rw [cell_of_row wr gp 3 _ _ _ hblk]; rfl
          have q4 : wr.cell? ⟨gp, 4, none⟩ = some (.int .u64 o.V) := by rw [cell_of_row wr gp 4 _ _ _ hblk]; rfl
          have q5 : wr.cell? ⟨gp, 5, none⟩ = some (.slice ap us.length cp) := by rw [cell_of_row wr gp 5 _ _ _ hblk]; rfl
          have hp3 : P3 wr w gd go #[.int .i64 o.K, .slice fb fbn fbc, .int .i64 o.A, .int .i64 o.N, .int .u64 o.V, .slice fp L fpc] f.xss (.slice ad md1 cd) 0 L m G Rm X N :=
            ⟨hp2.ag, by have := hp2.km; omega, fun i h1 h2 => by
              obtain ⟨u, _, hu⟩ := hp2.lk i (by omega)
              exact ⟨u, hu⟩, hp2.o, hp2.b⟩
          have HP3 := hide hp3
          have HL0 := hide hp2.l0
          clear hp2 hbb hop hblk hp3 hke hvp HP2 hrr HPL HMD hmk hfew hkm hsr
          go_wp2_with fail
          refine (unhide HAN).mono ?_
          rintro e w6 ⟨rfl, hb6⟩
          have h36 := (unhide HP3).below hb6
          have hco1 : w6.cell? ⟨go, 1, none⟩ = some (.slice fb fbn fbc) := by rw [cell_of_row w6 go 1 _ _ _ h36.o]; rfl
          obtain ⟨gr, Rr, cr, hrm, hdk6, hRr⟩ := (unhide HL0).dk h36.ag.d h36.ag.one
          have HBA := hide (back_calls hdk6 hRr ((unhide HWB).below h36.b))
          rw [h36.ag.g0] at HBA
          have H36 := hide h36
          have HRM := hide hrm
          have HDK6 := hide hdk6
          clear h36 hrm hdk6 q0 q1 q2' q3 q4 q5 hco5
          go_wp2_with fail
          refine (unhide HBA).mono ?_
          rintro e w7 ⟨rfl, hb7⟩
          have HWI := hide (wipe_calls ((unhide HDK6).below hb7))
          have hg00 := (unhide H36).ag.g0
          rw [hg00] at HWI
          go_wp2_with fail
          refine (unhide HWI).mono ?_
          rintro e w8 ⟨⟨r8, rfl⟩, ⟨ys8, hd8⟩, hk8⟩
          have h38 := ((unhide H36).below hb7).wiped (j' := 0) (unhide H36).ag.one (Nat.le_refl _) (Nat.le_refl _) HRM.out (by rw [hg00]; exact hk8) (by rw [hg00]; exact hd8)
          have H38 := hide h38
          clear h38 hd8 hk8 hb6 hb7 hco1 hg00
          go_wp2_with fail
          go_loopw [11] (fun kv W => ∃ (j : Nat), j ≤ L ∧ kv = .int .i64 (j : Int) ∧ ∃ Rm X N, P3 W w gd go #[.int .i64 o.K, .slice fb fbn fbc, .int .i64 o.A, .int .i64 o.N, .int .u64 o.V, .slice fp L fpc] f.xss (.slice ad md1 cd) j L m G Rm X N) (fun j _ => L - (intOf j).toNat)
          case atStart => exact ⟨0, by omega, rfl, _, _, _, H38.out⟩
          case round =>
            obtain ⟨j, hjL, rfl, Rm, X, N, hp3⟩ := hrel
            have hco5 : wr.cell? ⟨go, 5, none⟩ = some (.slice fp L fpc) := by rw [cell_of_row wr go 5 _ _ _ hp3.o]; rfl
            by_cases hj : j < L
            · have hjm : j + 1 < m := by have := hp3.lm; omega
              obtain ⟨gds, cds, hvd, hcd1, hcd2, _, hgdw⟩ := hp3.ag.r.head (by rw [ptrs_len]; omega)
              have hrr := hp3.ag.r
              injection hvd with e1 e2 e3
              subst e1 e3
              rw [ptrs_len] at e2 hcd1
              have hjd : j < md1 := by omega
              rw [← e2] at hcd1
              have hcds : wr.cell? ⟨gds, j, none⟩ = some (.pointer (some ⟨G (j + 1), 0, none⟩)) := by rw [hrr.cellAt (by rw [ptrs_len]; omega), ptrs_at G hjm]
              obtain ⟨bp, offp, rfl, pa, pm, pc, hpart, hpl⟩ := unhide HBU j hj
              have hpc := (hpart wr hp3.b).1
              have hpI := (hpart wr hp3.b).2
              obtain ⟨u, hlu⟩ := hp3.lk j (Nat.le_refl _) hj
              obtain ⟨gr2, Rr2, cr2, hrm2, hdk2, hRr2⟩ := hlu.dk hp3.ag.d hjm
              have HBK : Hid (∀ W, Below wr.heap.size wr W → Calls Tryd.prog 26 #[.pointer (some ⟨G (j + 1), 0, none⟩), .slice pa pm pc] W fun e w' => e = .returned (.bool true) ∧ Below wr.heap.size wr w') := fun W hW => by
                refine (back_calls (hdk2.below hW) hRr2 (hpI.below hW)).mono ?_
                rintro e w' ⟨rfl, h2⟩
                exact ⟨rfl, below_aft hW h2⟩
              have HWI : Hid (∀ W, Below wr.heap.size wr W → Calls Tryd.prog 27 #[.pointer (some ⟨G (j + 1), 0, none⟩)] W fun e w' => (∃ r, e = .returned r) ∧ (∃ ys, Dk w' w.heap.size (G (j + 1)) (.slice (some ⟨gr2, 0, none⟩) Rr2 cr2) ys (f.xss.getD j []).length) ∧ Kp (Off (G (j + 1)) (.slice (some ⟨gr2, 0, none⟩) Rr2 cr2)) W w') := fun W hW => wipe_calls (hdk2.below hW)
              have HSS : Hid (∀ W, Below wr.heap.size wr W → Below wr.heap.size wr W ∧ W.cell? ⟨gds, j, none⟩ = some (.pointer (some ⟨G (j + 1), 0, none⟩)) ∧ W.cell? ⟨go, 5, none⟩ = some (.slice (some ⟨bp, offp, none⟩) L fpc) ∧ W.cell? ⟨bp, offp + j, none⟩ = some (.slice pa pm pc)) := fun W hW =>
                ⟨hW, (hW.cell (p := ⟨gds, j, none⟩) (World.block_lt_of_cell? _ _ hcds)).trans hcds, (hW.cell (p := ⟨go, 5, none⟩) (World.block_lt_of_cell? _ _ hco5)).trans hco5, (hW.cell (p := ⟨bp, offp + j, none⟩) (World.block_lt_of_cell? _ _ hpc)).trans hpc⟩
              obtain ⟨gk, hgk⟩ : ∃ gk, gk = G (j + 1) := ⟨_, rfl⟩
              rw [← hgk] at hcds HBK HWI HSS
              have HGK := hide hgk
              have HRM2 := hide hrm2
              have HP3 := hide hp3
              have hji : (j : Int) < (md1 : Int) := by omega
              have hjLi : (j : Int) < (L : Int) := by omega
              have hjc : j < cd := by omega
              have hjf : j < fpc := by omega
              clear hpart hpI hlu hrm2 hdk2 hgk hp3 hrr e2 hpl
              go_wp2_with fail
              focus (go_region_held3 (fun W => Below wr.heap.size wr W ∧ W.cell? ⟨gds, j, none⟩ = some (.pointer (some ⟨gk, 0, none⟩)) ∧ W.cell? ⟨go, 5, none⟩ = some (.slice (some ⟨bp, offp, none⟩) L fpc) ∧ W.cell? ⟨bp, offp + j, none⟩ = some (.slice pa pm pc))
                ((refine unhide HSS _ ?_; repeat (first | assumption | exact Below.refl _ _ | refine Below.drew ?_)))
                (first
                  | (go_at_call 26; refine (unhide HBK _ (Below.drew (Below.refl _ _))).mono ?_; rintro e w9 ⟨rfl, hb9⟩)))
              have hc9 := (unhide HSS w9 hb9).2.1
              clear hcds hpc hco5
              go_wp2_with fail
              refine (unhide HWI w9 hb9).mono ?_
              rintro e w10 ⟨⟨r10, rfl⟩, ⟨ys10, hd10⟩, hk10⟩
              rw [HGK.out] at hd10 hk10
              have HP10 := hide (((unhide HP3).below hb9).wiped (j' := j + 1) hjm (by omega) (Nat.le_refl _) HRM2.out hk10 hd10)
              clear hd10 hk10 hc9
              go_wp2
              go_roundw
              case rel => exact ⟨j + 1, by omega, by go_num, _, _, _, HP10.out⟩
              case measure => simp [intOf]; omega
            · have HAGE := hide hp3.ag
              have HBE := hide hp3.b
              clear hp3
              go_wp2
              go_roundw
              case rel => exact ⟨i + 1, by omega, by go_num, ⟨m, G, Rm, X, N, HAGE.out⟩, HBE.out⟩
              case measure => simp [intOf]; omega
    · go_wp2
      go_ret
      exact ⟨rfl, hb⟩
end Go.Proofs.YtmfpkoegpoboiabDoor
