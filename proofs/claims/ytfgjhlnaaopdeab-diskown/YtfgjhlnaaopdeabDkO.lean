/- DiskMakes: disks of every number of sectors, and of every image. -/
import Derived.Test.YtfgjhlnaaopdeabDkM
namespace Go.Proofs.Ytfgjhlnaaopdeab
open Go.RowKit Go.Maps

section
variable {ops : Array Oper} {o : Oper} {a : Act} {w : World} {K : Act → World → Prop} {Q : Exit → Act → World → Prop} {E : Prop}
theorem step_call1Gd (hw : Region.wanted o (yielded ops a.tmps) = true) (f : Nat) (hf : ∀ (v : Value) (W : World), (callFunc f #[v]).run Try.prog W = .ok (.enter f #[v]) W) (x : Operand) (ts : Array TypeId) (ho : o.op = .call { callee := .value (.func f), args := #[x], argTypes := ts }) {v : Value} (hx : a.eval x = v)
    {Post : Ending → World → Prop} (hc : Calls Try.prog f #[v] w Post) (hk : ∀ e w2, Post e w2 → ∃ r, e = .returned r ∧ K (a.put o.dst r) w2) :
    if Region.wanted o (yielded ops a.tmps) = true then Oper.wp Try.prog o a w K Q else E := by
  rw [if_pos hw]
  have hrun : (execOp a.eval o).run Try.prog w = .ok (.enter f #[v]) w := by
    have h1 := hf v w
    unfold execOp
    have hfv : a.eval (.func f) = .func (.func f) #[] #[] := rfl
    simp [ho, hx, hfv, resolve, invoke, Deferred.ofValue, h1]
  unfold Oper.wp
  rw [hrun]
  refine hc.mono ?_
  intro e w2 hp
  obtain ⟨r, rfl, hK⟩ := hk e w2 hp
  exact hK
theorem step_call2Gd (hw : Region.wanted o (yielded ops a.tmps) = true) (f : Nat) (hf : ∀ (v u : Value) (W : World), (callFunc f #[v, u]).run Try.prog W = .ok (.enter f #[v, u]) W) (x y : Operand) (ts : Array TypeId) (ho : o.op = .call { callee := .value (.func f), args := #[x, y], argTypes := ts }) {v u : Value} (hx : a.eval x = v) (hy : a.eval y = u)
    {Post : Ending → World → Prop} (hc : Calls Try.prog f #[v, u] w Post) (hk : ∀ e w2, Post e w2 → ∃ r, e = .returned r ∧ K (a.put o.dst r) w2) :
    if Region.wanted o (yielded ops a.tmps) = true then Oper.wp Try.prog o a w K Q else E := by
  rw [if_pos hw]
  have hrun : (execOp a.eval o).run Try.prog w = .ok (.enter f #[v, u]) w := by
    have h1 := hf v u w
    unfold execOp
    have hfv : a.eval (.func f) = .func (.func f) #[] #[] := rfl
    simp [ho, hx, hy, hfv, resolve, invoke, Deferred.ofValue, h1]
  unfold Oper.wp
  rw [hrun]
  refine hc.mono ?_
  intro e w2 hp
  obtain ⟨r, rfl, hK⟩ := hk e w2 hp
  exact hK
theorem step_loadGd (hw : Region.wanted o (yielded ops a.tmps) = true) (x : Operand) (t : TypeId) (ho : o.op = .load t x) {b of : Nat} {cs : List Value} {d : TypeDesc} (hx : a.eval x = .pointer (some ⟨b, of, none⟩)) (hr : w.rangeAt b of cs) (hu : Try.prog.underlying t = some d) (hd : d.isRow = true) (hi : (Try.prog.info? t).map (·.size) = some cs.length)
    (hk : K (a.put o.dst (.agg cs.toArray)) w) : if Region.wanted o (yielded ops a.tmps) = true then Oper.wp Try.prog o a w K Q else E := by
  rw [if_pos hw]
  exact wp_load_mid _ x ho b of hx cs _ hr hu hd hi hk
end
theorem sect_enter (v : Value) (W : World) : (callFunc 14 #[v]).run Try.prog W = .ok (.enter 14 #[v]) W := by kernel_rfl
theorem acts_enter (v : Value) (W : World) : (callFunc 22 #[v]).run Try.prog W = .ok (.enter 22 #[v]) W := by kernel_rfl
theorem does_enter (v u : Value) (W : World) : (callFunc 29 #[v, u]).run Try.prog W = .ok (.enter 29 #[v, u]) W := by kernel_rfl
theorem info32 : (Try.prog.info? 48).map (·.size) = some 3 := by kernel_rfl
theorem told_new {w w' : World} {p gl gm : Nat} {V : Nat → Value} {xss : List (List Int)} {b1 : Option Addr} {m1 d1 : Nat} (hD : Dk w p gl gm V ⟨xss, fun _ => [], 0, 0, 0⟩) (hb : Below w.heap.size w w') (hA : IsAts w' (.slice b1 m1 d1) (atsOf xss)) (hxs : ∀ s ∈ xss, IsSec s) :
    Calls Try.prog 30 #[.pointer (some ⟨w'.heap.size + 1, 0, none⟩)] ((w'.alloc (.cells #[.int .i64 (xss.length : Int), .slice b1 m1 d1, .slice none 0 0, .int .i64 0, .int .i64 0, .int .i64 0] 85)).alloc (.cells #[.pointer (some ⟨p, 0, none⟩), .int .i64 (xss.length : Int), .slice b1 m1 d1, .slice none 0 0, .int .i64 0, .int .i64 0, .int .i64 0] 89))
      fun e w2 => e = .returned (.bool true) ∧ Up (Fp (w'.heap.size + 1) p gl gm V) ((w'.alloc (.cells #[.int .i64 (xss.length : Int), .slice b1 m1 d1, .slice none 0 0, .int .i64 0, .int .i64 0, .int .i64 0] 85)).alloc (.cells #[.pointer (some ⟨p, 0, none⟩), .int .i64 (xss.length : Int), .slice b1 m1 d1, .slice none 0 0, .int .i64 0, .int .i64 0, .int .i64 0] 89)) w2 := by
  have hbA : Below w'.heap.size w' ((w'.alloc (.cells #[.int .i64 (xss.length : Int), .slice b1 m1 d1, .slice none 0 0, .int .i64 0, .int .i64 0, .int .i64 0] 85)).alloc (.cells #[.pointer (some ⟨p, 0, none⟩), .int .i64 (xss.length : Int), .slice b1 m1 d1, .slice none 0 0, .int .i64 0, .int .i64 0, .int .i64 0] 89)) := ((Below.refl _ _).alloc (Nat.le_refl _) _).alloc (by simp) _
  have hG := Arr.new (w'.alloc (.cells #[.int .i64 (xss.length : Int), .slice b1 m1 d1, .slice none 0 0, .int .i64 0, .int .i64 0, .int .i64 0] 85)) [.pointer (some ⟨p, 0, none⟩), .int .i64 (xss.length : Int), .slice b1 m1 d1, .slice none 0 0, .int .i64 0, .int .i64 0, .int .i64 0] 89
  rw [size_alloc] at hG
  exact told_calls (D := ⟨xss, fun _ => [], 0, 0, 0⟩) (R := ⟨xss.length, atsOf xss, [], 0, 0, 0⟩) ⟨⟨b1, m1, d1, none, 0, 0, hG, hA.below hbA, IsAts.nil _⟩, (hD.below hb).below hbA, rel_load hxs⟩ (Int.le_refl 0) (by show (0 : Int) ≤ 576460752303423488; decide)
/-- What the two Loads come to. -/
def Loads (w : World) (v : Value) (xss : List (List Int)) : Prop :=
  (∃ c : Int, (c = 30 ∨ c = 32) ∧ (∀ W, Below w.heap.size w W → Calls Try.prog 12 #[v] W fun e w' => e = .returned (.tuple #[.pointer none, .int .i64 c]) ∧ Below W.heap.size W w') ∧
    (∀ W, Below w.heap.size w W → Calls Try.prog 47 #[v] W fun e w' => e = .returned (.tuple #[.agg #[.int .i64 0, .slice none 0 0, .slice none 0 0, .int .i64 0, .int .i64 0, .int .i64 0], .int .i64 c]) ∧ Below W.heap.size W w')) ∨
  ((∀ W, Below w.heap.size w W → Calls Try.prog 12 #[v] W fun e w' => ∃ p gl gm V, e = .returned (.tuple #[.pointer (some ⟨p, 0, none⟩), .int .i64 0]) ∧ Dk w' p gl gm V ⟨xss, fun _ => [], 0, 0, 0⟩ ∧ W.heap.size ≤ p ∧ W.heap.size ≤ gl ∧ W.heap.size ≤ gm ∧ (∀ i, V i = .slice none 0 0) ∧ Below W.heap.size W w') ∧
    (∀ W, Below w.heap.size w W → Calls Try.prog 47 #[v] W fun e w' => ∃ b1 m1 d1, e = .returned (.tuple #[.agg #[.int .i64 (xss.length : Int), .slice b1 m1 d1, .slice none 0 0, .int .i64 0, .int .i64 0, .int .i64 0], .int .i64 0]) ∧ IsAts w' (.slice b1 m1 d1) (atsOf xss) ∧ Below W.heap.size W w'))
theorem loads_any {w : World} {v : Value} {xss : List (List Int)} (h : IsBB w v xss) : ∃ yss, (∀ s ∈ yss, IsSec s) ∧ Loads w v yss := by
  obtain ⟨a, cap, rfl, hl, hm, hc⟩ := h
  by_cases hr : xss.length < 2 ∨ 65536 < xss.length
  · refine ⟨[], by simp, Or.inl ⟨30, Or.inl rfl, fun W hb => ?_, fun W hb => ?_⟩⟩
    · exact (load_few hr (by omega)).mono (by rintro e w' ⟨rfl, rfl⟩; exact ⟨rfl, Below.refl _ _⟩)
    · exact rload_few hr (by omega)
  · obtain ⟨b, off, rfl, hcell⟩ := hc (by omega)
    have hcW : ∀ W, Below w.heap.size w W → ∀ j, j < xss.length → ∃ u, W.cell? ⟨b, off + j, none⟩ = some u ∧ IsB W u (xss.getD j []) := fun W hb j hj => by
      obtain ⟨u, hu, hI⟩ := hcell j hj
      exact ⟨u, (hb.cell (p := ⟨b, off + j, none⟩) (World.block_lt_of_cell? w _ hu)).trans hu, hI.below hb⟩
    by_cases hall : ∀ j, j < xss.length → (xss.getD j []).length = 512
    · refine ⟨xss, fun s hs => ?_, Or.inr ⟨fun W hb => ?_, fun W hb => ?_⟩⟩
      · obtain ⟨j, hj, rfl⟩ := List.getElem_of_mem hs
        obtain ⟨u, hu, hI⟩ := hcell j hj
        have h1 := hall j hj
        rw [getD_eq hj] at h1 hI
        exact ⟨h1, hI.mem⟩
      · refine (load_walk (xss := xss) rfl (by omega) (by omega) hl hm (hcW W hb)).mono ?_
        rintro e w' ⟨hb2, ⟨rfl, j, hj, hne⟩ | ⟨p, gl, gm, V, rfl, _, hD, h1, h2, h3, h4⟩⟩
        · exact absurd (hall j hj) hne
        · exact ⟨p, gl, gm, V, rfl, hD, h1, h2, h3, h4, hb2⟩
      · refine (rload_walk (xss := xss) rfl (by omega) (by omega) hl hm (hcW W hb)).mono ?_
        rintro e w' ⟨hb2, ⟨rfl, j, hj, hne⟩ | ⟨b1, m1, d1, rfl, _, hA⟩⟩
        · exact absurd (hall j hj) hne
        · exact ⟨b1, m1, d1, rfl, hA, hb2⟩
    · refine ⟨[], by simp, Or.inl ⟨32, Or.inr rfl, fun W hb => ?_, fun W hb => ?_⟩⟩
      · refine (load_walk (xss := xss) rfl (by omega) (by omega) hl hm (hcW W hb)).mono ?_
        rintro e w' ⟨hb2, ⟨rfl, _⟩ | ⟨p, gl, gm, V, rfl, h1, _⟩⟩
        · exact ⟨rfl, hb2⟩
        · exact absurd h1 hall
      · refine (rload_walk (xss := xss) rfl (by omega) (by omega) hl hm (hcW W hb)).mono ?_
        rintro e w' ⟨hb2, ⟨rfl, _⟩ | ⟨b1, m1, d1, rfl, h1, _⟩⟩
        · exact ⟨rfl, hb2⟩
        · exact absurd h1 hall
end Go.Proofs.Ytfgjhlnaaopdeab
