/- DiskMakes: disks of every number of sectors, and of every image. -/
import Derived.Test.YtfgjhlnaaopdeaaDkM
namespace Go.Proofs.Ytfgjhlnaaopdeaa
open Go.RowKit Go.Maps

section
variable {ops : Array Oper} {o : Oper} {a : Act} {w : World} {K : Act → World → Prop} {Q : Exit → Act → World → Prop} {E : Prop}
theorem step_call1Gd (hw : Region.wanted o (yielded ops a.tmps) = true) (f : Nat) (hf : ∀ (v : Value) (W : World), (callFunc f #[v]).run Try.prog W = .ok (.enter f #[v]) W) (x : Operand) (ts : Array TypeId) (ho : o.op = .call { callee := .value (.func f), args := #[x], argTypes := ts }) {v : Value} (hx : a.eval x = v)
    {Post : Ending → World → Prop} (hc : Calls Try.prog f #[v] w Post) (hk : ∀ e w2, Post e w2 → ∃ r, e = .returned r ∧ K (a.put o.dst r) w2) :
    if Region.wanted o (yielded ops a.tmps) = true then Oper.wp Try.prog o a w K Q else E := by
  rw [if_pos hw]
  have hrun : (execOp a.eval o).run Try.prog w = .ok (.enter f #[v]) w := by
    have h1 := hf v w
    unfold execOp
    have hfv : a.eval (.func f) = .func (.func f) #[] #[] := rfl
    simp [ho, hx, hfv, resolve, invoke, Deferred.ofValue, h1]
  unfold Oper.wp
  rw [hrun]
  refine hc.mono ?_
  intro e w2 hp
  obtain ⟨r, rfl, hK⟩ := hk e w2 hp
  exact hK
theorem step_call2Gd (hw : Region.wanted o (yielded ops a.tmps) = true) (f : Nat) (hf : ∀ (v u : Value) (W : World), (callFunc f #[v, u]).run Try.prog W = .ok (.enter f #[v, u]) W) (x y : Operand) (ts : Array TypeId) (ho : o.op = .call { callee := .value (.func f), args := #[x, y], argTypes := ts }) {v u : Value} (hx : a.eval x = v) (hy : a.eval y = u)
    {Post : Ending → World → Prop} (hc : Calls Try.prog f #[v, u] w Post) (hk : ∀ e w2, Post e w2 → ∃ r, e = .returned r ∧ K (a.put o.dst r) w2) :
    if Region.wanted o (yielded ops a.tmps) = true then Oper.wp Try.prog o a w K Q else E := by
  rw [if_pos hw]
  have hrun : (execOp a.eval o).run Try.prog w = .ok (.enter f #[v, u]) w := by
    have h1 := hf v u w
    unfold execOp
    have hfv : a.eval (.func f) = .func (.func f) #[] #[] := rfl
    simp [ho, hx, hy, hfv, resolve, invoke, Deferred.ofValue, h1]
  unfold Oper.wp
  rw [hrun]
  refine hc.mono ?_
  intro e w2 hp
  obtain ⟨r, rfl, hK⟩ := hk e w2 hp
  exact hK
theorem step_loadGd (hw : Region.wanted o (yielded ops a.tmps) = true) (x : Operand) (t : TypeId) (ho : o.op = .load t x) {b of : Nat} {cs : List Value} {d : TypeDesc} (hx : a.eval x = .pointer (some ⟨b, of, none⟩)) (hr : w.rangeAt b of cs) (hu : Try.prog.underlying t = some d) (hd : d.isRow = true) (hi : (Try.prog.info? t).map (·.size) = some cs.length)
    (hk : K (a.put o.dst (.agg cs.toArray)) w) : if Region.wanted o (yielded ops a.tmps) = true then Oper.wp Try.prog o a w K Q else E := by
  rw [if_pos hw]
  exact wp_load_mid _ x ho b of hx cs _ hr hu hd hi hk
end
theorem sect_enter (v : Value) (W : World) : (callFunc 13 #[v]).run Try.prog W = .ok (.enter 13 #[v]) W := by kernel_rfl
theorem acts_enter (v : Value) (W : World) : (callFunc 11 #[v]).run Try.prog W = .ok (.enter 11 #[v]) W := by kernel_rfl
theorem does_enter (v u : Value) (W : World) : (callFunc 10 #[v, u]).run Try.prog W = .ok (.enter 10 #[v, u]) W := by kernel_rfl
theorem info32 : (Try.prog.info? 32).map (·.size) = some 3 := by kernel_rfl
theorem told_new {w w' : World} {p gl gm : Nat} {V : Nat → Value} {xss : List (List Int)} {b1 : Option Addr} {m1 d1 : Nat} (hD : Dk w p gl gm V ⟨xss, fun _ => [], 0, 0, 0⟩) (hb : Below w.heap.size w w') (hA : IsAts w' (.slice b1 m1 d1) (atsOf xss)) (hxs : ∀ s ∈ xss, IsSec s) :
    Calls Try.prog 12 #[.pointer (some ⟨w'.heap.size + 1, 0, none⟩)] ((w'.alloc (.cells #[.int .i64 (xss.length : Int), .slice b1 m1 d1, .slice none 0 0, .int .i64 0, .int .i64 0, .int .i64 0] 36)).alloc (.cells #[.pointer (some ⟨p, 0, none⟩), .int .i64 (xss.length : Int), .slice b1 m1 d1, .slice none 0 0, .int .i64 0, .int .i64 0, .int .i64 0] 38))
      fun e w2 => e = .returned (.bool true) ∧ Up (Fp (w'.heap.size + 1) p gl gm V) ((w'.alloc (.cells #[.int .i64 (xss.length : Int), .slice b1 m1 d1, .slice none 0 0, .int .i64 0, .int .i64 0, .int .i64 0] 36)).alloc (.cells #[.pointer (some ⟨p, 0, none⟩), .int .i64 (xss.length : Int), .slice b1 m1 d1, .slice none 0 0, .int .i64 0, .int .i64 0, .int .i64 0] 38)) w2 := by
  have hbA : Below w'.heap.size w' ((w'.alloc (.cells #[.int .i64 (xss.length : Int), .slice b1 m1 d1, .slice none 0 0, .int .i64 0, .int .i64 0, .int .i64 0] 36)).alloc (.cells #[.pointer (some ⟨p, 0, none⟩), .int .i64 (xss.length : Int), .slice b1 m1 d1, .slice none 0 0, .int .i64 0, .int .i64 0, .int .i64 0] 38)) := ((Below.refl _ _).alloc (Nat.le_refl _) _).alloc (by simp) _
  have hG := Arr.new (w'.alloc (.cells #[.int .i64 (xss.length : Int), .slice b1 m1 d1, .slice none 0 0, .int .i64 0, .int .i64 0, .int .i64 0] 36)) [.pointer (some ⟨p, 0, none⟩), .int .i64 (xss.length : Int), .slice b1 m1 d1, .slice none 0 0, .int .i64 0, .int .i64 0, .int .i64 0] 38
  rw [size_alloc] at hG
  exact told_calls (D := ⟨xss, fun _ => [], 0, 0, 0⟩) (R := ⟨xss.length, atsOf xss, [], 0, 0, 0⟩) ⟨⟨b1, m1, d1, none, 0, 0, hG, hA.below hbA, IsAts.nil _⟩, (hD.below hb).below hbA, rel_load hxs⟩ (Int.le_refl 0) (by show (0 : Int) ≤ 576460752303423488; decide)
/-- What the two Loads come to. -/
def Loads (w : World) (v : Value) (xss : List (List Int)) : Prop :=
  (∃ c : Int, (c = 30 ∨ c = 32) ∧ (∀ W, Below w.heap.size w W → Calls Try.prog 14 #[v] W fun e w' => e = .returned (.tuple #[.pointer none, .int .i64 c]) ∧ Below W.heap.size W w') ∧
    (∀ W, Below w.heap.size w W → Calls Try.prog 15 #[v] W fun e w' => e = .returned (.tuple #[.agg #[.int .i64 0, .slice none 0 0, .slice none 0 0, .int .i64 0, .int .i64 0, .int .i64 0], .int .i64 c]) ∧ Below W.heap.size W w')) ∨
  ((∀ W, Below w.heap.size w W → Calls Try.prog 14 #[v] W fun e w' => ∃ p gl gm V, e = .returned (.tuple #[.pointer (some ⟨p, 0, none⟩), .int .i64 0]) ∧ Dk w' p gl gm V ⟨xss, fun _ => [], 0, 0, 0⟩ ∧ W.heap.size ≤ p ∧ W.heap.size ≤ gl ∧ W.heap.size ≤ gm ∧ (∀ i, V i = .slice none 0 0) ∧ Below W.heap.size W w') ∧
    (∀ W, Below w.heap.size w W → Calls Try.prog 15 #[v] W fun e w' => ∃ b1 m1 d1, e = .returned (.tuple #[.agg #[.int .i64 (xss.length : Int), .slice b1 m1 d1, .slice none 0 0, .int .i64 0, .int .i64 0, .int .i64 0], .int .i64 0]) ∧ IsAts w' (.slice b1 m1 d1) (atsOf xss) ∧ Below W.heap.size W w'))
theorem loads_any {w : World} {v : Value} {xss : List (List Int)} (h : IsBB w v xss) : ∃ yss, (∀ s ∈ yss, IsSec s) ∧ Loads w v yss := by
  obtain ⟨a, cap, rfl, hl, hm, hc⟩ := h
  by_cases hr : xss.length < 2 ∨ 65536 < xss.length
  · refine ⟨[], by simp, Or.inl ⟨30, Or.inl rfl, fun W hb => ?_, fun W hb => ?_⟩⟩
    · exact (load_few hr (by omega)).mono (by rintro e w' ⟨rfl, rfl⟩; exact ⟨rfl, Below.refl _ _⟩)
    · exact rload_few hr (by omega)
  · obtain ⟨b, off, rfl, hcell⟩ := hc (by omega)
    have hcW : ∀ W, Below w.heap.size w W → ∀ j, j < xss.length → ∃ u, W.cell? ⟨b, off + j, none⟩ = some u ∧ IsB W u (xss.getD j []) := fun W hb j hj => by
      obtain ⟨u, hu, hI⟩ := hcell j hj
      exact ⟨u, (hb.cell (p := ⟨b, off + j, none⟩) (World.block_lt_of_cell? w _ hu)).trans hu, hI.below hb⟩
    by_cases hall : ∀ j, j < xss.length → (xss.getD j []).length = 512
    · refine ⟨xss, fun s hs => ?_, Or.inr ⟨fun W hb => ?_, fun W hb => ?_⟩⟩
      · obtain ⟨j, hj, rfl⟩ := List.getElem_of_mem hs
        obtain ⟨u, hu, hI⟩ := hcell j hj
        have h1 := hall j hj
        rw [getD_eq hj] at h1 hI
        exact ⟨h1, hI.mem⟩
      · refine (load_walk (xss := xss) rfl (by omega) (by omega) hl hm (hcW W hb)).mono ?_
        rintro e w' ⟨hb2, ⟨rfl, j, hj, hne⟩ | ⟨p, gl, gm, V, rfl, _, hD, h1, h2, h3, h4⟩⟩
        · exact absurd (hall j hj) hne
        · exact ⟨p, gl, gm, V, rfl, hD, h1, h2, h3, h4, hb2⟩
      · refine (rload_walk (xss := xss) rfl (by omega) (by omega) hl hm (hcW W hb)).mono ?_
        rintro e w' ⟨hb2, ⟨rfl, j, hj, hne⟩ | ⟨b1, m1, d1, rfl, _, hA⟩⟩
        · exact absurd (hall j hj) hne
        · exact ⟨b1, m1, d1, rfl, hA, hb2⟩
    · refine ⟨[], by simp, Or.inl ⟨32, Or.inr rfl, fun W hb => ?_, fun W hb => ?_⟩⟩
      · refine (load_walk (xss := xss) rfl (by omega) (by omega) hl hm (hcW W hb)).mono ?_
        rintro e w' ⟨hb2, ⟨rfl, _⟩ | ⟨p, gl, gm, V, rfl, h1, _⟩⟩
        · exact ⟨rfl, hb2⟩
        · exact absurd h1 hall
      · refine (rload_walk (xss := xss) rfl (by omega) (by omega) hl hm (hcW W hb)).mono ?_
        rintro e w' ⟨hb2, ⟨rfl, _⟩ | ⟨b1, m1, d1, rfl, h1, _⟩⟩
        · exact ⟨rfl, hb2⟩
        · exact absurd h1 hall
set_option maxRecDepth 100000 in
set_option maxHeartbeats 8000000 in
theorem makes_walk {w : World} {v : Value} {xss : List (List Int)} (x0 x : Int) (h : IsBB w v xss) :
    Calls Try.prog 4 #[.int .i64 x0, v, .int .i64 x] w fun e w' => e = .returned (.bool true) ∧ Below w.heap.size w w' := by
  obtain ⟨yss, hxs, hld⟩ := loads_any h
  have HXS := hide hxs
  have HI : Hid (Loads w v yss) := hld
  obtain ⟨ba, bc, rfl, _⟩ := h
  clear hld hxs
  generalize xss.length = bn at *
  by_cases hr : x0 < 2 ∨ 65536 < x0
  · have HSt := hide (started_bad (w := w) hr)
    clear hr
    go_enter Try.func4, Try.ntmps4
    go_wp2_with (go_at_call 9; refine (unhide HSt).mono ?_; rintro e w1 ⟨rfl, hB1⟩)
    go_cut [53] (fun v wc => v = .bool false ∧ Hid (Below w.heap.size w wc))
    case first =>
      refine wp_region_held_drew (S := fun _ => True) (by kernel_rfl) (trivial) (fun hHeld => ?_)
      refine wpAnyH_take (i := 0) (v := .bool true) rfl (by kernel_rfl) (by kernel_rfl) (by kernel_rfl) (fun _ _ _ h => h) (Or.inl ⟨by rfl, fun w hSw => by go_simp⟩) (by assumption) ?_
      simp only [List.getElem_toArray, List.getElem_cons_zero, Act.put, List.setIfInBounds_toArray, List.set_cons_zero, List.set_cons_succ]
      refine wpAnyH_take (i := 1) (v := .bool false) rfl (by kernel_rfl) (by kernel_rfl) (by kernel_rfl) (fun _ _ _ h => h) (Or.inl ⟨by rfl, fun w hSw => by go_simp⟩) (by assumption) ?_
      simp only [List.getElem_toArray, List.getElem_cons_succ, List.getElem_cons_zero, Act.put, List.setIfInBounds_toArray, List.set_cons_zero, List.set_cons_succ]
      refine wpAnyH_take (i := 2) (v := .bool false) rfl (by kernel_rfl) (by kernel_rfl) (by kernel_rfl) (fun _ _ _ h => h) (Or.inl ⟨by rfl, fun w hSw => by go_simp⟩) (by assumption) ?_
      simp only [List.getElem_toArray, List.getElem_cons_succ, List.getElem_cons_zero, Act.put, List.setIfInBounds_toArray, List.set_cons_zero, List.set_cons_succ]
      refine wpAnyH_take (i := 3) (v := .pointer none) rfl (by kernel_rfl) (by kernel_rfl) (by kernel_rfl) (fun _ _ _ h => h) (Or.inl ⟨by rfl, fun w hSw => by go_simp⟩) (by assumption) ?_
      simp only [List.getElem_toArray, List.getElem_cons_succ, List.getElem_cons_zero, Act.put, List.setIfInBounds_toArray, List.set_cons_zero, List.set_cons_succ]
      refine wpAnyH_take (i := 4) (v := .bool false) rfl (by kernel_rfl) (by kernel_rfl) (by kernel_rfl) (fun _ _ _ h => h) (Or.inl ⟨by rfl, fun w hSw => by go_simp⟩) (by assumption) ?_
      simp only [List.getElem_toArray, List.getElem_cons_succ, List.getElem_cons_zero, Act.put, List.setIfInBounds_toArray, List.set_cons_zero, List.set_cons_succ]
      refine wpAnyH_take (i := 5) (v := .bool false) rfl (by kernel_rfl) (by kernel_rfl) (by kernel_rfl) (fun _ _ _ h => h) (Or.inl ⟨by rfl, fun w hSw => by go_simp⟩) (by assumption) ?_
      simp only [List.getElem_toArray, List.getElem_cons_succ, List.getElem_cons_zero, Act.put, List.setIfInBounds_toArray, List.set_cons_zero, List.set_cons_succ]
      refine wpAnyH_take (i := 6) (v := undef) rfl (by kernel_rfl) (by kernel_rfl) (by kernel_rfl) (fun _ _ _ h => h) (Or.inr ⟨by rfl, rfl⟩) (by assumption) ?_
      simp only [List.getElem_toArray, List.getElem_cons_succ, List.getElem_cons_zero, Act.put, List.setIfInBounds_toArray, List.set_cons_zero, List.set_cons_succ]
      refine wpAnyH_take (i := 7) (v := undef) rfl (by kernel_rfl) (by kernel_rfl) (by kernel_rfl) (fun _ _ _ h => h) (Or.inr ⟨by rfl, rfl⟩) (by assumption) ?_
      simp only [List.getElem_toArray, List.getElem_cons_succ, List.getElem_cons_zero, Act.put, List.setIfInBounds_toArray, List.set_cons_zero, List.set_cons_succ]
      refine wpAnyH_take (i := 8) (v := undef) rfl (by kernel_rfl) (by kernel_rfl) (by kernel_rfl) (fun _ _ _ h => h) (Or.inr ⟨by rfl, rfl⟩) (by assumption) ?_
      simp only [List.getElem_toArray, List.getElem_cons_succ, List.getElem_cons_zero, Act.put, List.setIfInBounds_toArray, List.set_cons_zero, List.set_cons_succ]
      refine wpAnyH_take (i := 9) (v := undef) rfl (by kernel_rfl) (by kernel_rfl) (by kernel_rfl) (fun _ _ _ h => h) (Or.inr ⟨by rfl, rfl⟩) (by assumption) ?_
      simp only [List.getElem_toArray, List.getElem_cons_succ, List.getElem_cons_zero, Act.put, List.setIfInBounds_toArray, List.set_cons_zero, List.set_cons_succ]
      refine wpAnyH_take (i := 10) (v := undef) rfl (by kernel_rfl) (by kernel_rfl) (by kernel_rfl) (fun _ _ _ h => h) (Or.inr ⟨by rfl, rfl⟩) (by assumption) ?_
      simp only [List.getElem_toArray, List.getElem_cons_succ, List.getElem_cons_zero, Act.put, List.setIfInBounds_toArray, List.set_cons_zero, List.set_cons_succ]
      refine wpAnyH_take (i := 11) (v := undef) rfl (by kernel_rfl) (by kernel_rfl) (by kernel_rfl) (fun _ _ _ h => h) (Or.inr ⟨by rfl, rfl⟩) (by assumption) ?_
      simp only [List.getElem_toArray, List.getElem_cons_succ, List.getElem_cons_zero, Act.put, List.setIfInBounds_toArray, List.set_cons_zero, List.set_cons_succ]
      refine wpAnyH_take (i := 12) (v := undef) rfl (by kernel_rfl) (by kernel_rfl) (by kernel_rfl) (fun _ _ _ h => h) (Or.inr ⟨by rfl, rfl⟩) (by assumption) ?_
      simp only [List.getElem_toArray, List.getElem_cons_succ, List.getElem_cons_zero, Act.put, List.setIfInBounds_toArray, List.set_cons_zero, List.set_cons_succ]
      refine wpAnyH_take (i := 13) (v := undef) rfl (by kernel_rfl) (by kernel_rfl) (by kernel_rfl) (fun _ _ _ h => h) (Or.inr ⟨by rfl, rfl⟩) (by assumption) ?_
      simp only [List.getElem_toArray, List.getElem_cons_succ, List.getElem_cons_zero, Act.put, List.setIfInBounds_toArray, List.set_cons_zero, List.set_cons_succ]
      refine wpAnyH_take (i := 14) (v := undef) rfl (by kernel_rfl) (by kernel_rfl) (by kernel_rfl) (fun _ _ _ h => h) (Or.inr ⟨by rfl, rfl⟩) (by assumption) ?_
      simp only [List.getElem_toArray, List.getElem_cons_succ, List.getElem_cons_zero, Act.put, List.setIfInBounds_toArray, List.set_cons_zero, List.set_cons_succ]
      refine wpAnyH_take (i := 15) (v := undef) rfl (by kernel_rfl) (by kernel_rfl) (by kernel_rfl) (fun _ _ _ h => h) (Or.inr ⟨by rfl, rfl⟩) (by assumption) ?_
      simp only [List.getElem_toArray, List.getElem_cons_succ, List.getElem_cons_zero, Act.put, List.setIfInBounds_toArray, List.set_cons_zero, List.set_cons_succ]
      refine wpAnyH_take (i := 16) (v := undef) rfl (by kernel_rfl) (by kernel_rfl) (by kernel_rfl) (fun _ _ _ h => h) (Or.inr ⟨by rfl, rfl⟩) (by assumption) ?_
      simp only [List.getElem_toArray, List.getElem_cons_succ, List.getElem_cons_zero, Act.put, List.setIfInBounds_toArray, List.set_cons_zero, List.set_cons_succ]
      refine wpAnyH_take (i := 17) (v := undef) rfl (by kernel_rfl) (by kernel_rfl) (by kernel_rfl) (fun _ _ _ h => h) (Or.inr ⟨by rfl, rfl⟩) (by assumption) ?_
      simp only [List.getElem_toArray, List.getElem_cons_succ, List.getElem_cons_zero, Act.put, List.setIfInBounds_toArray, List.set_cons_zero, List.set_cons_succ]
      refine wpAnyH_take (i := 18) (v := undef) rfl (by kernel_rfl) (by kernel_rfl) (by kernel_rfl) (fun _ _ _ h => h) (Or.inr ⟨by rfl, rfl⟩) (by assumption) ?_
      simp only [List.getElem_toArray, List.getElem_cons_succ, List.getElem_cons_zero, Act.put, List.setIfInBounds_toArray, List.set_cons_zero, List.set_cons_succ]
      refine wpAnyH_take (i := 19) (v := undef) rfl (by kernel_rfl) (by kernel_rfl) (by kernel_rfl) (fun _ _ _ h => h) (Or.inr ⟨by rfl, rfl⟩) (by assumption) ?_
      simp only [List.getElem_toArray, List.getElem_cons_succ, List.getElem_cons_zero, Act.put, List.setIfInBounds_toArray, List.set_cons_zero, List.set_cons_succ]
      refine wpAnyH_take (i := 20) (v := undef) rfl (by kernel_rfl) (by kernel_rfl) (by kernel_rfl) (fun _ _ _ h => h) (Or.inr ⟨by rfl, rfl⟩) (by assumption) ?_
      simp only [List.getElem_toArray, List.getElem_cons_succ, List.getElem_cons_zero, Act.put, List.setIfInBounds_toArray, List.set_cons_zero, List.set_cons_succ]
      refine wpAnyH_take (i := 21) (v := undef) rfl (by kernel_rfl) (by kernel_rfl) (by kernel_rfl) (fun _ _ _ h => h) (Or.inr ⟨by rfl, rfl⟩) (by assumption) ?_
      simp only [List.getElem_toArray, List.getElem_cons_succ, List.getElem_cons_zero, Act.put, List.setIfInBounds_toArray, List.set_cons_zero, List.set_cons_succ]
      refine wpAnyH_take (i := 22) (v := undef) rfl (by kernel_rfl) (by kernel_rfl) (by kernel_rfl) (fun _ _ _ h => h) (Or.inr ⟨by rfl, rfl⟩) (by assumption) ?_
      simp only [List.getElem_toArray, List.getElem_cons_succ, List.getElem_cons_zero, Act.put, List.setIfInBounds_toArray, List.set_cons_zero, List.set_cons_succ]
      refine wpAnyH_take (i := 23) (v := undef) rfl (by kernel_rfl) (by kernel_rfl) (by kernel_rfl) (fun _ _ _ h => h) (Or.inr ⟨by rfl, rfl⟩) (by assumption) ?_
      simp only [List.getElem_toArray, List.getElem_cons_succ, List.getElem_cons_zero, Act.put, List.setIfInBounds_toArray, List.set_cons_zero, List.set_cons_succ]
      refine wpAnyH_take (i := 24) (v := undef) rfl (by kernel_rfl) (by kernel_rfl) (by kernel_rfl) (fun _ _ _ h => h) (Or.inr ⟨by rfl, rfl⟩) (by assumption) ?_
      simp only [List.getElem_toArray, List.getElem_cons_succ, List.getElem_cons_zero, Act.put, List.setIfInBounds_toArray, List.set_cons_zero, List.set_cons_succ]
      refine wpAnyH_take (i := 25) (v := undef) rfl (by kernel_rfl) (by kernel_rfl) (by kernel_rfl) (fun _ _ _ h => h) (Or.inr ⟨by rfl, rfl⟩) (by assumption) ?_
      simp only [List.getElem_toArray, List.getElem_cons_succ, List.getElem_cons_zero, Act.put, List.setIfInBounds_toArray, List.set_cons_zero, List.set_cons_succ]
      refine wpAnyH_take (i := 26) (v := undef) rfl (by kernel_rfl) (by kernel_rfl) (by kernel_rfl) (fun _ _ _ h => h) (Or.inr ⟨by rfl, rfl⟩) (by assumption) ?_
      simp only [List.getElem_toArray, List.getElem_cons_succ, List.getElem_cons_zero, Act.put, List.setIfInBounds_toArray, List.set_cons_zero, List.set_cons_succ]
      refine wpAnyH_take (i := 27) (v := undef) rfl (by kernel_rfl) (by kernel_rfl) (by kernel_rfl) (fun _ _ _ h => h) (Or.inr ⟨by rfl, rfl⟩) (by assumption) ?_
      simp only [List.getElem_toArray, List.getElem_cons_succ, List.getElem_cons_zero, Act.put, List.setIfInBounds_toArray, List.set_cons_zero, List.set_cons_succ]
      refine wpAnyH_take (i := 28) (v := undef) rfl (by kernel_rfl) (by kernel_rfl) (by kernel_rfl) (fun _ _ _ h => h) (Or.inr ⟨by rfl, rfl⟩) (by assumption) ?_
      simp only [List.getElem_toArray, List.getElem_cons_succ, List.getElem_cons_zero, Act.put, List.setIfInBounds_toArray, List.set_cons_zero, List.set_cons_succ]
      refine wpAnyH_take (i := 29) (v := undef) rfl (by kernel_rfl) (by kernel_rfl) (by kernel_rfl) (fun _ _ _ h => h) (Or.inr ⟨by rfl, rfl⟩) (by assumption) ?_
      simp only [List.getElem_toArray, List.getElem_cons_succ, List.getElem_cons_zero, Act.put, List.setIfInBounds_toArray, List.set_cons_zero, List.set_cons_succ]
      refine wpAnyH_take (i := 30) (v := undef) rfl (by kernel_rfl) (by kernel_rfl) (by kernel_rfl) (fun _ _ _ h => h) (Or.inr ⟨by rfl, rfl⟩) (by assumption) ?_
      simp only [List.getElem_toArray, List.getElem_cons_succ, List.getElem_cons_zero, Act.put, List.setIfInBounds_toArray, List.set_cons_zero, List.set_cons_succ]
      refine wpAnyH_take (i := 31) (v := undef) rfl (by kernel_rfl) (by kernel_rfl) (by kernel_rfl) (fun _ _ _ h => h) (Or.inr ⟨by rfl, rfl⟩) (by assumption) ?_
      simp only [List.getElem_toArray, List.getElem_cons_succ, List.getElem_cons_zero, Act.put, List.setIfInBounds_toArray, List.set_cons_zero, List.set_cons_succ]
      refine wpAnyH_take (i := 32) (v := undef) rfl (by kernel_rfl) (by kernel_rfl) (by kernel_rfl) (fun _ _ _ h => h) (Or.inr ⟨by rfl, rfl⟩) (by assumption) ?_
      simp only [List.getElem_toArray, List.getElem_cons_succ, List.getElem_cons_zero, Act.put, List.setIfInBounds_toArray, List.set_cons_zero, List.set_cons_succ]
      refine wpAnyH_take (i := 33) (v := .bool false) rfl (by kernel_rfl) (by kernel_rfl) (by kernel_rfl) (fun _ _ _ h => h) (Or.inl ⟨by rfl, fun w hSw => by go_simp⟩) (by assumption) ?_
      simp only [List.getElem_toArray, List.getElem_cons_succ, List.getElem_cons_zero, Act.put, List.setIfInBounds_toArray, List.set_cons_zero, List.set_cons_succ]
      refine wpAnyH_take (i := 34) (v := .bool false) rfl (by kernel_rfl) (by kernel_rfl) (by kernel_rfl) (fun _ _ _ h => h) (Or.inl ⟨by rfl, fun w hSw => by go_simp⟩) (by assumption) ?_
      simp only [List.getElem_toArray, List.getElem_cons_succ, List.getElem_cons_zero, Act.put, List.setIfInBounds_toArray, List.set_cons_zero, List.set_cons_succ]
      refine wpAnyH_done (by kernel_rfl) ?_ _
      go_wp2
      go_meet
      exact ⟨rfl, hide hB1.drew⟩
    case rest =>
      obtain ⟨rfl, HB⟩ := hcut
      rcases HI.out with HBad | HOk
      · obtain ⟨c, hc0, hL, hR⟩ := HBad
        have HL := hide hL
        have HR := hide hR
        clear hL hR HI
        rcases hc0 with rfl | rfl
        all_goals (
          go_wp2_with (first
            | (go_at_call 14; refine (unhide HL _ HB.out).mono ?_; rintro e w7 ⟨rfl, hb7⟩; have hB7 := HB.out.trans (hb7.mono HB.out.size))
            | (go_at_call 15; refine (unhide HR _ hB7).mono ?_; rintro e w8 ⟨rfl, hb8⟩; have hB8 := hB7.trans (hb8.mono hB7.size)))
          go_ret
          exact ⟨rfl, hB8.alloc hB8.size _⟩)
      · obtain ⟨hL, hR⟩ := HOk
        have HL := hide hL
        have HR := hide hR
        clear hL hR HI
        go_wp2_with (first
          | (go_at_call 14; refine (unhide HL _ HB.out).mono ?_; rintro e w7 ⟨p7, gl7, gm7, V7, rfl, hD7, hs1, hs2, hs3, hs4, hb7⟩; have hB7 := HB.out.trans (hb7.mono HB.out.size))
          | (go_at_call 15; refine (unhide HR _ hB7).mono ?_; rintro e w8 ⟨b1, m1, d1, rfl, hA8, hb8⟩; have hB8 := hB7.trans (hb8.mono hB7.size); have HT := hide (told_new hD7 hb8 hA8 (unhide HXS)))
          | (go_at_call 12; refine (unhide HT).mono ?_; rintro e w9 ⟨rfl, hU9⟩))
        have hs7 := hb7.size
        have hs8 := hb8.size
        have hsB := HB.out.size
        have hB9 := Up.below (B := w.heap.size) hU9 (by simp; omega) (by
          rintro b (rfl | rfl | rfl | rfl | ⟨i, hi⟩)
          · omega
          · omega
          · omega
          · omega
          · rw [hs4 i] at hi; cases hi)
        go_ret
        exact ⟨rfl, ((hB8.alloc hB8.size _).alloc (by simp; omega) _).trans hB9⟩
  · obtain ⟨n, rfl⟩ := Int.eq_ofNat_of_zero_le (show 0 ≤ x0 by omega)
    have HSt := hide (started_good (w := w) (n := n) (by omega) (by omega))
    clear hr
    go_enter Try.func4, Try.ntmps4
    go_wp2_with (go_at_call 9; refine (unhide HSt).mono ?_; rintro e w1 ⟨g, p, gl, gm, V, rfl, hP, hBn⟩)
    have hzl : (zeroD n).la.length = n := by simp [zeroD]
    obtain ⟨x1, x2, x3, x4, x5, x6, hG, _, _⟩ := hP.blk
    have hc0 : w1.drew.cell? ⟨g, 0, none⟩ = some (.pointer (some ⟨p, 0, none⟩)) := hG.drew.cell_of rfl
    have HSc : Hid (Calls Try.prog 13 #[.pointer (some ⟨p, 0, none⟩)] w1.drew fun e w' => e = .returned (.int .i64 (n : Int)) ∧ w' = w1.drew) := by
      have := sectors_calls (w := w1.drew) hP.dk.drew.cells.1
      rw [hzl] at this
      exact this
    have hPd : Pr w1.drew g p gl gm V (zeroD n) ⟨n, [], [], 0, 0, 0⟩ := by
      obtain ⟨x1, x2, x3, x4, x5, x6, y1, y2, y3⟩ := hP.blk
      exact ⟨⟨x1, x2, x3, x4, x5, x6, y1.drew, y2.below (Below.refl _ _).drew, y3.below (Below.refl _ _).drew⟩, hP.dk.drew, hP.rel⟩
    have HDo := hide (does_read hPd x 0 0 (.slice none 0 0) (.slice none 0 0) ⟨_, _, _, rfl⟩ ⟨_, _, _, rfl⟩ (Int.le_refl 0) (by show (0 : Int) ≤ 1152921504606846976; decide))
    have hfp := hBn.fp
    have HC3 : Hid (∀ w3, Pr w3 g p gl gm V ((zeroD n).readAt x) (RD.readAt ⟨n, [], [], 0, 0, 0⟩ (rdOf (zeroD n) x)) → w3.cell? ⟨g, 0, none⟩ = some (.pointer (some ⟨p, 0, none⟩)) ∧ True) := fun w3 hP3 => by
      obtain ⟨_, _, _, _, _, _, y1, _, _⟩ := hP3.blk
      exact ⟨y1.cell_of rfl, trivial⟩
    obtain ⟨ra, hra⟩ : ∃ ra, ((zeroD n).readAt x).rd = ra := ⟨_, rfl⟩
    obtain ⟨rb, hrb⟩ : ∃ rb, ((zeroD n).readAt x).wt = rb := ⟨_, rfl⟩
    obtain ⟨rc, hrc⟩ : ∃ rc, ((zeroD n).readAt x).fl = rc := ⟨_, rfl⟩
    have hB1 := hBn.b
    have HAll : Hid (∀ w3, Pr w3 g p gl gm V ((zeroD n).readAt x) (RD.readAt ⟨n, [], [], 0, 0, 0⟩ (rdOf (zeroD n) x)) → Up (Fp g p gl gm V) w1.drew w3 → Below w.heap.size w w3 ∧
        Hid (Calls Try.prog 11 #[.pointer (some ⟨p, 0, none⟩)] w3 fun e w' => e = .returned (.agg [.int .i64 ra, .int .i64 rb, .int .i64 rc].toArray) ∧ Below w3.heap.size w3 w') ∧
        Hid (∀ W : World, Below w3.heap.size w3 W → W.cell? ⟨g, 0, none⟩ = some (.pointer (some ⟨p, 0, none⟩)) ∧ W.rangeAt g 4 [.int .i64 ra, .int .i64 rb, .int .i64 rc])) := fun w3 hP3 hU3 => by
      have hs1 := hB1.size
      have hb13 : Below w.heap.size w1 w3 := Up.below (F := Fp g p gl gm V) ⟨hU3.os, hU3.tape, hU3.output, hU3.size, hU3.block⟩ hs1 hfp
      obtain ⟨_, _, k2, k3, k4⟩ := hP3.dk.cells
      rw [hra] at k2
      rw [hrb] at k3
      rw [hrc] at k4
      refine ⟨hB1.trans hb13, hide (acts_calls k2 k3 k4), hide (fun W hW => ?_)⟩
      obtain ⟨z1, z2, z3, z4, z5, z6, y1, _, _⟩ := hP3.blk
      have hr1 := hP3.rel.rd
      have hr2 := hP3.rel.wt
      have hr3 := hP3.rel.fl
      rw [hr1, hr2, hr3, hra, hrb, hrc] at y1
      have y2 := y1.below hW
      refine ⟨y2.cell_of rfl, fun j u hu => y2.cell_of (j := 4 + j) ?_⟩
      match j, hu with
      | 0, hu => exact hu
      | 1, hu => exact hu
      | 2, hu => exact hu
    clear hP hPd hG hfp hBn hzl hra hrb hrc
    go_cut [53] (fun v wc => v = .bool false ∧ Hid (Below w.heap.size w wc))
    case first =>
      refine wp_region_held_drew (S := fun W => W.cell? ⟨g, 0, none⟩ = some (.pointer (some ⟨p, 0, none⟩))) (by kernel_rfl) (hc0) (fun hHeld => ?_)
      refine wpAnyH_take (i := 0) (v := .bool true) rfl (by kernel_rfl) (by kernel_rfl) (by kernel_rfl) (fun _ _ _ h => h) (Or.inl ⟨by rfl, fun w hSw => by go_simp⟩) (by assumption) ?_
      simp only [List.getElem_toArray, List.getElem_cons_zero, Act.put, List.setIfInBounds_toArray, List.set_cons_zero, List.set_cons_succ]
      refine wpAnyH_take (i := 1) (v := .bool false) rfl (by kernel_rfl) (by kernel_rfl) (by kernel_rfl) (fun _ _ _ h => h) (Or.inl ⟨by rfl, fun w hSw => by go_simp⟩) (by assumption) ?_
      simp only [List.getElem_toArray, List.getElem_cons_succ, List.getElem_cons_zero, Act.put, List.setIfInBounds_toArray, List.set_cons_zero, List.set_cons_succ]
      refine wpAnyH_take (i := 2) (v := .bool false) rfl (by kernel_rfl) (by kernel_rfl) (by kernel_rfl) (fun _ _ _ h => h) (Or.inl ⟨by rfl, fun w hSw => by go_simp⟩) (by assumption) ?_
      simp only [List.getElem_toArray, List.getElem_cons_succ, List.getElem_cons_zero, Act.put, List.setIfInBounds_toArray, List.set_cons_zero, List.set_cons_succ]
      refine wpAnyH_take (i := 3) (v := .pointer (some ⟨g, 0, none⟩)) rfl (by kernel_rfl) (by kernel_rfl) (by kernel_rfl) (fun _ _ _ h => h) (Or.inl ⟨by rfl, fun w hSw => by go_simp⟩) (by assumption) ?_
      simp only [List.getElem_toArray, List.getElem_cons_succ, List.getElem_cons_zero, Act.put, List.setIfInBounds_toArray, List.set_cons_zero, List.set_cons_succ]
      refine wpAnyH_take (i := 4) (v := .bool true) rfl (by kernel_rfl) (by kernel_rfl) (by kernel_rfl) (fun _ _ _ h => h) (Or.inl ⟨by rfl, fun w hSw => by go_simp⟩) (by assumption) ?_
      simp only [List.getElem_toArray, List.getElem_cons_succ, List.getElem_cons_zero, Act.put, List.setIfInBounds_toArray, List.set_cons_zero, List.set_cons_succ]
      refine wpAnyH_take (i := 5) (v := .bool true) rfl (by kernel_rfl) (by kernel_rfl) (by kernel_rfl) (fun _ _ _ h => h) (Or.inl ⟨by rfl, fun w hSw => by go_simp⟩) (by assumption) ?_
      simp only [List.getElem_toArray, List.getElem_cons_succ, List.getElem_cons_zero, Act.put, List.setIfInBounds_toArray, List.set_cons_zero, List.set_cons_succ]
      refine wpAnyH_take (i := 6) (v := .pointer (some ⟨g, 0, none⟩)) rfl (by kernel_rfl) (by kernel_rfl) (by kernel_rfl) (fun _ _ _ h => h) (Or.inl ⟨by rfl, fun w hSw => by go_simp⟩) (by assumption) ?_
      simp only [List.getElem_toArray, List.getElem_cons_succ, List.getElem_cons_zero, Act.put, List.setIfInBounds_toArray, List.set_cons_zero, List.set_cons_succ]
      refine wpAnyH_take (i := 7) (v := .pointer (some ⟨g, 0, none⟩)) rfl (by kernel_rfl) (by kernel_rfl) (by kernel_rfl) (fun _ _ _ h => h) (Or.inl ⟨by rfl, fun w hSw => by go_simp⟩) (by assumption) ?_
      simp only [List.getElem_toArray, List.getElem_cons_succ, List.getElem_cons_zero, Act.put, List.setIfInBounds_toArray, List.set_cons_zero, List.set_cons_succ]
      refine wpAnyH_take (i := 8) (v := .pointer (some ⟨g, 0, none⟩)) rfl (by kernel_rfl) (by kernel_rfl) (by kernel_rfl) (fun _ _ _ h => h) (Or.inl ⟨by rfl, fun w hSw => by go_simp⟩) (by assumption) ?_
      simp only [List.getElem_toArray, List.getElem_cons_succ, List.getElem_cons_zero, Act.put, List.setIfInBounds_toArray, List.set_cons_zero, List.set_cons_succ]
      refine wpAnyH_take (i := 9) (v := .pointer (some ⟨p, 0, none⟩)) rfl (by kernel_rfl) (by kernel_rfl) (by kernel_rfl) (fun _ _ _ h => h) (Or.inl ⟨by rfl, fun w hSw => by go_simp⟩) (by assumption) ?_
      simp only [List.getElem_toArray, List.getElem_cons_succ, List.getElem_cons_zero, Act.put, List.setIfInBounds_toArray, List.set_cons_zero, List.set_cons_succ]
      refine wpAnyH_take (i := 11) (v := .int .i64 (n : Int)) rfl (by kernel_rfl) (by kernel_rfl) (by kernel_rfl) (fun _ _ _ h => h) (Or.inl ⟨by rfl, fun w hSw => by go_simp⟩) (by assumption) ?_
      simp only [List.getElem_toArray, List.getElem_cons_succ, List.getElem_cons_zero, Act.put, List.setIfInBounds_toArray, List.set_cons_zero, List.set_cons_succ]
      refine wpAnyH_ready (rs := [10]) (by kernel_rfl) (by simp) (AllReadyH.cons rfl (fun K hK => ?_) AllReadyH.nil)
      refine step_call1Gd (by rfl) 13 sect_enter (.tmp 28) _ rfl rfl (unhide HSc) ?_
      rintro e w2 ⟨rfl, hw2⟩
      obtain rfl := hw2.symm
      refine ⟨_, rfl, ?_⟩
      refine hK.out _ _ (hHeld) (fun hHeld2 => ?_)
      clear hK K
      simp only [List.getElem_toArray, List.getElem_cons_succ, List.getElem_cons_zero, Act.put, List.setIfInBounds_toArray, List.set_cons_zero, List.set_cons_succ]
      refine wpAnyH_take (i := 12) (v := .bool false) rfl (by kernel_rfl) (by kernel_rfl) (by kernel_rfl) (fun _ _ _ h => h) (Or.inl ⟨by rfl, fun w hSw => by go_simp⟩) (by assumption) ?_
      simp only [List.getElem_toArray, List.getElem_cons_succ, List.getElem_cons_zero, Act.put, List.setIfInBounds_toArray, List.set_cons_zero, List.set_cons_succ]
      refine wpAnyH_take (i := 13) (v := .bool false) rfl (by kernel_rfl) (by kernel_rfl) (by kernel_rfl) (fun _ _ _ h => h) (Or.inl ⟨by rfl, fun w hSw => by go_simp⟩) (by assumption) ?_
      simp only [List.getElem_toArray, List.getElem_cons_succ, List.getElem_cons_zero, Act.put, List.setIfInBounds_toArray, List.set_cons_zero, List.set_cons_succ]
      refine wpAnyH_take (i := 14) (v := .pointer (some ⟨g, 0, none⟩)) rfl (by kernel_rfl) (by kernel_rfl) (by kernel_rfl) (fun _ _ _ h => h) (Or.inl ⟨by rfl, fun w hSw => by go_simp⟩) (by assumption) ?_
      simp only [List.getElem_toArray, List.getElem_cons_succ, List.getElem_cons_zero, Act.put, List.setIfInBounds_toArray, List.set_cons_zero, List.set_cons_succ]
      refine wpAnyH_take (i := 15) (v := .int .i64 x) rfl (by kernel_rfl) (by kernel_rfl) (by kernel_rfl) (fun _ _ _ h => h) (Or.inl ⟨by rfl, fun w hSw => by go_simp⟩) (by assumption) ?_
      simp only [List.getElem_toArray, List.getElem_cons_succ, List.getElem_cons_zero, Act.put, List.setIfInBounds_toArray, List.set_cons_zero, List.set_cons_succ]
      refine wpAnyH_take (i := 16) (v := .agg #[.int .i64 0, .int .i64 x, .int .i64 0, .slice none 0 0, .int .i64 0, .slice none 0 0]) rfl (by kernel_rfl) (by kernel_rfl) (by kernel_rfl) (fun _ _ _ h => h) (Or.inl ⟨by rfl, fun w hSw => by go_simp⟩) (by assumption) ?_
      simp only [List.getElem_toArray, List.getElem_cons_succ, List.getElem_cons_zero, Act.put, List.setIfInBounds_toArray, List.set_cons_zero, List.set_cons_succ]
      refine wpAnyH_ready (rs := [17]) (by kernel_rfl) (by simp) (AllReadyH.cons rfl (fun K hK => ?_) AllReadyH.nil)
      refine step_call2Gd (by rfl) 10 does_enter (.tmp 33) (.tmp 35) _ rfl rfl rfl (unhide HDo) ?_
      rintro e w3 ⟨rfl, hP3, hU3'⟩
      have hc3 := unhide HC3 w3 hP3
      have HX := hide (unhide HAll w3 hP3 hU3')
      clear hU3'
      refine ⟨_, rfl, ?_⟩
      refine hK.out _ _ (hc3.1) (fun hHeld3 => ?_)
      clear hK K
      simp only [List.getElem_toArray, List.getElem_cons_succ, List.getElem_cons_zero, Act.put, List.setIfInBounds_toArray, List.set_cons_zero, List.set_cons_succ]
      refine wpAnyH_take (i := 18) (v := .bool false) rfl (by kernel_rfl) (by kernel_rfl) (by kernel_rfl) (fun _ _ _ h => h) (Or.inl ⟨by rfl, fun w hSw => by go_simp⟩) (by assumption) ?_
      simp only [List.getElem_toArray, List.getElem_cons_succ, List.getElem_cons_zero, Act.put, List.setIfInBounds_toArray, List.set_cons_zero, List.set_cons_succ]
      refine wpAnyH_take (i := 19) (v := .bool false) rfl (by kernel_rfl) (by kernel_rfl) (by kernel_rfl) (fun _ _ _ h => h) (Or.inl ⟨by rfl, fun w hSw => by go_simp⟩) (by assumption) ?_
      simp only [List.getElem_toArray, List.getElem_cons_succ, List.getElem_cons_zero, Act.put, List.setIfInBounds_toArray, List.set_cons_zero, List.set_cons_succ]
      refine wpAnyH_take (i := 20) (v := .bool false) rfl (by kernel_rfl) (by kernel_rfl) (by kernel_rfl) (fun _ _ _ h => h) (Or.inl ⟨by rfl, fun w hSw => by go_simp⟩) (by assumption) ?_
      simp only [List.getElem_toArray, List.getElem_cons_succ, List.getElem_cons_zero, Act.put, List.setIfInBounds_toArray, List.set_cons_zero, List.set_cons_succ]
      refine wpAnyH_take (i := 21) (v := .pointer (some ⟨g, 0, none⟩)) rfl (by kernel_rfl) (by kernel_rfl) (by kernel_rfl) (fun _ _ _ h => h) (Or.inl ⟨by rfl, fun w hSw => by go_simp⟩) (by assumption) ?_
      simp only [List.getElem_toArray, List.getElem_cons_succ, List.getElem_cons_zero, Act.put, List.setIfInBounds_toArray, List.set_cons_zero, List.set_cons_succ]
      refine wpAnyH_take (i := 22) (v := .pointer (some ⟨g, 0, none⟩)) rfl (by kernel_rfl) (by kernel_rfl) (by kernel_rfl) (fun _ _ _ h => h) (Or.inl ⟨by rfl, fun w hSw => by go_simp⟩) (by assumption) ?_
      simp only [List.getElem_toArray, List.getElem_cons_succ, List.getElem_cons_zero, Act.put, List.setIfInBounds_toArray, List.set_cons_zero, List.set_cons_succ]
      refine wpAnyH_take (i := 23) (v := .pointer (some ⟨g, 0, none⟩)) rfl (by kernel_rfl) (by kernel_rfl) (by kernel_rfl) (fun _ _ _ h => h) (Or.inl ⟨by rfl, fun w hSw => by go_simp⟩) (by assumption) ?_
      simp only [List.getElem_toArray, List.getElem_cons_succ, List.getElem_cons_zero, Act.put, List.setIfInBounds_toArray, List.set_cons_zero, List.set_cons_succ]
      refine wpAnyH_take (i := 24) (v := .pointer (some ⟨p, 0, none⟩)) rfl (by kernel_rfl) (by kernel_rfl) (by kernel_rfl) (fun _ _ _ h => h) (Or.inl ⟨by rfl, fun w hSw => by go_simp⟩) (by assumption) ?_
      simp only [List.getElem_toArray, List.getElem_cons_succ, List.getElem_cons_zero, Act.put, List.setIfInBounds_toArray, List.set_cons_zero, List.set_cons_succ]
      refine wpAnyH_take (i := 26) (v := .pointer (some ⟨g, 0, none⟩)) rfl (by kernel_rfl) (by kernel_rfl) (by kernel_rfl) (fun _ _ _ h => h) (Or.inl ⟨by rfl, fun w hSw => by go_simp⟩) (by assumption) ?_
      simp only [List.getElem_toArray, List.getElem_cons_succ, List.getElem_cons_zero, Act.put, List.setIfInBounds_toArray, List.set_cons_zero, List.set_cons_succ]
      refine wpAnyH_take (i := 27) (v := .pointer (some ⟨g, 0, none⟩)) rfl (by kernel_rfl) (by kernel_rfl) (by kernel_rfl) (fun _ _ _ h => h) (Or.inl ⟨by rfl, fun w hSw => by go_simp⟩) (by assumption) ?_
      simp only [List.getElem_toArray, List.getElem_cons_succ, List.getElem_cons_zero, Act.put, List.setIfInBounds_toArray, List.set_cons_zero, List.set_cons_succ]
      refine wpAnyH_take (i := 28) (v := .pointer (some ⟨g, 1, none⟩)) rfl (by kernel_rfl) (by kernel_rfl) (by kernel_rfl) (fun _ _ _ h => h) (Or.inl ⟨by rfl, fun w hSw => by go_simp⟩) (by assumption) ?_
      simp only [List.getElem_toArray, List.getElem_cons_succ, List.getElem_cons_zero, Act.put, List.setIfInBounds_toArray, List.set_cons_zero, List.set_cons_succ]
      refine wpAnyH_take (i := 29) (v := .pointer (some ⟨g, 4, none⟩)) rfl (by kernel_rfl) (by kernel_rfl) (by kernel_rfl) (fun _ _ _ h => h) (Or.inl ⟨by rfl, fun w hSw => by go_simp⟩) (by assumption) ?_
      simp only [List.getElem_toArray, List.getElem_cons_succ, List.getElem_cons_zero, Act.put, List.setIfInBounds_toArray, List.set_cons_zero, List.set_cons_succ]
      obtain ⟨hB3, HAc, HLd⟩ := HX.out
      refine wpAnyH_ready (rs := [25, 30]) (by kernel_rfl) (by simp) (AllReadyH.cons rfl (fun K hK => ?_) (AllReadyH.cons rfl (fun K hK => ?_) AllReadyH.nil))
      · refine step_call1Gd (by rfl) 11 acts_enter (.tmp 43) _ rfl rfl (unhide HAc) ?_
        rintro e w4 ⟨rfl, hb4⟩
        have hB4 : Below w.heap.size w w4 := hB3.trans (hb4.mono hB3.size)
        refine ⟨_, rfl, ?_⟩
        refine hK.out _ _ ((unhide HLd w4 hb4).1) (fun hHeld4 => ?_)
        clear hK K
        simp only [List.getElem_toArray, List.getElem_cons_succ, List.getElem_cons_zero, Act.put, List.setIfInBounds_toArray, List.set_cons_zero, List.set_cons_succ]
        refine wpAnyH_ready (rs := [30]) (by kernel_rfl) (by simp) (AllReadyH.cons rfl (fun K hK => ?_) AllReadyH.nil)
        refine step_loadGd (by rfl) (.tmp 48) 32 rfl rfl ((unhide HLd w4 hb4).2) Try.underlying32 rfl info32 ?_
        refine hK.out _ _ (hHeld4) (fun hHeld5 => ?_)
        clear hK K
        simp only [List.getElem_toArray, List.getElem_cons_succ, List.getElem_cons_zero, Act.put, List.setIfInBounds_toArray, List.set_cons_zero, List.set_cons_succ]
        refine wpAnyH_take (i := 31) (v := .bool false) rfl (by kernel_rfl) (by kernel_rfl) (by kernel_rfl) (fun _ _ _ h => h) (Or.inl ⟨by rfl, fun w hSw => by go_simp⟩) (by assumption) ?_
        simp only [List.getElem_toArray, List.getElem_cons_succ, List.getElem_cons_zero, Act.put, List.setIfInBounds_toArray, List.set_cons_zero, List.set_cons_succ]
        refine wpAnyH_take (i := 32) (v := .bool false) rfl (by kernel_rfl) (by kernel_rfl) (by kernel_rfl) (fun _ _ _ h => h) (Or.inl ⟨by rfl, fun w hSw => by go_simp⟩) (by assumption) ?_
        simp only [List.getElem_toArray, List.getElem_cons_succ, List.getElem_cons_zero, Act.put, List.setIfInBounds_toArray, List.set_cons_zero, List.set_cons_succ]
        refine wpAnyH_take (i := 33) (v := .bool false) rfl (by kernel_rfl) (by kernel_rfl) (by kernel_rfl) (fun _ _ _ h => h) (Or.inl ⟨by rfl, fun w hSw => by go_simp⟩) (by assumption) ?_
        simp only [List.getElem_toArray, List.getElem_cons_succ, List.getElem_cons_zero, Act.put, List.setIfInBounds_toArray, List.set_cons_zero, List.set_cons_succ]
        refine wpAnyH_take (i := 34) (v := .bool false) rfl (by kernel_rfl) (by kernel_rfl) (by kernel_rfl) (fun _ _ _ h => h) (Or.inl ⟨by rfl, fun w hSw => by go_simp⟩) (by assumption) ?_
        simp only [List.getElem_toArray, List.getElem_cons_succ, List.getElem_cons_zero, Act.put, List.setIfInBounds_toArray, List.set_cons_zero, List.set_cons_succ]
        refine wpAnyH_done (by kernel_rfl) ?_ _
        go_wp2
        go_meet
        exact ⟨rfl, hide hB4⟩
      · refine step_loadGd (by rfl) (.tmp 48) 32 rfl rfl ((unhide HLd w3 (Below.refl _ _)).2) Try.underlying32 rfl info32 ?_
        refine hK.out _ _ (hHeld3) (fun hHeld4 => ?_)
        clear hK K
        simp only [List.getElem_toArray, List.getElem_cons_succ, List.getElem_cons_zero, Act.put, List.setIfInBounds_toArray, List.set_cons_zero, List.set_cons_succ]
        refine wpAnyH_ready (rs := [25]) (by kernel_rfl) (by simp) (AllReadyH.cons rfl (fun K hK => ?_) AllReadyH.nil)
        refine step_call1Gd (by rfl) 11 acts_enter (.tmp 43) _ rfl rfl (unhide HAc) ?_
        rintro e w4 ⟨rfl, hb4⟩
        have hB4 : Below w.heap.size w w4 := hB3.trans (hb4.mono hB3.size)
        refine ⟨_, rfl, ?_⟩
        refine hK.out _ _ ((unhide HLd w4 hb4).1) (fun hHeld5 => ?_)
        clear hK K
        simp only [List.getElem_toArray, List.getElem_cons_succ, List.getElem_cons_zero, Act.put, List.setIfInBounds_toArray, List.set_cons_zero, List.set_cons_succ]
        refine wpAnyH_take (i := 31) (v := .bool false) rfl (by kernel_rfl) (by kernel_rfl) (by kernel_rfl) (fun _ _ _ h => h) (Or.inl ⟨by rfl, fun w hSw => by go_simp⟩) (by assumption) ?_
        simp only [List.getElem_toArray, List.getElem_cons_succ, List.getElem_cons_zero, Act.put, List.setIfInBounds_toArray, List.set_cons_zero, List.set_cons_succ]
        refine wpAnyH_take (i := 32) (v := .bool false) rfl (by kernel_rfl) (by kernel_rfl) (by kernel_rfl) (fun _ _ _ h => h) (Or.inl ⟨by rfl, fun w hSw => by go_simp⟩) (by assumption) ?_
        simp only [List.getElem_toArray, List.getElem_cons_succ, List.getElem_cons_zero, Act.put, List.setIfInBounds_toArray, List.set_cons_zero, List.set_cons_succ]
        refine wpAnyH_take (i := 33) (v := .bool false) rfl (by kernel_rfl) (by kernel_rfl) (by kernel_rfl) (fun _ _ _ h => h) (Or.inl ⟨by rfl, fun w hSw => by go_simp⟩) (by assumption) ?_
        simp only [List.getElem_toArray, List.getElem_cons_succ, List.getElem_cons_zero, Act.put, List.setIfInBounds_toArray, List.set_cons_zero, List.set_cons_succ]
        refine wpAnyH_take (i := 34) (v := .bool false) rfl (by kernel_rfl) (by kernel_rfl) (by kernel_rfl) (fun _ _ _ h => h) (Or.inl ⟨by rfl, fun w hSw => by go_simp⟩) (by assumption) ?_
        simp only [List.getElem_toArray, List.getElem_cons_succ, List.getElem_cons_zero, Act.put, List.setIfInBounds_toArray, List.set_cons_zero, List.set_cons_succ]
        refine wpAnyH_done (by kernel_rfl) ?_ _
        go_wp2
        go_meet
        exact ⟨rfl, hide hB4⟩
    case rest =>
      obtain ⟨rfl, HB⟩ := hcut
      rcases HI.out with HBad | HOk
      · obtain ⟨c, hc0, hL, hR⟩ := HBad
        have HL := hide hL
        have HR := hide hR
        clear hL hR HI
        rcases hc0 with rfl | rfl
        all_goals (
          go_wp2_with (first
            | (go_at_call 14; refine (unhide HL _ HB.out).mono ?_; rintro e w7 ⟨rfl, hb7⟩; have hB7 := HB.out.trans (hb7.mono HB.out.size))
            | (go_at_call 15; refine (unhide HR _ hB7).mono ?_; rintro e w8 ⟨rfl, hb8⟩; have hB8 := hB7.trans (hb8.mono hB7.size)))
          go_ret
          exact ⟨rfl, hB8.alloc hB8.size _⟩)
      · obtain ⟨hL, hR⟩ := HOk
        have HL := hide hL
        have HR := hide hR
        clear hL hR HI
        go_wp2_with (first
          | (go_at_call 14; refine (unhide HL _ HB.out).mono ?_; rintro e w7 ⟨p7, gl7, gm7, V7, rfl, hD7, hs1, hs2, hs3, hs4, hb7⟩; have hB7 := HB.out.trans (hb7.mono HB.out.size))
          | (go_at_call 15; refine (unhide HR _ hB7).mono ?_; rintro e w8 ⟨b1, m1, d1, rfl, hA8, hb8⟩; have hB8 := hB7.trans (hb8.mono hB7.size); have HT := hide (told_new hD7 hb8 hA8 (unhide HXS)))
          | (go_at_call 12; refine (unhide HT).mono ?_; rintro e w9 ⟨rfl, hU9⟩))
        have hs7 := hb7.size
        have hs8 := hb8.size
        have hsB := HB.out.size
        have hB9 := Up.below (B := w.heap.size) hU9 (by simp; omega) (by
          rintro b (rfl | rfl | rfl | rfl | ⟨i, hi⟩)
          · omega
          · omega
          · omega
          · omega
          · rw [hs4 i] at hi; cases hi)
        go_ret
        exact ⟨rfl, ((hB8.alloc hB8.size _).alloc (by simp; omega) _).trans hB9⟩

end Go.Proofs.Ytfgjhlnaaopdeaa
