/- The document's Load. -/
import Derived.Test.YtfgjhlnaaopdeabDkJ
namespace Go.Proofs.Ytfgjhlnaaopdeab
open Go.RowKit Go.Maps

section
variable {ops : Array Oper} {o : Oper} {a : Act} {w : World} {K : Act → World → Prop} {Q : Exit → Act → World → Prop} {E : Prop}
theorem load34_run {W : World} {ad : Addr} {v : Value} (h : W.cell? ad = some v) : (Instr.loadAt 83 (.pointer (some ad))).run Try.prog W = .ok v W := by
  have hu := Try.underlying83
  go_simp
theorem step_load34 (hgd : o.guard = none) (x : Operand) (ho : o.op = .load 83 x) {ad : Addr} {v : Value} (hx : a.eval x = .pointer (some ad)) (hc : w.cell? ad = some v) (hk : K (a.put o.dst v) w) : if Region.wanted o (yielded ops a.tmps) = true then Oper.wp Try.prog o a w K Q else E := by
  rw [if_pos (by simp [Region.wanted, hgd])]
  unfold Oper.wp execOp
  simp only [ho, hx, Sem.run_bind, load34_run hc, Result.andThen_ok, Sem.run_pure]
  exact hk
theorem store34_run {W : World} {ad : Addr} {v u : Value} {aa : Option Addr} {n c : Nat} (hv : v = .slice aa n c) (h : W.cell? ad = some u) (hf : W.frozen? ad = false) : (Instr.storeAt 83 (.pointer (some ad)) v).run Try.prog W = .ok () (W.setCell ad v) := by
  subst hv
  obtain ⟨b, o, s⟩ := ad
  have hs : s = none := by
    cases s with
    | none => rfl
    | some x => simp [World.cell?] at h; split at h <;> simp at h
  subst hs
  go_simp
theorem step_store34 (hgd : o.guard = none) (x y : Operand) (ho : o.op = .store 83 x y) {ad : Addr} {v u : Value} {aa : Option Addr} {n c : Nat} (hx : a.eval x = .pointer (some ad)) (hy : a.eval y = v) (hv : v = .slice aa n c) (hc : w.cell? ad = some u) (hf : w.frozen? ad = false) (hk : K (a.put o.dst undef) (w.setCell ad v)) : if Region.wanted o (yielded ops a.tmps) = true then Oper.wp Try.prog o a w K Q else E := by
  rw [if_pos (by simp [Region.wanted, hgd])]
  unfold Oper.wp execOp
  simp only [ho, hx, hy, Sem.run_bind, store34_run hv hc hf, Result.andThen_ok, Sem.run_pure]
  exact hk
theorem buildAt_run (W : World) (i : Int) (ua : Option Addr) (un uc : Nat) : (Instr.buildSlice 83 1 #[(0, .agg #[.int .i64 i, .slice ua un uc])]).run Try.prog W = .ok (.slice (some ⟨W.heap.size, 0, none⟩) 1 1) (W.alloc (.cells [.int .i64 i, .slice ua un uc].toArray 104)) := by kernel_rfl
theorem step_buildAt (hgd : o.guard = none) (x : Operand) (ho : o.op = .buildSlice 83 1 #[(0, x)]) {i : Int} {ua : Option Addr} {un uc : Nat} (hx : a.eval x = .agg #[.int .i64 i, .slice ua un uc])
    (hk : K (a.put o.dst (.slice (some ⟨w.heap.size, 0, none⟩) 1 1)) (w.alloc (.cells [.int .i64 i, .slice ua un uc].toArray 104))) : if Region.wanted o (yielded ops a.tmps) = true then Oper.wp Try.prog o a w K Q else E := by
  rw [if_pos (by simp [Region.wanted, hgd])]
  unfold Oper.wp execOp
  simp only [ho, List.map_toArray, List.map_cons, List.map_nil, hx, Sem.run_bind, buildAt_run w, Result.andThen_ok, Sem.run_pure]
  exact hk
theorem step_call1Q (hgd : o.guard = none) (f : Nat) (hf : ∀ (v : Value) (W : World), (callFunc f #[v]).run Try.prog W = .ok (.enter f #[v]) W) (x : Operand) (ts : Array TypeId) (ho : o.op = .call { callee := .value (.func f), args := #[x], argTypes := ts }) {v : Value} (hx : a.eval x = v)
    {Post : Ending → World → Prop} (hc : Calls Try.prog f #[v] w Post) (hk : ∀ e w2, Post e w2 → ∃ r, e = .returned r ∧ K (a.put o.dst r) w2) :
    if Region.wanted o (yielded ops a.tmps) = true then Oper.wp Try.prog o a w K Q else E := by
  rw [if_pos (by simp [Region.wanted, hgd])]
  have hrun : (execOp a.eval o).run Try.prog w = .ok (.enter f #[v]) w := by
    have h1 := hf v w
    unfold execOp
    have hfv : a.eval (.func f) = .func (.func f) #[] #[] := rfl
    simp [ho, hx, hfv, resolve, invoke, Deferred.ofValue, h1]
  unfold Oper.wp
  rw [hrun]
  refine hc.mono ?_
  intro e w2 hp
  obtain ⟨r, rfl, hK⟩ := hk e w2 hp
  exact hK
end
theorem copy_enter (v : Value) (W : World) : (callFunc 51 #[v]).run Try.prog W = .ok (.enter 51 #[v]) W := by kernel_rfl
theorem results2 {fn : Func} {p s : Tmp} {t : TypeId} {g : Nat} {tmps : Array Value} {w : World} {v u : Value} (h : fn.results = #[.cell p t, .tmp s]) (ha : tmps.getD p undef = .pointer (some ⟨g, 0, none⟩)) (hu : tmps.getD s undef = u) (hl : (loadVar t ⟨g, 0, none⟩).run Try.prog w = .ok v w) : (results fn tmps).run Try.prog w = .ok (.tuple #[v, u]) w := by
  have ha' : tmps[p]?.getD undef = .pointer (some ⟨g, 0, none⟩) := by simpa using ha
  have hu' : tmps[s]?.getD undef = u := by simpa using hu
  simp [results, h, asAddr, ha', hu', hl]
theorem z36_one : ∀ u ∈ z36, u.oneCell' = true := by
  intro u hu
  simp only [z36, List.mem_cons, List.not_mem_nil, or_false] at hu
  rcases hu with rfl | rfl | rfl | rfl | rfl | rfl <;> rfl
theorem OwnAts.shapeN {w : World} {B : Nat} {v : Value} {l : Ats} (h : OwnAts w B v l) : ∃ a n c, v = .slice a n c := by
  obtain ⟨a, c, h1⟩ := h.shape
  exact ⟨a, _, c, h1⟩
theorem OwnAts.other {w w' : World} {B g : Nat} {v : Value} {l : Ats} {cs : Array Value} {t : TypeId} {m : Nat × Nat} (h : OwnAts w B v l) (hg : w.grownBy w' (some g)) (hc : w.heap[g]? = some (.cells cs t m)) (h1 : t ≠ 5) (h2 : t ≠ 104) : OwnAts w' B v l := by
  obtain ⟨es, k1, k2, k3⟩ := h.rd
  refine ⟨es, k1.kept hg ?_, k2, fun j hj => ⟨(k3 j hj).1, (k3 j hj).2.other hg hc h1⟩⟩
  rcases k1.2 with ⟨rfl, _⟩ | ⟨g', cap, cur, rfl, _, hgg, _⟩
  · exact Or.inl rfl
  · refine Or.inr fun e => ?_
    simp only [Value.ownBlock, Option.some.injEq] at e
    subst e
    rw [hgg] at hc
    simp only [Option.some.injEq, Obj.cells.injEq] at hc
    exact h2 hc.2.1.symm
theorem OwnAts.ne {w : World} {B g : Nat} {v : Value} {l : Ats} {cs : List Value} {t : TypeId} (h : OwnAts w B v l) (hc : Arr w g t cs) (h2 : t ≠ 104) : v.ownBlock ≠ some g := by
  obtain ⟨es, k1, _⟩ := h.rd
  intro e
  rcases k1.2 with ⟨rfl, _⟩ | ⟨g', cap, cur, rfl, _, hgg, _⟩
  · cases e
  · simp only [Value.ownBlock, Option.some.injEq] at e
    subst e
    unfold Arr at hc
    rw [hgg] at hc
    simp only [Option.some.injEq, Obj.cells.injEq] at hc
    exact h2 hc.2.1.symm
set_option maxRecDepth 100000 in
set_option maxHeartbeats 4000000 in
theorem rload_walk {w : World} {b off n cap : Nat} {xss : List (List Int)} (hn : n = xss.length) (h2 : 2 ≤ n) (h6 : n ≤ 65536) (hl : n ≤ cap) (hm : cap ≤ 9223372036854775807)
    (hcell : ∀ j, j < n → ∃ u, w.cell? ⟨b, off + j, none⟩ = some u ∧ IsB w u (xss.getD j [])) :
    Calls Try.prog 47 #[.slice (some ⟨b, off, none⟩) n cap] w fun e w' => Below w.heap.size w w' ∧
      ((e = .returned (.tuple #[.agg z36.toArray, .int .i64 32]) ∧ ∃ j, j < n ∧ (xss.getD j []).length ≠ 512) ∨
       ∃ a1 n1 c1, e = .returned (.tuple #[.agg (rdC n a1 n1 c1 none 0 0 0 0 0).toArray, .int .i64 0]) ∧ (∀ j, j < n → (xss.getD j []).length = 512) ∧ IsAts w' (.slice a1 n1 c1) (atsOf xss)) := by
  have HC := hide hcell
  have HX := hide hn
  have hd1 : decide ((n : Int) < 2) = false := by simp; omega
  have hd2 : decide (65536 < (n : Int)) = false := by simp; omega
  have HCP : Hid (∀ (W : World) (v : Value) (xs : List Int), IsB W v xs → xs.length ≤ 140737488355328 → Calls Try.prog 51 #[v] W fun e w' => ∃ u, e = .returned u ∧ Own8 w' W.heap.size u xs ∧ Below W.heap.size W w') := fun W v xs h1 h2 => copy_calls h1 h2
  clear hcell hn
  have hA0 : Arr (w.alloc (.cells z36.toArray 85)) w.heap.size 85 z36 := Arr.new w z36 _
  go_enter Try.func47, Try.ntmps47
  go_wp2
  go_loopw [5] (fun iv wr => ∃ (k : Nat) (v : Value), k ≤ n ∧ iv = .int .i64 (k : Int) ∧ Below w.heap.size w wr ∧ Arr wr w.heap.size 85 z36 ∧ Arr wr (w.heap.size + 1) 85 [.int .i64 (n : Int), v, .slice none 0 0, .int .i64 0, .int .i64 0, .int .i64 0] ∧ OwnAts wr w.heap.size v (atsOf (xss.take k)) ∧ ∀ j, j < k → (xss.getD j []).length = 512) (fun iv _ => n - (intOf iv).toNat)
  case atStart =>
    refine ⟨0, .slice none 0 0, by omega, rfl, ((Below.refl _ _).alloc (Nat.le_refl _) _).alloc (by simp) _, hA0.alloc _, ?_, by simpa [atsOf] using OwnAts.nil _ _, fun j hj => by omega⟩
    have := Arr.new (w.alloc (.cells z36.toArray 85)) [.int .i64 (n : Int), .slice none 0 0, .slice none 0 0, .int .i64 0, .int .i64 0, .int .i64 0] 85
    rw [size_alloc] at this
    exact this
  case round =>
    clear hA0
    obtain ⟨k, v, hk, rfl, hnx, hZ, hX, hown, hall⟩ := hrel
    have hsz := hnx.size
    by_cases hlt : k < n
    · obtain ⟨u, hu, hB0⟩ := unhide HC k hlt
      have hB := hB0.below hnx
      have hu1 : wr.cell? ⟨b, off + k, none⟩ = some u := (hnx.cell (p := ⟨b, off + k, none⟩) (World.block_lt_of_cell? w _ hu)).trans hu
      have hbw : b < w.heap.size := World.block_lt_of_cell? w _ hu
      by_cases hL : (xss.getD k []).length = 512
      · obtain ⟨ua, un, uc, rfl⟩ := hB.shape
        have hun := hB.lenEq
        rw [hL] at hun
        subst hun
        obtain ⟨va, vc, rfl⟩ := hown.shape
        have hkl : (atsOf (xss.take k)).length = k := by rw [atsOf_len, List.length_take]; have := HX.out; omega
        have hstep : atsOf (xss.take (k + 1)) = atsOf (xss.take k) ++ [((k : Int), xss.getD k [])] := by
          have hkx : k < xss.length := by have := HX.out; omega
          rw [List.take_succ_eq_append_getElem hkx, atsOf_snoc, getD_eq hkx, List.length_take, Nat.min_eq_left (by omega)]
        rw [hkl] at hX hown
        have hX1 := hX.cell_of (j := 1) rfl
        have HST := hide hstep
        have HALL : Hid (∀ j, j < k + 1 → (xss.getD j []).length = 512) := fun j hj => by
          by_cases e : j = k
          · rw [e]; exact hL
          · exact hall j (by omega)
        have HCU : Hid (∀ W, Below wr.heap.size wr W → Calls Try.prog 51 #[.slice ua 512 uc] W fun e w' => ∃ u, e = .returned u ∧ Own8 w' W.heap.size u (xss.getD k []) ∧ Below W.heap.size W w') := fun W hW => unhide HCP _ _ _ (hB.below hW) (by rw [hL]; decide)
        have hblt : b < wr.heap.size := by omega
        have HS : Hid (∀ W : World, W.heap[b]? = wr.heap[b]? → W.cell? ⟨b, off + k, none⟩ = some (.slice ua 512 uc)) := fun W hW => (World.cell?_of_block (a := ⟨b, off + k, none⟩) hW).trans hu1
        have HKL := hide hkl
        have HO := hide hown
        have HX2 := hide hX
        have HZ := hide hZ
        have HNX := hide hnx
        have hxl := hX.lt
        clear hown hX hZ hnx hall hstep hB hB0 hu hL hkl
        go_wp2_with fail
        refine wp_region_held_drew (S := fun W => W.cell? ⟨b, off + k, none⟩ = some (.slice ua 512 uc)) (by kernel_rfl) (unhide HS _ rfl) (fun hHeld => ?_)
        refine wpAnyH_take (i := 0) (v := .pointer (some ⟨w.heap.size + 1, 1, none⟩)) rfl (by kernel_rfl) (by kernel_rfl) (by kernel_rfl) (fun _ _ _ h => h) (Or.inl ⟨by rfl, fun w hSw => by go_simp⟩) (by assumption) ?_
        simp only [List.getElem_toArray, List.getElem_cons_zero, Act.put, List.setIfInBounds_toArray, List.set_cons_zero, List.set_cons_succ]
        refine wpAnyH_take (i := 2) (v := .int .i64 (k : Int)) rfl (by kernel_rfl) (by kernel_rfl) (by kernel_rfl) (fun _ _ _ h => h) (Or.inl ⟨by rfl, fun w hSw => by go_simp⟩) (by assumption) ?_
        simp only [List.getElem_toArray, List.getElem_cons_succ, List.getElem_cons_zero, Act.put, List.setIfInBounds_toArray, List.set_cons_zero, List.set_cons_succ]
        refine wpAnyH_take (i := 3) (v := .slice (some ⟨b, off, none⟩) n cap) rfl (by kernel_rfl) (by kernel_rfl) (by kernel_rfl) (fun _ _ _ h => h) (Or.inl ⟨by rfl, fun w hSw => by go_simp⟩) (by assumption) ?_
        simp only [List.getElem_toArray, List.getElem_cons_succ, List.getElem_cons_zero, Act.put, List.setIfInBounds_toArray, List.set_cons_zero, List.set_cons_succ]
        refine wpAnyH_take (i := 4) (v := .int .i64 (k : Int)) rfl (by kernel_rfl) (by kernel_rfl) (by kernel_rfl) (fun _ _ _ h => h) (Or.inl ⟨by rfl, fun w hSw => by go_simp⟩) (by assumption) ?_
        simp only [List.getElem_toArray, List.getElem_cons_succ, List.getElem_cons_zero, Act.put, List.setIfInBounds_toArray, List.set_cons_zero, List.set_cons_succ]
        refine wpAnyH_take (i := 5) (v := .pointer (some ⟨b, off + k, none⟩)) rfl (by kernel_rfl) (by kernel_rfl) (by kernel_rfl) (fun _ _ _ h => h) (Or.inl ⟨by rfl, fun w hSw => by go_simp⟩) (by assumption) ?_
        simp only [List.getElem_toArray, List.getElem_cons_succ, List.getElem_cons_zero, Act.put, List.setIfInBounds_toArray, List.set_cons_zero, List.set_cons_succ]
        refine wpAnyH_take (i := 6) (v := .slice ua 512 uc) rfl (by kernel_rfl) (by kernel_rfl) (by kernel_rfl) (fun _ _ _ h => h) (Or.inl ⟨by rfl, fun w hSw => by go_simp⟩) (by assumption) ?_
        simp only [List.getElem_toArray, List.getElem_cons_succ, List.getElem_cons_zero, Act.put, List.setIfInBounds_toArray, List.set_cons_zero, List.set_cons_succ]
        refine wpAnyH_ready (rs := [1, 7]) (by kernel_rfl) (by simp) (AllReadyH.cons rfl (fun K hK => ?_) (AllReadyH.cons rfl (fun K hK => ?_) AllReadyH.nil))
        · refine step_load34 rfl (.tmp 31) rfl rfl (hX1) ?_
          refine hK.out _ _ (hHeld) (fun hHeld1 => ?_)
          clear hK K
          simp only [List.getElem_toArray, List.getElem_cons_succ, List.getElem_cons_zero, Act.put, List.setIfInBounds_toArray, List.set_cons_zero, List.set_cons_succ]
          refine wpAnyH_ready (rs := [7]) (by kernel_rfl) (by simp) (AllReadyH.cons rfl (fun K hK => ?_) AllReadyH.nil)
          refine step_call1Q rfl 51 copy_enter (.tmp 37) _ rfl rfl (unhide HCU _ ((Below.refl _ _).drew)) ?_
          rintro e w2 ⟨u2, rfl, hu2, hb2'⟩
          have hb2 : Below wr.heap.size wr w2 := below_drew hb2'
          obtain ⟨xa, xn, xc, rfl⟩ := (Own8.isB hu2).shape
          have hX2 := HX2.out.below hb2
          have hO2 := HO.out.below hb2
          have hc2 := hX2.cell_of (j := 1) rfl
          refine ⟨_, rfl, ?_⟩
          refine hK.out _ _ (unhide HS _ (hb2.block b hblt)) (fun hHeld2 => ?_)
          clear hK K
          simp only [List.getElem_toArray, List.getElem_cons_succ, List.getElem_cons_zero, Act.put, List.setIfInBounds_toArray, List.set_cons_zero, List.set_cons_succ]
          refine wpAnyH_take (i := 8) (v := .agg #[.int .i64 (k : Int), .slice xa xn xc]) rfl (by kernel_rfl) (by kernel_rfl) (by kernel_rfl) (fun _ _ _ h => h) (Or.inl ⟨by rfl, fun w hSw => by go_simp⟩) (by assumption) ?_
          simp only [List.getElem_toArray, List.getElem_cons_succ, List.getElem_cons_zero, Act.put, List.setIfInBounds_toArray, List.set_cons_zero, List.set_cons_succ]
          refine wpAnyH_ready (rs := [9]) (by kernel_rfl) (by simp) (AllReadyH.cons rfl (fun K hK => ?_) AllReadyH.nil)
          refine step_buildAt rfl (.tmp 39) rfl rfl ?_
          have hbn := (Below.refl w2.heap.size w2).alloc (Nat.le_refl _) (.cells [.int .i64 (k : Int), .slice xa xn xc].toArray 104)
          have hA3 := Arr.new w2 [.int .i64 (k : Int), .slice xa xn xc] 104
          have hO3 := hO2.below hbn
          have hu3 := hu2.below hbn
          have hX3 := hX2.below hbn
          have hc3 := hX3.cell_of (j := 1) rfl
          have hb3 := below_then hb2 hbn
          refine hK.out _ _ (unhide HS _ (hb3.block b hblt)) (fun hHeld3 => ?_)
          clear hK K
          simp only [List.getElem_toArray, List.getElem_cons_succ, List.getElem_cons_zero, Act.put, List.setIfInBounds_toArray, List.set_cons_zero, List.set_cons_succ]
          generalize w2.alloc (.cells [.int .i64 (k : Int), .slice xa xn xc].toArray 104) = w3 at *
          refine wpAnyH_ready (rs := [10]) (by kernel_rfl) (by simp) (AllReadyH.cons rfl (fun K hK => ?_) AllReadyH.nil)
          refine step_appAt (B := w.heap.size) rfl (.tmp 32) (.tmp 40) rfl rfl hO3 rfl hA3 (hu3.mono (Nat.zero_le _)) (by rw [HKL.out]; omega) (by have := hb3.size; omega) ?_
          intro v6 w6 hO6 hg6 hv6
          have hX6 := hX3.keep (hg6.block _ hX3.lt (hO3.ne hX3 (by decide)).symm)
          have hs6 : w6.heap[b]? = wr.heap[b]? := (hg6.block b (by have := hb3.size; omega) (fun e => by rcases hv6 with hv6 | ⟨b', hv6, hb'⟩ <;> rw [hv6] at e <;> cases e; omega)).trans (hb3.block b hblt)
          have hZ6 : Arr w6 w.heap.size 85 z36 := (HZ.out.below hb3).keep (hg6.block _ (HZ.out.below hb3).lt (hO3.ne (HZ.out.below hb3) (by decide)).symm)
          have hbb6 : Below w.heap.size w w6 := below_app (HNX.out.trans (hb3.mono hsz)) hg6 (by have := hb3.size; omega) hv6
          obtain ⟨ya, yn, yc, rfl⟩ := hO6.shapeN
          refine hK.out _ _ (unhide HS _ hs6) (fun hHeld5 => ?_)
          clear hK K
          simp only [List.getElem_toArray, List.getElem_cons_succ, List.getElem_cons_zero, Act.put, List.setIfInBounds_toArray, List.set_cons_zero, List.set_cons_succ]
          refine wpAnyH_take (i := 11) (v := .pointer (some ⟨w.heap.size + 1, 1, none⟩)) rfl (by kernel_rfl) (by kernel_rfl) (by kernel_rfl) (fun _ _ _ h => h) (Or.inl ⟨by rfl, fun w hSw => by go_simp⟩) (by assumption) ?_
          simp only [List.getElem_toArray, List.getElem_cons_succ, List.getElem_cons_zero, Act.put, List.setIfInBounds_toArray, List.set_cons_zero, List.set_cons_succ]
          refine wpAnyH_ready (rs := [12]) (by kernel_rfl) (by simp) (AllReadyH.cons rfl (fun K hK => ?_) AllReadyH.nil)
          refine step_store34 (v := .slice ya yn yc) rfl (.tmp 42) (.tmp 41) rfl rfl rfl rfl (hX6.cell_of (j := 1) rfl) (hX6.frozen 1) ?_
          have hg7 := grown_cell w6 (w.heap.size + 1) 1 (.slice ya yn yc)
          have hX7 := hX6.set 1 (.slice ya yn yc)
          have hO7 := hO6.other hg7 hX6 (by decide) (by decide)
          have hZ7 := hZ6.other ⟨w.heap.size + 1, 1, none⟩ (.slice ya yn yc) (by simp)
          have hbb7 : Below w.heap.size w (w6.setCell ⟨w.heap.size + 1, 1, none⟩ (.slice ya yn yc)) := hbb6.setCell (by simp) _
          refine hK.out _ _ (unhide HS _ ((hg7.block b (by have := hbb6.size; omega) (by simp; omega)).trans hs6)) (fun hHeld6 => ?_)
          clear hK K
          simp only [List.getElem_toArray, List.getElem_cons_succ, List.getElem_cons_zero, Act.put]
          refine wpAnyH_done (by kernel_rfl) ?_ _
          rw [← HST.out] at hO7
          go_wp2
          go_roundw
          case rel => exact ⟨k + 1, _, by omega, by go_num, hbb7, hZ7, hX7, hO7, HALL.out⟩
          case measure => simp [intOf]; omega
        · refine step_call1Q rfl 51 copy_enter (.tmp 37) _ rfl rfl (unhide HCU _ ((Below.refl _ _).drew)) ?_
          rintro e w2 ⟨u2, rfl, hu2, hb2'⟩
          have hb2 : Below wr.heap.size wr w2 := below_drew hb2'
          obtain ⟨xa, xn, xc, rfl⟩ := (Own8.isB hu2).shape
          have hX2 := HX2.out.below hb2
          have hO2 := HO.out.below hb2
          have hc2 := hX2.cell_of (j := 1) rfl
          refine ⟨_, rfl, ?_⟩
          refine hK.out _ _ (unhide HS _ (hb2.block b hblt)) (fun hHeld2 => ?_)
          clear hK K
          simp only [List.getElem_toArray, List.getElem_cons_succ, List.getElem_cons_zero, Act.put, List.setIfInBounds_toArray, List.set_cons_zero, List.set_cons_succ]
          refine wpAnyH_take (i := 8) (v := .agg #[.int .i64 (k : Int), .slice xa xn xc]) rfl (by kernel_rfl) (by kernel_rfl) (by kernel_rfl) (fun _ _ _ h => h) (Or.inl ⟨by rfl, fun w hSw => by go_simp⟩) (by assumption) ?_
          simp only [List.getElem_toArray, List.getElem_cons_succ, List.getElem_cons_zero, Act.put, List.setIfInBounds_toArray, List.set_cons_zero, List.set_cons_succ]
          refine wpAnyH_ready (rs := [1, 9]) (by kernel_rfl) (by simp) (AllReadyH.cons rfl (fun K hK => ?_) (AllReadyH.cons rfl (fun K hK => ?_) AllReadyH.nil))
          · refine step_load34 rfl (.tmp 31) rfl rfl (hc2) ?_
            refine hK.out _ _ (hHeld2) (fun hHeld1 => ?_)
            clear hK K
            simp only [List.getElem_toArray, List.getElem_cons_succ, List.getElem_cons_zero, Act.put, List.setIfInBounds_toArray, List.set_cons_zero, List.set_cons_succ]
            refine wpAnyH_ready (rs := [9]) (by kernel_rfl) (by simp) (AllReadyH.cons rfl (fun K hK => ?_) AllReadyH.nil)
            refine step_buildAt rfl (.tmp 39) rfl rfl ?_
            have hbn := (Below.refl w2.heap.size w2).alloc (Nat.le_refl _) (.cells [.int .i64 (k : Int), .slice xa xn xc].toArray 104)
            have hA3 := Arr.new w2 [.int .i64 (k : Int), .slice xa xn xc] 104
            have hO3 := hO2.below hbn
            have hu3 := hu2.below hbn
            have hX3 := hX2.below hbn
            have hc3 := hX3.cell_of (j := 1) rfl
            have hb3 := below_then hb2 hbn
            refine hK.out _ _ (unhide HS _ (hb3.block b hblt)) (fun hHeld3 => ?_)
            clear hK K
            simp only [List.getElem_toArray, List.getElem_cons_succ, List.getElem_cons_zero, Act.put, List.setIfInBounds_toArray, List.set_cons_zero, List.set_cons_succ]
            generalize w2.alloc (.cells [.int .i64 (k : Int), .slice xa xn xc].toArray 104) = w3 at *
            refine wpAnyH_ready (rs := [10]) (by kernel_rfl) (by simp) (AllReadyH.cons rfl (fun K hK => ?_) AllReadyH.nil)
            refine step_appAt (B := w.heap.size) rfl (.tmp 32) (.tmp 40) rfl rfl hO3 rfl hA3 (hu3.mono (Nat.zero_le _)) (by rw [HKL.out]; omega) (by have := hb3.size; omega) ?_
            intro v6 w6 hO6 hg6 hv6
            have hX6 := hX3.keep (hg6.block _ hX3.lt (hO3.ne hX3 (by decide)).symm)
            have hs6 : w6.heap[b]? = wr.heap[b]? := (hg6.block b (by have := hb3.size; omega) (fun e => by rcases hv6 with hv6 | ⟨b', hv6, hb'⟩ <;> rw [hv6] at e <;> cases e; omega)).trans (hb3.block b hblt)
            have hZ6 : Arr w6 w.heap.size 85 z36 := (HZ.out.below hb3).keep (hg6.block _ (HZ.out.below hb3).lt (hO3.ne (HZ.out.below hb3) (by decide)).symm)
            have hbb6 : Below w.heap.size w w6 := below_app (HNX.out.trans (hb3.mono hsz)) hg6 (by have := hb3.size; omega) hv6
            obtain ⟨ya, yn, yc, rfl⟩ := hO6.shapeN
            refine hK.out _ _ (unhide HS _ hs6) (fun hHeld5 => ?_)
            clear hK K
            simp only [List.getElem_toArray, List.getElem_cons_succ, List.getElem_cons_zero, Act.put, List.setIfInBounds_toArray, List.set_cons_zero, List.set_cons_succ]
            refine wpAnyH_take (i := 11) (v := .pointer (some ⟨w.heap.size + 1, 1, none⟩)) rfl (by kernel_rfl) (by kernel_rfl) (by kernel_rfl) (fun _ _ _ h => h) (Or.inl ⟨by rfl, fun w hSw => by go_simp⟩) (by assumption) ?_
            simp only [List.getElem_toArray, List.getElem_cons_succ, List.getElem_cons_zero, Act.put, List.setIfInBounds_toArray, List.set_cons_zero, List.set_cons_succ]
            refine wpAnyH_ready (rs := [12]) (by kernel_rfl) (by simp) (AllReadyH.cons rfl (fun K hK => ?_) AllReadyH.nil)
            refine step_store34 (v := .slice ya yn yc) rfl (.tmp 42) (.tmp 41) rfl rfl rfl rfl (hX6.cell_of (j := 1) rfl) (hX6.frozen 1) ?_
            have hg7 := grown_cell w6 (w.heap.size + 1) 1 (.slice ya yn yc)
            have hX7 := hX6.set 1 (.slice ya yn yc)
            have hO7 := hO6.other hg7 hX6 (by decide) (by decide)
            have hZ7 := hZ6.other ⟨w.heap.size + 1, 1, none⟩ (.slice ya yn yc) (by simp)
            have hbb7 : Below w.heap.size w (w6.setCell ⟨w.heap.size + 1, 1, none⟩ (.slice ya yn yc)) := hbb6.setCell (by simp) _
            refine hK.out _ _ (unhide HS _ ((hg7.block b (by have := hbb6.size; omega) (by simp; omega)).trans hs6)) (fun hHeld6 => ?_)
            clear hK K
            simp only [List.getElem_toArray, List.getElem_cons_succ, List.getElem_cons_zero, Act.put]
            refine wpAnyH_done (by kernel_rfl) ?_ _
            rw [← HST.out] at hO7
            go_wp2
            go_roundw
            case rel => exact ⟨k + 1, _, by omega, by go_num, hbb7, hZ7, hX7, hO7, HALL.out⟩
            case measure => simp [intOf]; omega
          · refine step_buildAt rfl (.tmp 39) rfl rfl ?_
            have hbn := (Below.refl w2.heap.size w2).alloc (Nat.le_refl _) (.cells [.int .i64 (k : Int), .slice xa xn xc].toArray 104)
            have hA3 := Arr.new w2 [.int .i64 (k : Int), .slice xa xn xc] 104
            have hO3 := hO2.below hbn
            have hu3 := hu2.below hbn
            have hX3 := hX2.below hbn
            have hc3 := hX3.cell_of (j := 1) rfl
            have hb3 := below_then hb2 hbn
            refine hK.out _ _ (unhide HS _ (hb3.block b hblt)) (fun hHeld3 => ?_)
            clear hK K
            simp only [List.getElem_toArray, List.getElem_cons_succ, List.getElem_cons_zero, Act.put, List.setIfInBounds_toArray, List.set_cons_zero, List.set_cons_succ]
            generalize w2.alloc (.cells [.int .i64 (k : Int), .slice xa xn xc].toArray 104) = w3 at *
            refine wpAnyH_ready (rs := [1]) (by kernel_rfl) (by simp) (AllReadyH.cons rfl (fun K hK => ?_) AllReadyH.nil)
            refine step_load34 rfl (.tmp 31) rfl rfl (hc3) ?_
            refine hK.out _ _ (hHeld3) (fun hHeld1 => ?_)
            clear hK K
            simp only [List.getElem_toArray, List.getElem_cons_succ, List.getElem_cons_zero, Act.put, List.setIfInBounds_toArray, List.set_cons_zero, List.set_cons_succ]
            refine wpAnyH_ready (rs := [10]) (by kernel_rfl) (by simp) (AllReadyH.cons rfl (fun K hK => ?_) AllReadyH.nil)
            refine step_appAt (B := w.heap.size) rfl (.tmp 32) (.tmp 40) rfl rfl hO3 rfl hA3 (hu3.mono (Nat.zero_le _)) (by rw [HKL.out]; omega) (by have := hb3.size; omega) ?_
            intro v6 w6 hO6 hg6 hv6
            have hX6 := hX3.keep (hg6.block _ hX3.lt (hO3.ne hX3 (by decide)).symm)
            have hs6 : w6.heap[b]? = wr.heap[b]? := (hg6.block b (by have := hb3.size; omega) (fun e => by rcases hv6 with hv6 | ⟨b', hv6, hb'⟩ <;> rw [hv6] at e <;> cases e; omega)).trans (hb3.block b hblt)
            have hZ6 : Arr w6 w.heap.size 85 z36 := (HZ.out.below hb3).keep (hg6.block _ (HZ.out.below hb3).lt (hO3.ne (HZ.out.below hb3) (by decide)).symm)
            have hbb6 : Below w.heap.size w w6 := below_app (HNX.out.trans (hb3.mono hsz)) hg6 (by have := hb3.size; omega) hv6
            obtain ⟨ya, yn, yc, rfl⟩ := hO6.shapeN
            refine hK.out _ _ (unhide HS _ hs6) (fun hHeld5 => ?_)
            clear hK K
            simp only [List.getElem_toArray, List.getElem_cons_succ, List.getElem_cons_zero, Act.put, List.setIfInBounds_toArray, List.set_cons_zero, List.set_cons_succ]
            refine wpAnyH_take (i := 11) (v := .pointer (some ⟨w.heap.size + 1, 1, none⟩)) rfl (by kernel_rfl) (by kernel_rfl) (by kernel_rfl) (fun _ _ _ h => h) (Or.inl ⟨by rfl, fun w hSw => by go_simp⟩) (by assumption) ?_
            simp only [List.getElem_toArray, List.getElem_cons_succ, List.getElem_cons_zero, Act.put, List.setIfInBounds_toArray, List.set_cons_zero, List.set_cons_succ]
            refine wpAnyH_ready (rs := [12]) (by kernel_rfl) (by simp) (AllReadyH.cons rfl (fun K hK => ?_) AllReadyH.nil)
            refine step_store34 (v := .slice ya yn yc) rfl (.tmp 42) (.tmp 41) rfl rfl rfl rfl (hX6.cell_of (j := 1) rfl) (hX6.frozen 1) ?_
            have hg7 := grown_cell w6 (w.heap.size + 1) 1 (.slice ya yn yc)
            have hX7 := hX6.set 1 (.slice ya yn yc)
            have hO7 := hO6.other hg7 hX6 (by decide) (by decide)
            have hZ7 := hZ6.other ⟨w.heap.size + 1, 1, none⟩ (.slice ya yn yc) (by simp)
            have hbb7 : Below w.heap.size w (w6.setCell ⟨w.heap.size + 1, 1, none⟩ (.slice ya yn yc)) := hbb6.setCell (by simp) _
            refine hK.out _ _ (unhide HS _ ((hg7.block b (by have := hbb6.size; omega) (by simp; omega)).trans hs6)) (fun hHeld6 => ?_)
            clear hK K
            simp only [List.getElem_toArray, List.getElem_cons_succ, List.getElem_cons_zero, Act.put]
            refine wpAnyH_done (by kernel_rfl) ?_ _
            rw [← HST.out] at hO7
            go_wp2
            go_roundw
            case rel => exact ⟨k + 1, _, by omega, by go_num, hbb7, hZ7, hX7, hO7, HALL.out⟩
            case measure => simp [intOf]; omega
      · obtain ⟨ua, un, uc, rfl⟩ := hB.shape
        have hm2 := hB.lenEq
        have hm3 : ¬ (un : Int) = 512 := by omega
        have HE : Hid (∃ j, j < n ∧ (xss.getD j []).length ≠ 512) := ⟨k, hlt, hL⟩
        have HNX := hide hnx
        have hth : wr.there w.heap.size 0 z36.length := hZ.there
        have hset := hZ.setAll (ds := z36) rfl
        have hg := grown_setCells wr w.heap.size 0 z36
        have hbw7 : Below w.heap.size w (wr.setCells w.heap.size 0 z36) := HNX.out.grown hg hsz (fun j hj => by injection hj with hj; omega)
        generalize hw7 : wr.setCells w.heap.size 0 z36 = w7 at *
        clear hm2 hB hB0 hown hX hnx
        go_wp2_with (refine wpList_storeRow (cs := z36) rfl (.tmp 2) (.tmp 30) 85 rfl rfl rfl hth info36 z36_one ?_; rw [hw7])
        have hload : (loadVar 85 ⟨w.heap.size, 0, none⟩).run Try.prog w7 = .ok (.agg z36.toArray) w7 := run_loadVar_mid _ _ 0 _ _ _ hset.range Try.underlying85 rfl info36
        clear hw7
        refine bodyPost_ret (v := .tuple #[.agg z36.toArray, .int .i64 32]) ?_ rfl ?_
        · exact results2 rfl rfl rfl hload
        · exact ⟨hbw7, Or.inl ⟨rfl, HE.out⟩⟩
    · have hkn : k = n := by omega
      obtain ⟨va, vc, rfl⟩ := hown.shape
      have hcs : rdC n va (atsOf (xss.take k)).length vc none 0 0 0 0 0 = [.int .i64 (n : Int), .slice va (atsOf (xss.take k)).length vc, .slice none 0 0, .int .i64 0, .int .i64 0, .int .i64 0] := rfl
      rw [← hcs] at hX
      have HE : Hid (atsOf (xss.take k) = atsOf xss) := hide (by rw [List.take_of_length_le (by have := HX.out; omega)])
      have hth : wr.there w.heap.size 0 (rdC n va (atsOf (xss.take k)).length vc none 0 0 0 0 0).length := hZ.there
      have hset := hZ.setAll (ds := rdC n va (atsOf (xss.take k)).length vc none 0 0 0 0 0) rfl
      have hg := grown_setCells wr w.heap.size 0 (rdC n va (atsOf (xss.take k)).length vc none 0 0 0 0 0)
      have hI0 := hown.isAts.other hg hZ (by decide) (by decide)
      have hI := (fun (l' : Ats) (e : atsOf (xss.take k) = l') => (by subst e; exact hI0 : IsAts (wr.setCells w.heap.size 0 (rdC n va (atsOf (xss.take k)).length vc none 0 0 0 0 0)) (.slice va (atsOf (xss.take k)).length vc) l')) _ HE.out
      clear hI0
      have hrg := hX.range
      have hund := Try.underlying85
      have hone := rdC_one n va (atsOf (xss.take k)).length vc none 0 0 0 0 0
      have HI := hide hI
      have HNX := hide hnx
      have HAL : Hid (∀ j, j < n → (xss.getD j []).length = 512) := fun j hj => hall j (by omega)
      clear hkn hcs hX hown hnx hI hall HE
      generalize (atsOf (xss.take k)).length = nk at *
      have hbw7 : Below w.heap.size w (wr.setCells w.heap.size 0 (rdC n va nk vc none 0 0 0 0 0)) := HNX.out.grown hg hsz (fun j hj => by injection hj with hj; omega)
      generalize hw7 : wr.setCells w.heap.size 0 (rdC n va nk vc none 0 0 0 0 0) = w7 at *
      go_wp2_with (first
        | (refine wpList_load_mid rfl 85 (.tmp 4) rfl (w.heap.size + 1) 0 rfl (rdC n va nk vc none 0 0 0 0 0) _ hrg hund rfl info36 ?_)
        | (refine wpList_storeRow (cs := rdC n va nk vc none 0 0 0 0 0) rfl (.tmp 2) (.tmp 43) 85 rfl rfl rfl hth info36 hone ?_; rw [hw7]))
      have hload : (loadVar 85 ⟨w.heap.size, 0, none⟩).run Try.prog w7 = .ok (.agg (rdC n va nk vc none 0 0 0 0 0).toArray) w7 := run_loadVar_mid _ _ 0 _ _ _ hset.range hund rfl info36
      clear hw7
      refine bodyPost_ret (v := .tuple #[.agg (rdC n va nk vc none 0 0 0 0 0).toArray, .int .i64 0]) ?_ rfl ?_
      · exact results2 rfl rfl rfl hload
      · exact ⟨hbw7, Or.inr ⟨va, nk, vc, rfl, HAL.out, HI.out⟩⟩
end Go.Proofs.Ytfgjhlnaaopdeab
