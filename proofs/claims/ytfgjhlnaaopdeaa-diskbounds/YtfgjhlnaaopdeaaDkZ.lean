/- The document's Turn. -/
import Derived.Test.YtfgjhlnaaopdeaaDkY
import Derived.Test.YtfgjhlnaaopdeaaDkO
import Derived.Deep.DeepCutAuto
namespace Go.Proofs.Ytfgjhlnaaopdeaa
open Go.RowKit Go.Maps

section
variable {ops : Array Oper} {o : Oper} {a : Act} {w : World} {K : Act → World → Prop} {Q : Exit → Act → World → Prop} {E : Prop}
theorem step_call3Q (hgd : o.guard = none) (f : Nat) (hf : ∀ (v u z : Value) (W : World), (callFunc f #[v, u, z]).run Try.prog W = .ok (.enter f #[v, u, z]) W) (x y t : Operand) (ts : Array TypeId) (ho : o.op = .call { callee := .value (.func f), args := #[x, y, t], argTypes := ts }) {v u z : Value} (hx : a.eval x = v) (hy : a.eval y = u) (ht : a.eval t = z)
    {Post : Ending → World → Prop} (hc : Calls Try.prog f #[v, u, z] w Post) (hk : ∀ e w2, Post e w2 → ∃ r, e = .returned r ∧ K (a.put o.dst r) w2) :
    if Region.wanted o (yielded ops a.tmps) = true then Oper.wp Try.prog o a w K Q else E := by
  rw [if_pos (by simp [Region.wanted, hgd])]
  have hrun : (execOp a.eval o).run Try.prog w = .ok (.enter f #[v, u, z]) w := by
    have h1 := hf v u z w
    unfold execOp
    have hfv : a.eval (.func f) = .func (.func f) #[] #[] := rfl
    simp [ho, hx, hy, ht, hfv, resolve, invoke, Deferred.ofValue, h1]
  unfold Oper.wp
  rw [hrun]
  refine hc.mono ?_
  intro e w2 hp
  obtain ⟨r, rfl, hK⟩ := hk e w2 hp
  exact hK
end
theorem put_enter (v u z : Value) (W : World) : (callFunc 46 #[v, u, z]).run Try.prog W = .ok (.enter 46 #[v, u, z]) W := by kernel_rfl
theorem lasts_enter (v u : Value) (W : World) : (callFunc 49 #[v, u]).run Try.prog W = .ok (.enter 49 #[v, u]) W := by kernel_rfl
theorem rturned_enter (v u : Value) (W : World) : (callFunc 48 #[v, u]).run Try.prog W = .ok (.enter 48 #[v, u]) W := by kernel_rfl
def turnF (i bit : Nat) (a : Int × List Int) : Int × List Int := if a.1 = (i : Int) then ((i : Int), turnB a.2 bit) else a
set_option maxRecDepth 100000 in
set_option maxHeartbeats 4000000 in
theorem rturn_first {w : World} {a1 a2 : Option Addr} {n1 n2 c1 c2 i bit : Nat} {n rd wt fl : Int} {la l : Ats} {N : Nat} (h : IsAts w (.slice a2 n2 c2) l) (ha : IsAts w (.slice a1 n1 c1) la) (hoa : AtsOk N la) (hok : AtsOk N l) (hi : (i : Int) < n) (hb : bit < 4096) (hl : l.length ≤ 549755813888) (hla : la.length ≤ 549755813888) :
    Calls Try.prog 34 #[.agg #[.int .i64 n, .slice a1 n1 c1, .slice a2 n2 c2, .int .i64 rd, .int .i64 wt, .int .i64 fl], .int .i64 (i : Int), .int .i64 (bit : Int)] w fun e w' => ∃ a3 n3 c3 a4 n4 c4, e = .returned (.tuple #[.agg (rdC n a3 n3 c3 a4 n4 c4 rd wt fl).toArray, .int .i64 0]) ∧ IsAts w' (.slice a3 n3 c3) (putL la i (turnB (lastOf la i) bit)) ∧ IsAts w' (.slice a4 n4 c4) (l.map fun a => if a.1 = (i : Int) then ((i : Int), turnB a.2 bit) else a) ∧ Below w.heap.size w w' := by
  have h1 : decide ((i : Int) < 0) = false := by simp
  have h2 : decide (n ≤ (i : Int)) = false := by simpa using hi
  have h3 : decide ((bit : Int) < 0) = false := by simp
  have h4 : decide (4096 ≤ (bit : Int)) = false := by simp; omega
  have hZ0 : Arr ((w.alloc (.cells #[.int .i64 n, .slice a1 n1 c1, .slice a2 n2 c2, .int .i64 rd, .int .i64 wt, .int .i64 fl] 36)).alloc (.cells z36.toArray 36)) (w.heap.size + 1) 36 z36 := by
    have := Arr.new (w.alloc (.cells #[.int .i64 n, .slice a1 n1 c1, .slice a2 n2 c2, .int .i64 rd, .int .i64 wt, .int .i64 fl] 36)) z36 36
    rw [size_alloc] at this
    exact this
  have hX0 : Arr ((w.alloc (.cells #[.int .i64 n, .slice a1 n1 c1, .slice a2 n2 c2, .int .i64 rd, .int .i64 wt, .int .i64 fl] 36)).alloc (.cells z36.toArray 36)) w.heap.size 36 (rdC n a1 n1 c1 a2 n2 c2 rd wt fl) := (Arr.new w (rdC n a1 n1 c1 a2 n2 c2 rd wt fl) _).alloc _
  have hb0 : Below w.heap.size w ((w.alloc (.cells #[.int .i64 n, .slice a1 n1 c1, .slice a2 n2 c2, .int .i64 rd, .int .i64 wt, .int .i64 fl] 36)).alloc (.cells z36.toArray 36)) := ((Below.refl _ _).alloc (Nat.le_refl _) _).alloc (by simp) _
  have hsec := lastOf_is hoa (i : Int)
  go_enter Try.func34, Try.ntmps34
  go_wp2
  have hw1e : (w.alloc (.cells #[.int .i64 n, .slice a1 n1 c1, .slice a2 n2 c2, .int .i64 rd, .int .i64 wt, .int .i64 fl] 36)).alloc (.cells z36.toArray 36) = (w.alloc (.cells #[.int .i64 n, .slice a1 n1 c1, .slice a2 n2 c2, .int .i64 rd, .int .i64 wt, .int .i64 fl] 36)).alloc (.cells #[.int .i64 0, .slice none 0 0, .slice none 0 0, .int .i64 0, .int .i64 0, .int .i64 0] 36) := rfl
  rw [hw1e] at hZ0 hX0 hb0
  clear hw1e
  generalize (w.alloc (.cells #[.int .i64 n, .slice a1 n1 c1, .slice a2 n2 c2, .int .i64 rd, .int .i64 wt, .int .i64 fl] 36)).alloc (.cells #[.int .i64 0, .slice none 0 0, .slice none 0 0, .int .i64 0, .int .i64 0, .int .i64 0] 36) = w1 at *
  have hund := Try.underlying36
  have HLc : Hid (∀ W, Below w1.heap.size w1 W → Calls Try.prog 49 #[.agg (rdC n a1 n1 c1 a2 n2 c2 rd wt fl).toArray, .int .i64 (i : Int)] W fun e w' => ∃ u, e = .returned u ∧ Own8 w' 0 u (lastOf la i) ∧ Below W.heap.size W w') := fun W hW => lasts_calls ((ha.below hb0).below hW)
  have HTc : Hid (∀ (W : World) (u : Value), Own8 W 0 u (lastOf la i) → Calls Try.prog 48 #[u, .int .i64 (bit : Int)] W fun e w' => ∃ u, e = .returned u ∧ Own8 w' W.heap.size u (turnB (lastOf la i) bit) ∧ Below W.heap.size W w') := fun W u hu => rturned_calls (Own8.isB hu) hsec hb
  have HPc : Hid (∀ (W : World) (u : Value), Below w1.heap.size w1 W → Own8 W 0 u (turnB (lastOf la i) bit) → Calls Try.prog 46 #[.slice a1 n1 c1, .int .i64 (i : Int), u] W fun e w' => ∃ v, e = .returned v ∧ IsAts w' v (putL la i (turnB (lastOf la i) bit)) ∧ Below W.heap.size W w') := fun W u hW hu => put_calls ((ha.below hb0).below hW) hu hla
  have hxl := hX0.lt
  go_cut [34] (fun _ wc => Hid (∃ a3 n3 c3, Arr wc w.heap.size 36 (rdC n a3 n3 c3 a2 n2 c2 rd wt fl) ∧ Arr wc (w.heap.size + 1) 36 z36 ∧ IsAts wc (.slice a3 n3 c3) (putL la i (turnB (lastOf la i) bit)) ∧ Below w.heap.size w wc ∧ IsAts wc (.slice a2 n2 c2) l))
  case first =>
    refine wp_region_held_drew (S := fun _ => True) (by kernel_rfl) (trivial) (fun hHeld => ?_)
    refine wpAnyH_take (i := 0) (v := .pointer (some ⟨w.heap.size, 1, none⟩)) rfl (by kernel_rfl) (by kernel_rfl) (by kernel_rfl) (fun _ _ _ h => h) (Or.inl ⟨by rfl, fun w hSw => by go_simp⟩) (by assumption) ?_
    simp only [List.getElem_toArray, List.getElem_cons_zero, Act.put, List.setIfInBounds_toArray, List.set_cons_zero, List.set_cons_succ]
    refine wpAnyH_take (i := 2) (v := .int .i64 (i : Int)) rfl (by kernel_rfl) (by kernel_rfl) (by kernel_rfl) (fun _ _ _ h => h) (Or.inl ⟨by rfl, fun w hSw => by go_simp⟩) (by assumption) ?_
    simp only [List.getElem_toArray, List.getElem_cons_succ, List.getElem_cons_zero, Act.put, List.setIfInBounds_toArray, List.set_cons_zero, List.set_cons_succ]
    refine wpAnyH_take (i := 4) (v := .int .i64 (i : Int)) rfl (by kernel_rfl) (by kernel_rfl) (by kernel_rfl) (fun _ _ _ h => h) (Or.inl ⟨by rfl, fun w hSw => by go_simp⟩) (by assumption) ?_
    simp only [List.getElem_toArray, List.getElem_cons_succ, List.getElem_cons_zero, Act.put, List.setIfInBounds_toArray, List.set_cons_zero, List.set_cons_succ]
    refine wpAnyH_take (i := 6) (v := .int .i64 (bit : Int)) rfl (by kernel_rfl) (by kernel_rfl) (by kernel_rfl) (fun _ _ _ h => h) (Or.inl ⟨by rfl, fun w hSw => by go_simp⟩) (by assumption) ?_
    simp only [List.getElem_toArray, List.getElem_cons_succ, List.getElem_cons_zero, Act.put, List.setIfInBounds_toArray, List.set_cons_zero, List.set_cons_succ]
    refine wpAnyH_ready (rs := [1, 3]) (by kernel_rfl) (by simp) (AllReadyH.cons rfl (fun K hK => ?_) (AllReadyH.cons rfl (fun K hK => ?_) AllReadyH.nil))
    · refine step_load34 rfl (.tmp 26) rfl rfl ((hX0.below ((Below.refl _ _).drew)).cell_of (j := 1) rfl) ?_
      refine hK.out _ _ (trivial) (fun hH1 => ?_)
      clear hK K
      simp only [List.getElem_toArray, List.getElem_cons_succ, List.getElem_cons_zero, Act.put, List.setIfInBounds_toArray, List.set_cons_zero, List.set_cons_succ]
      refine wpAnyH_ready (rs := [3]) (by kernel_rfl) (by simp) (AllReadyH.cons rfl (fun K hK => ?_) AllReadyH.nil)
      refine step_loadGd (by rfl) (.tmp 3) 36 rfl rfl ((hX0.below (Below.refl _ _).drew).range) hund rfl info36 ?_
      refine hK.out _ _ (trivial) (fun hH3 => ?_)
      clear hK K
      simp only [List.getElem_toArray, List.getElem_cons_succ, List.getElem_cons_zero, Act.put, List.setIfInBounds_toArray, List.set_cons_zero, List.set_cons_succ]
      refine wpAnyH_ready (rs := [5]) (by kernel_rfl) (by simp) (AllReadyH.cons rfl (fun K hK => ?_) AllReadyH.nil)
      refine step_call2Q rfl 49 lasts_enter (.tmp 29) (.tmp 30) _ rfl rfl rfl (unhide HLc _ (Below.refl _ _).drew) ?_
      rintro e w2 ⟨u2, rfl, hu2, hb2'⟩
      have hb2 : Below w1.heap.size w1 w2 := below_drew hb2'
      refine ⟨_, rfl, ?_⟩
      refine hK.out _ _ (trivial) (fun hH5 => ?_)
      clear hK K
      simp only [List.getElem_toArray, List.getElem_cons_succ, List.getElem_cons_zero, Act.put, List.setIfInBounds_toArray, List.set_cons_zero, List.set_cons_succ]
      refine wpAnyH_ready (rs := [7]) (by kernel_rfl) (by simp) (AllReadyH.cons rfl (fun K hK => ?_) AllReadyH.nil)
      refine step_call2Q rfl 48 rturned_enter (.tmp 31) (.tmp 32) _ rfl rfl rfl (unhide HTc _ _ hu2) ?_
      rintro e w3 ⟨u3, rfl, hu3, hb3'⟩
      have hb3 : Below w1.heap.size w1 w3 := below_then hb2 hb3'
      refine ⟨_, rfl, ?_⟩
      refine hK.out _ _ (trivial) (fun hH7 => ?_)
      clear hK K
      simp only [List.getElem_toArray, List.getElem_cons_succ, List.getElem_cons_zero, Act.put, List.setIfInBounds_toArray, List.set_cons_zero, List.set_cons_succ]
      refine wpAnyH_ready (rs := [8]) (by kernel_rfl) (by simp) (AllReadyH.cons rfl (fun K hK => ?_) AllReadyH.nil)
      refine step_call3Q rfl 46 put_enter (.tmp 27) (.tmp 28) (.tmp 33) _ rfl rfl rfl rfl (unhide HPc _ _ hb3 (hu3.mono (Nat.zero_le _))) ?_
      rintro e w4 ⟨v4, rfl, hv4, hb4'⟩
      have hb4 : Below w1.heap.size w1 w4 := below_then hb3 hb4'
      obtain ⟨xa, xc, rfl, _⟩ := hv4.shape
      have hX4 := hX0.below hb4
      refine ⟨_, rfl, ?_⟩
      refine hK.out _ _ (trivial) (fun hH8 => ?_)
      clear hK K
      simp only [List.getElem_toArray, List.getElem_cons_succ, List.getElem_cons_zero, Act.put, List.setIfInBounds_toArray, List.set_cons_zero, List.set_cons_succ]
      refine wpAnyH_take (i := 9) (v := .pointer (some ⟨w.heap.size, 1, none⟩)) rfl (by kernel_rfl) (by kernel_rfl) (by kernel_rfl) (fun _ _ _ h => h) (Or.inl ⟨by rfl, fun w hSw => by go_simp⟩) (by assumption) ?_
      simp only [List.getElem_toArray, List.getElem_cons_succ, List.getElem_cons_zero, Act.put, List.setIfInBounds_toArray, List.set_cons_zero, List.set_cons_succ]
      refine wpAnyH_ready (rs := [10]) (by kernel_rfl) (by simp) (AllReadyH.cons rfl (fun K hK => ?_) AllReadyH.nil)
      refine step_store34 (v := .slice xa (putL la i (turnB (lastOf la i) bit)).length xc) rfl (.tmp 35) (.tmp 34) rfl rfl rfl rfl (hX4.cell_of (j := 1) rfl) (hX4.frozen 1) ?_
      refine hK.out _ _ (trivial) (fun hH10 => ?_)
      clear hK K
      simp only [List.getElem_toArray, List.getElem_cons_succ, List.getElem_cons_zero, Act.put]
      refine wpAnyH_done (by kernel_rfl) ?_ _
      have hg5 := grown_cell w4 w.heap.size 1 (.slice xa (putL la i (turnB (lastOf la i) bit)).length xc)
      go_wp2
      go_meet
      exact hide ⟨xa, _, xc, hX4.set 1 _, (hZ0.below hb4).other ⟨w.heap.size, 1, none⟩ _ (by simp), hv4.other hg5 hX4 (by decide) (by decide), (hb0.trans (hb4.mono hb0.size)).setCell (Nat.le_refl _) _, (((h.below hb0).below hb4).other hg5 hX4 (by decide) (by decide))⟩
    · refine step_loadGd (by rfl) (.tmp 3) 36 rfl rfl ((hX0.below (Below.refl _ _).drew).range) hund rfl info36 ?_
      refine hK.out _ _ (trivial) (fun hH3 => ?_)
      clear hK K
      simp only [List.getElem_toArray, List.getElem_cons_succ, List.getElem_cons_zero, Act.put, List.setIfInBounds_toArray, List.set_cons_zero, List.set_cons_succ]
      refine wpAnyH_ready (rs := [1, 5]) (by kernel_rfl) (by simp) (AllReadyH.cons rfl (fun K hK => ?_) (AllReadyH.cons rfl (fun K hK => ?_) AllReadyH.nil))
      · refine step_load34 rfl (.tmp 26) rfl rfl ((hX0.below ((Below.refl _ _).drew)).cell_of (j := 1) rfl) ?_
        refine hK.out _ _ (trivial) (fun hH1 => ?_)
        clear hK K
        simp only [List.getElem_toArray, List.getElem_cons_succ, List.getElem_cons_zero, Act.put, List.setIfInBounds_toArray, List.set_cons_zero, List.set_cons_succ]
        refine wpAnyH_ready (rs := [5]) (by kernel_rfl) (by simp) (AllReadyH.cons rfl (fun K hK => ?_) AllReadyH.nil)
        refine step_call2Q rfl 49 lasts_enter (.tmp 29) (.tmp 30) _ rfl rfl rfl (unhide HLc _ (Below.refl _ _).drew) ?_
        rintro e w2 ⟨u2, rfl, hu2, hb2'⟩
        have hb2 : Below w1.heap.size w1 w2 := below_drew hb2'
        refine ⟨_, rfl, ?_⟩
        refine hK.out _ _ (trivial) (fun hH5 => ?_)
        clear hK K
        simp only [List.getElem_toArray, List.getElem_cons_succ, List.getElem_cons_zero, Act.put, List.setIfInBounds_toArray, List.set_cons_zero, List.set_cons_succ]
        refine wpAnyH_ready (rs := [7]) (by kernel_rfl) (by simp) (AllReadyH.cons rfl (fun K hK => ?_) AllReadyH.nil)
        refine step_call2Q rfl 48 rturned_enter (.tmp 31) (.tmp 32) _ rfl rfl rfl (unhide HTc _ _ hu2) ?_
        rintro e w3 ⟨u3, rfl, hu3, hb3'⟩
        have hb3 : Below w1.heap.size w1 w3 := below_then hb2 hb3'
        refine ⟨_, rfl, ?_⟩
        refine hK.out _ _ (trivial) (fun hH7 => ?_)
        clear hK K
        simp only [List.getElem_toArray, List.getElem_cons_succ, List.getElem_cons_zero, Act.put, List.setIfInBounds_toArray, List.set_cons_zero, List.set_cons_succ]
        refine wpAnyH_ready (rs := [8]) (by kernel_rfl) (by simp) (AllReadyH.cons rfl (fun K hK => ?_) AllReadyH.nil)
        refine step_call3Q rfl 46 put_enter (.tmp 27) (.tmp 28) (.tmp 33) _ rfl rfl rfl rfl (unhide HPc _ _ hb3 (hu3.mono (Nat.zero_le _))) ?_
        rintro e w4 ⟨v4, rfl, hv4, hb4'⟩
        have hb4 : Below w1.heap.size w1 w4 := below_then hb3 hb4'
        obtain ⟨xa, xc, rfl, _⟩ := hv4.shape
        have hX4 := hX0.below hb4
        refine ⟨_, rfl, ?_⟩
        refine hK.out _ _ (trivial) (fun hH8 => ?_)
        clear hK K
        simp only [List.getElem_toArray, List.getElem_cons_succ, List.getElem_cons_zero, Act.put, List.setIfInBounds_toArray, List.set_cons_zero, List.set_cons_succ]
        refine wpAnyH_take (i := 9) (v := .pointer (some ⟨w.heap.size, 1, none⟩)) rfl (by kernel_rfl) (by kernel_rfl) (by kernel_rfl) (fun _ _ _ h => h) (Or.inl ⟨by rfl, fun w hSw => by go_simp⟩) (by assumption) ?_
        simp only [List.getElem_toArray, List.getElem_cons_succ, List.getElem_cons_zero, Act.put, List.setIfInBounds_toArray, List.set_cons_zero, List.set_cons_succ]
        refine wpAnyH_ready (rs := [10]) (by kernel_rfl) (by simp) (AllReadyH.cons rfl (fun K hK => ?_) AllReadyH.nil)
        refine step_store34 (v := .slice xa (putL la i (turnB (lastOf la i) bit)).length xc) rfl (.tmp 35) (.tmp 34) rfl rfl rfl rfl (hX4.cell_of (j := 1) rfl) (hX4.frozen 1) ?_
        refine hK.out _ _ (trivial) (fun hH10 => ?_)
        clear hK K
        simp only [List.getElem_toArray, List.getElem_cons_succ, List.getElem_cons_zero, Act.put]
        refine wpAnyH_done (by kernel_rfl) ?_ _
        have hg5 := grown_cell w4 w.heap.size 1 (.slice xa (putL la i (turnB (lastOf la i) bit)).length xc)
        go_wp2
        go_meet
        exact hide ⟨xa, _, xc, hX4.set 1 _, (hZ0.below hb4).other ⟨w.heap.size, 1, none⟩ _ (by simp), hv4.other hg5 hX4 (by decide) (by decide), (hb0.trans (hb4.mono hb0.size)).setCell (Nat.le_refl _) _, (((h.below hb0).below hb4).other hg5 hX4 (by decide) (by decide))⟩
      · refine step_call2Q rfl 49 lasts_enter (.tmp 29) (.tmp 30) _ rfl rfl rfl (unhide HLc _ (Below.refl _ _).drew) ?_
        rintro e w2 ⟨u2, rfl, hu2, hb2'⟩
        have hb2 : Below w1.heap.size w1 w2 := below_drew hb2'
        refine ⟨_, rfl, ?_⟩
        refine hK.out _ _ (trivial) (fun hH5 => ?_)
        clear hK K
        simp only [List.getElem_toArray, List.getElem_cons_succ, List.getElem_cons_zero, Act.put, List.setIfInBounds_toArray, List.set_cons_zero, List.set_cons_succ]
        refine wpAnyH_ready (rs := [1, 7]) (by kernel_rfl) (by simp) (AllReadyH.cons rfl (fun K hK => ?_) (AllReadyH.cons rfl (fun K hK => ?_) AllReadyH.nil))
        · refine step_load34 rfl (.tmp 26) rfl rfl ((hX0.below (hb2)).cell_of (j := 1) rfl) ?_
          refine hK.out _ _ (trivial) (fun hH1 => ?_)
          clear hK K
          simp only [List.getElem_toArray, List.getElem_cons_succ, List.getElem_cons_zero, Act.put, List.setIfInBounds_toArray, List.set_cons_zero, List.set_cons_succ]
          refine wpAnyH_ready (rs := [7]) (by kernel_rfl) (by simp) (AllReadyH.cons rfl (fun K hK => ?_) AllReadyH.nil)
          refine step_call2Q rfl 48 rturned_enter (.tmp 31) (.tmp 32) _ rfl rfl rfl (unhide HTc _ _ hu2) ?_
          rintro e w3 ⟨u3, rfl, hu3, hb3'⟩
          have hb3 : Below w1.heap.size w1 w3 := below_then hb2 hb3'
          refine ⟨_, rfl, ?_⟩
          refine hK.out _ _ (trivial) (fun hH7 => ?_)
          clear hK K
          simp only [List.getElem_toArray, List.getElem_cons_succ, List.getElem_cons_zero, Act.put, List.setIfInBounds_toArray, List.set_cons_zero, List.set_cons_succ]
          refine wpAnyH_ready (rs := [8]) (by kernel_rfl) (by simp) (AllReadyH.cons rfl (fun K hK => ?_) AllReadyH.nil)
          refine step_call3Q rfl 46 put_enter (.tmp 27) (.tmp 28) (.tmp 33) _ rfl rfl rfl rfl (unhide HPc _ _ hb3 (hu3.mono (Nat.zero_le _))) ?_
          rintro e w4 ⟨v4, rfl, hv4, hb4'⟩
          have hb4 : Below w1.heap.size w1 w4 := below_then hb3 hb4'
          obtain ⟨xa, xc, rfl, _⟩ := hv4.shape
          have hX4 := hX0.below hb4
          refine ⟨_, rfl, ?_⟩
          refine hK.out _ _ (trivial) (fun hH8 => ?_)
          clear hK K
          simp only [List.getElem_toArray, List.getElem_cons_succ, List.getElem_cons_zero, Act.put, List.setIfInBounds_toArray, List.set_cons_zero, List.set_cons_succ]
          refine wpAnyH_take (i := 9) (v := .pointer (some ⟨w.heap.size, 1, none⟩)) rfl (by kernel_rfl) (by kernel_rfl) (by kernel_rfl) (fun _ _ _ h => h) (Or.inl ⟨by rfl, fun w hSw => by go_simp⟩) (by assumption) ?_
          simp only [List.getElem_toArray, List.getElem_cons_succ, List.getElem_cons_zero, Act.put, List.setIfInBounds_toArray, List.set_cons_zero, List.set_cons_succ]
          refine wpAnyH_ready (rs := [10]) (by kernel_rfl) (by simp) (AllReadyH.cons rfl (fun K hK => ?_) AllReadyH.nil)
          refine step_store34 (v := .slice xa (putL la i (turnB (lastOf la i) bit)).length xc) rfl (.tmp 35) (.tmp 34) rfl rfl rfl rfl (hX4.cell_of (j := 1) rfl) (hX4.frozen 1) ?_
          refine hK.out _ _ (trivial) (fun hH10 => ?_)
          clear hK K
          simp only [List.getElem_toArray, List.getElem_cons_succ, List.getElem_cons_zero, Act.put]
          refine wpAnyH_done (by kernel_rfl) ?_ _
          have hg5 := grown_cell w4 w.heap.size 1 (.slice xa (putL la i (turnB (lastOf la i) bit)).length xc)
          go_wp2
          go_meet
          exact hide ⟨xa, _, xc, hX4.set 1 _, (hZ0.below hb4).other ⟨w.heap.size, 1, none⟩ _ (by simp), hv4.other hg5 hX4 (by decide) (by decide), (hb0.trans (hb4.mono hb0.size)).setCell (Nat.le_refl _) _, (((h.below hb0).below hb4).other hg5 hX4 (by decide) (by decide))⟩
        · refine step_call2Q rfl 48 rturned_enter (.tmp 31) (.tmp 32) _ rfl rfl rfl (unhide HTc _ _ hu2) ?_
          rintro e w3 ⟨u3, rfl, hu3, hb3'⟩
          have hb3 : Below w1.heap.size w1 w3 := below_then hb2 hb3'
          refine ⟨_, rfl, ?_⟩
          refine hK.out _ _ (trivial) (fun hH7 => ?_)
          clear hK K
          simp only [List.getElem_toArray, List.getElem_cons_succ, List.getElem_cons_zero, Act.put, List.setIfInBounds_toArray, List.set_cons_zero, List.set_cons_succ]
          refine wpAnyH_ready (rs := [1]) (by kernel_rfl) (by simp) (AllReadyH.cons rfl (fun K hK => ?_) AllReadyH.nil)
          refine step_load34 rfl (.tmp 26) rfl rfl ((hX0.below (hb3)).cell_of (j := 1) rfl) ?_
          refine hK.out _ _ (trivial) (fun hH1 => ?_)
          clear hK K
          simp only [List.getElem_toArray, List.getElem_cons_succ, List.getElem_cons_zero, Act.put, List.setIfInBounds_toArray, List.set_cons_zero, List.set_cons_succ]
          refine wpAnyH_ready (rs := [8]) (by kernel_rfl) (by simp) (AllReadyH.cons rfl (fun K hK => ?_) AllReadyH.nil)
          refine step_call3Q rfl 46 put_enter (.tmp 27) (.tmp 28) (.tmp 33) _ rfl rfl rfl rfl (unhide HPc _ _ hb3 (hu3.mono (Nat.zero_le _))) ?_
          rintro e w4 ⟨v4, rfl, hv4, hb4'⟩
          have hb4 : Below w1.heap.size w1 w4 := below_then hb3 hb4'
          obtain ⟨xa, xc, rfl, _⟩ := hv4.shape
          have hX4 := hX0.below hb4
          refine ⟨_, rfl, ?_⟩
          refine hK.out _ _ (trivial) (fun hH8 => ?_)
          clear hK K
          simp only [List.getElem_toArray, List.getElem_cons_succ, List.getElem_cons_zero, Act.put, List.setIfInBounds_toArray, List.set_cons_zero, List.set_cons_succ]
          refine wpAnyH_take (i := 9) (v := .pointer (some ⟨w.heap.size, 1, none⟩)) rfl (by kernel_rfl) (by kernel_rfl) (by kernel_rfl) (fun _ _ _ h => h) (Or.inl ⟨by rfl, fun w hSw => by go_simp⟩) (by assumption) ?_
          simp only [List.getElem_toArray, List.getElem_cons_succ, List.getElem_cons_zero, Act.put, List.setIfInBounds_toArray, List.set_cons_zero, List.set_cons_succ]
          refine wpAnyH_ready (rs := [10]) (by kernel_rfl) (by simp) (AllReadyH.cons rfl (fun K hK => ?_) AllReadyH.nil)
          refine step_store34 (v := .slice xa (putL la i (turnB (lastOf la i) bit)).length xc) rfl (.tmp 35) (.tmp 34) rfl rfl rfl rfl (hX4.cell_of (j := 1) rfl) (hX4.frozen 1) ?_
          refine hK.out _ _ (trivial) (fun hH10 => ?_)
          clear hK K
          simp only [List.getElem_toArray, List.getElem_cons_succ, List.getElem_cons_zero, Act.put]
          refine wpAnyH_done (by kernel_rfl) ?_ _
          have hg5 := grown_cell w4 w.heap.size 1 (.slice xa (putL la i (turnB (lastOf la i) bit)).length xc)
          go_wp2
          go_meet
          exact hide ⟨xa, _, xc, hX4.set 1 _, (hZ0.below hb4).other ⟨w.heap.size, 1, none⟩ _ (by simp), hv4.other hg5 hX4 (by decide) (by decide), (hb0.trans (hb4.mono hb0.size)).setCell (Nat.le_refl _) _, (((h.below hb0).below hb4).other hg5 hX4 (by decide) (by decide))⟩
  case rest =>
    obtain ⟨a3, n3, c3, hX, hZ, hI3, hB, hI2⟩ := hcut.out
    obtain ⟨a2', c2', e2, hp⟩ := hI2.shape
    injection e2 with e2a e2b e2c
    subst e2a e2b e2c
    have HA := hide hI2
    have HI3 := hide hI3
    have HX := hide hX
    have HZ := hide hZ
    have HB := hide hB
    have HSC : Hid (∀ j, j < l.length → IsSec (l.getD j dA).2) := fun j hj => by rw [getD_eq hj]; exact (hok _ (List.getElem_mem hj)).2.2
    have HTK : Hid (∀ k, k < l.length → (l.take (k + 1)).map (turnF i bit) = (l.take k).map (turnF i bit) ++ [turnF i bit (l.getD k dA)]) := fun k hk => by rw [List.take_succ_eq_append_getElem hk, List.map_append, getD_eq hk]; rfl
    have HTL : Hid (∀ k, k ≤ l.length → ((l.take k).map (turnF i bit)).length = k) := fun k hk => by rw [List.length_map, List.length_take]; omega
    have HALL : Hid ((l.take l.length).map (turnF i bit) = l.map fun a => if a.1 = (i : Int) then ((i : Int), turnB a.2 bit) else a) := hide (by rw [List.take_length]; rfl)
    clear hcut hX hZ hI3 hB hI2 HLc HTc HPc h ha hoa hok hX0 hZ0 hb0 hsec hi hla
    generalize hm : l.length = m at *
    have HM := hide hm
    clear hm
    go_wp2
    go_loopw [8, 9] (fun vv iv wr => ∃ k : Nat, k ≤ m ∧ iv = .int .i64 (k : Int) ∧ Hid (OwnAts wr wc.heap.size vv ((l.take k).map (turnF i bit))) ∧ Hid (Below wc.heap.size wc wr)) (fun _ iv _ => m - (intOf iv).toNat)
    case atStart => exact ⟨0, by omega, rfl, hide (by simpa using OwnAts.nil _ wc.heap.size), hide (Below.refl _ _)⟩
    case round =>
      obtain ⟨k, hk, rfl, HO, HN⟩ := hrel
      have hnx := HN.out
      have hsz := hnx.size
      obtain ⟨pa, pc, hve⟩ := HO.out.shape
      rw [unhide HTL k hk] at hve
      subst hve
      have hx2 := (HX.out.below hnx).cell_of (j := 2) rfl
      by_cases hlt : k < m
      · obtain ⟨g, rfl, hle, hcm⟩ := hp (by omega)
        obtain ⟨z, hc1, hc2, hz⟩ := (HA.out.below hnx).elem (j := k) (by rw [HM.out]; exact hlt)
        obtain ⟨za, zn, zc, rfl⟩ := (Own8.isB hz).shape
        have HTk := hide (unhide HTK k hlt)
        have HTLk := hide (unhide HTL k hk)
        have hsk := unhide HSC k hlt
        generalize hgd : l.getD k dA = ee at *
        obtain ⟨y, ys⟩ := ee
        simp only at hc1 hz hsk
        have hkb : k ≤ 549755813888 := by omega
        by_cases he : y = (i : Int)
        · have HF : Hid (turnF i bit (y, ys) = ((i : Int), turnB ys bit)) := hide (by unfold turnF; rw [if_pos he])
          have HTc := hide (rturned_calls (Own8.isB hz) hsk hb)
          clear hz hsk hgd
          subst he
          go_wp2_with (first
            | (go_at_call 48; refine (unhide HTc).mono ?_; rintro e w2 ⟨u2, rfl, hu2, hb2⟩; obtain ⟨ua, un, uc, rfl⟩ := (Own8.isB hu2).shape; have hAn := Arr.new w2 [.int .i64 (i : Int), .slice ua un uc] 87; have hbn := (Below.refl w2.heap.size w2).alloc (Nat.le_refl _) (.cells [.int .i64 (i : Int), .slice ua un uc].toArray 87); have hO2 := (HO.out.below hb2).below hbn; have hu3 := (hu2.mono (Nat.zero_le _)).below hbn; have hsz2 : wc.heap.size ≤ (w2.alloc (.cells [.int .i64 (i : Int), .slice ua un uc].toArray 87)).heap.size := (by have := hb2.size; simp; omega))
            | (at_builtin; refine wpList_appAt rfl (.tmp 51) (.tmp 62) rfl rfl hO2 rfl hAn hu3 (by rw [HTLk.out]; omega) hsz2 ?_; intro v6 w6 hO6 hg6 hv6))
          have hB6 : Below wc.heap.size wc w6 := below_app ((HN.out.trans (hb2.mono hsz)).trans (hbn.mono (by have := hb2.size; omega))) hg6 hsz2 hv6
          go_roundw
          case rel => exact ⟨k + 1, by omega, by go_num, hide (by rw [HTk.out, HF.out]; exact hO6), hide hB6⟩
          case measure => simp [intOf]; omega
        · have HF : Hid (turnF i bit (y, ys) = (y, ys)) := hide (by unfold turnF; rw [if_neg he])
          have hAn := Arr.new wr [.int .i64 y, .slice za zn zc] 87
          have hbn := (Below.refl wr.heap.size wr).alloc (Nat.le_refl _) (.cells [.int .i64 y, .slice za zn zc].toArray 87)
          have hO2 := HO.out.below hbn
          have hz2 := hz.below hbn
          have hsz2 : wc.heap.size ≤ (wr.alloc (.cells [.int .i64 y, .slice za zn zc].toArray 87)).heap.size := by simp; omega
          have HO2 := hide hO2
          have HZ2 := hide hz2
          clear hz hsk hgd hO2 hz2
          go_wp2_with (first
            | (at_builtin; refine wpList_appAt rfl (.tmp 64) (.tmp 70) rfl rfl (unhide HO2) rfl hAn (unhide HZ2) (by rw [HTLk.out]; omega) hsz2 ?_; intro v6 w6 hO6 hg6 hv6))
          have hB6 : Below wc.heap.size wc w6 := below_app (HN.out.trans (hbn.mono hsz)) hg6 hsz2 hv6
          go_roundw
          case rel => exact ⟨k + 1, by omega, by go_num, hide (by rw [HTk.out, HF.out]; exact hO6), hide hB6⟩
          case measure => simp [intOf]; omega
      · have hkm : k = m := by omega
        have HE : Hid ((l.take k).map (turnF i bit) = l.map fun a => if a.1 = (i : Int) then ((i : Int), turnB a.2 bit) else a) := hide (by rw [← HALL.out, hkm])
        have hX6 := HX.out.below hnx
        have hZ6 := HZ.out.below hnx
        have hc62 := hX6.cell_of (j := 2) rfl
        have hf62 := hX6.frozen 2
        have hX7 : Arr (wr.setCell ⟨w.heap.size, 2, none⟩ (.slice pa k pc)) w.heap.size 36 (rdC n a3 n3 c3 pa k pc rd wt fl) := hX6.set 2 _
        have hZ7 : Arr (wr.setCell ⟨w.heap.size, 2, none⟩ (.slice pa k pc)) (w.heap.size + 1) 36 z36 := hZ6.other ⟨w.heap.size, 2, none⟩ _ (by simp)
        have hg8a := grown_cell wr w.heap.size 2 (.slice pa k pc)
        have hg8c := grown_setCells (wr.setCell ⟨w.heap.size, 2, none⟩ (.slice pa k pc)) (w.heap.size + 1) 0 (rdC n a3 n3 c3 pa k pc rd wt fl)
        have hI8 := (HO.out.isAts.other hg8a hX6 (by decide) (by decide)).other hg8c hZ7 (by decide) (by decide)
        rw [HE.out] at hI8
        have hI9 := ((HI3.out.below hnx).other hg8a hX6 (by decide) (by decide)).other hg8c hZ7 (by decide) (by decide)
        have hZ8 := hZ7.setAll (ds := (rdC n a3 n3 c3 pa k pc rd wt fl)) rfl
        have hsB := HB.out.size
        have hB8 : Below w.heap.size w ((wr.setCell ⟨w.heap.size, 2, none⟩ (.slice pa k pc)).setCells (w.heap.size + 1) 0 (rdC n a3 n3 c3 pa k pc rd wt fl)) := ((HB.out.trans (hnx.mono hsB)).setCell (Nat.le_refl _) _).grown hg8c (by simp; omega) (fun j hj => by injection hj with hj; omega)
        have HI8 := hide hI8
        have HI9 := hide hI9
        have HZ8 := hide hZ8
        have HB8 := hide hB8
        clear hkm hI8 hI9 hZ8 hB8 hg8a hg8c hX6 hZ6
        generalize hw8 : (wr.setCell ⟨w.heap.size, 2, none⟩ (.slice pa k pc)).setCells (w.heap.size + 1) 0 (rdC n a3 n3 c3 pa k pc rd wt fl) = w8 at *
        go_wp2_with (first
          | (refine wpList_load_mid rfl 36 (.tmp 3) rfl w.heap.size 0 rfl (rdC n a3 n3 c3 pa k pc rd wt fl) _ hX7.range hund rfl info36 ?_)
          | (refine wpList_storeRow (cs := (rdC n a3 n3 c3 pa k pc rd wt fl)) rfl (.tmp 6) (.tmp 74) 36 rfl rfl rfl hZ7.there info36 (rdC_one _ _ _ _ _ _ _ _ _ _) ?_; rw [hw8]))
        have hload : (loadVar 36 ⟨w.heap.size + 1, 0, none⟩).run Try.prog w8 = .ok (.agg (rdC n a3 n3 c3 pa k pc rd wt fl).toArray) w8 := run_loadVar_mid _ _ 0 _ _ _ HZ8.out.range hund rfl info36
        refine bodyPost_ret (v := .tuple #[.agg (rdC n a3 n3 c3 pa k pc rd wt fl).toArray, .int .i64 0]) ?_ rfl ?_
        · exact results2 rfl rfl rfl hload
        · exact ⟨a3, n3, c3, pa, k, pc, rfl, HI9.out, HI8.out, HB8.out⟩
end Go.Proofs.Ytfgjhlnaaopdeaa
