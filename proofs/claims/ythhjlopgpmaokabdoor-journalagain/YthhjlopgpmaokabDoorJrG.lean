/- What refIn, named and Decode answer. -/
import Derived.Test.YthhjlopgpmaokabDoorKC
import Derived.Test.YthhjlopgpmaokabDoorJrD
import Derived.Deep.DeepCutAuto
import Derived.Deep.CutRange
namespace Go.Proofs.YthhjlopgpmaokabDoor
open Go.RowKit Go.Maps

/-- The reference that lies at a place. -/
def rfK (b : List Int) (k : Nat) : JF := ⟨(b.drop k).take 32, leN ((b.drop (k + 32)).take 4), leN ((b.drop (k + 36)).take 4)⟩
theorem rfAt_K (b : List Int) (i : Nat) : rfAt b i = rfK b (45 + 40 * i) := rfl
theorem wrap4 {b : List Int} (hb : By8 b) (k : Nat) : IntKind.i64.wrap (leN ((b.drop k).take 4)) = leN ((b.drop k).take 4) := by
  have := jfour hb k
  exact IntWalk.i64_in _ (by omega)
theorem isB_by {w : World} {v : Value} {b : List Int} (h : IsB w v b) : By8 b := h.mem
theorem isB_range {w : World} {bk of n c : Nat} {b : List Int} (h : IsB w (.slice (some ⟨bk, of, none⟩) n c) b) {k m : Nat} (hk : k + m ≤ b.length) (hm : 0 < m) : w.rangeAt bk (of + k) (((b.drop k).take m).map (Value.int .u8)) := by
  obtain ⟨_, a, cap, hv, _, _, _, hc⟩ := h
  injection hv with e1 e2 e3
  obtain ⟨b2, of2, ha, hcell⟩ := hc (by omega)
  rw [ha] at e1
  injection e1 with e1
  injection e1 with e1 e4
  subst e1 e4
  intro j u hu
  rw [List.getElem?_map, Option.map_eq_some_iff] at hu
  obtain ⟨x, hx, rfl⟩ := hu
  have hj : j < m := by have := (List.getElem?_eq_some_iff.1 hx).1; simp at this; omega
  rw [List.getElem?_take_of_lt hj, List.getElem?_drop] at hx
  rw [Nat.add_assoc, hcell (k + j) (by omega), List.getD_eq_getElem?_getD, hx]
  rfl
theorem numIn_enter (v u z : Value) (W : World) : (callFunc 62 #[v, u, z]).run Tryd.prog W = .ok (.enter 62 #[v, u, z]) W := by kernel_rfl
theorem refIn_enter (v u : Value) (W : World) : (callFunc 63 #[v, u]).run Tryd.prog W = .ok (.enter 63 #[v, u]) W := by kernel_rfl
theorem rfK_ok {b : List Int} (hb : By8 b) {k : Nat} (hl : k + 40 ≤ b.length) : (rfK b k).Ok := by
  refine ⟨by simp [rfK]; omega, (hb.drop _).take _, ?_, ?_⟩
  · have := jfour hb (k + 32); show _ ≤ leN ((b.drop (k + 32)).take 4) ∧ leN ((b.drop (k + 32)).take 4) ≤ _; omega
  · have := jfour hb (k + 36); show _ ≤ leN ((b.drop (k + 36)).take 4) ∧ leN ((b.drop (k + 36)).take 4) ≤ _; omega
theorem slice32 {bk of n c k : Nat} (h : k + 32 ≤ c) (W : World) : (Instr.sliceAt 48 (.slice (some ⟨bk, of, none⟩) n c) (some (.int .i64 (k : Int))) (some (.int .i64 ((k + 32 : Nat) : Int))) none).run Tryd.prog W = .ok (.slice (some ⟨bk, of + k, none⟩) 32 (c - k)) W := by
  rw [slice_lh _ n c k (k + 32) (by omega) h W]
  unfold subA
  rw [if_neg (by omega), Option.map_some, Addr.add_lit, Nat.add_sub_cancel_left]
set_option maxRecDepth 100000 in
set_option maxHeartbeats 2000000 in
theorem refIn_calls {w : World} {v : Value} {b : List Int} (h : IsB w v b) {k : Nat} (hs : k + 40 ≤ b.length) :
    Calls Tryd.prog 63 #[v, .int .i64 (k : Int)] w fun e w' => e = .returned (.agg (jfV (rfK b k)).toArray) ∧ Below w.heap.size w w' := by
  have hby := isB_by h
  have hok := rfK_ok hby hs
  have hrl : (rfK b k).h.length = 32 := hok.len
  have hbl := h.len
  have HN1 : Hid (∀ W, Below w.heap.size w W → Calls Tryd.prog 62 #[v, .int .i64 ((k + 32 : Nat) : Int), .int .i64 4] W fun e w' => e = .returned (.int .i64 (rfK b k).f) ∧ w' = W) := hide (fun W hW => by
    have := numberIn_calls (h.below hW) (k := k + 32) (n := 4) (by decide) (by decide) (by omega)
    rw [wrap4 hby] at this
    exact this)
  have HN2 : Hid (∀ W, Below w.heap.size w W → Calls Tryd.prog 62 #[v, .int .i64 ((k + 36 : Nat) : Int), .int .i64 4] W fun e w' => e = .returned (.int .i64 (rfK b k).l) ∧ w' = W) := hide (fun W hW => by
    have := numberIn_calls (h.below hW) (k := k + 36) (n := 4) (by decide) (by decide) (by omega)
    rw [wrap4 hby] at this
    exact this)
  obtain ⟨_, va, vc, rfl, hlc, hvm, _, hcell⟩ := id h
  obtain ⟨bk, of, rfl, _⟩ := hcell (by omega)
  have hsl := fun W => slice32 (bk := bk) (of := of) (n := b.length) (c := vc) (k := k) (by omega) W
  have hap := fun W => arr_atK (some ⟨bk, of + k, none⟩) (vc - k) W
  have HS : Hid (∀ W, Below w.heap.size w W → W.rangeAt bk (of + k) ((rfK b k).h.map (Value.int .u8))) := hide (fun W hW => isB_range (h.below hW) (by omega) (by decide))
  obtain ⟨k1, hk1⟩ : ∃ k1 : Nat, k1 = k + 32 := ⟨_, rfl⟩
  obtain ⟨k2, hk2⟩ : ∃ k2 : Nat, k2 = k + 36 := ⟨_, rfl⟩
  rw [← hk1] at HN1 hsl
  rw [← hk2] at HN2
  have e1 : (k : Int) + 32 = (k1 : Int) := by omega
  have e1w : IntKind.i64.wrap ((k : Int) + 32) = (k1 : Int) := by rw [e1]; exact IntWalk.i64_in _ (by omega)
  have e2 : (k1 : Int) + 4 = (k2 : Int) := by omega
  have e2w : IntKind.i64.wrap ((k1 : Int) + 4) = (k2 : Int) := by rw [e2]; exact IntWalk.i64_in _ (by omega)
  have e3 : IntKind.i64.wrap (k2 : Int) = (k2 : Int) := IntWalk.i64_in _ (by omega)
  have hinfK := infoKof hrl
  have hinf := infoJof hok
  have hlen : z34J.length = (jfV (rfK b k)).length := by rw [jfV_len hok]; decide
  have hone := jfV_one (rfK b k)
  have HBLD := hide (buildRf hrl (rfK b k).f (rfK b k).l)
  rw [show (⟨(rfK b k).h, (rfK b k).f, (rfK b k).l⟩ : JF) = rfK b k from rfl] at HBLD
  generalize rfK b k = r at *
  generalize hbn : b.length = bn at *
  have hba := jalloc_below w (.cells z34J.toArray 73)
  have hA0 := Arr.new w z34J 73
  obtain ⟨w1, hw1⟩ : ∃ w1, w1 = w.alloc (.cells z34J.toArray 73) := ⟨_, rfl⟩
  rw [← hw1] at hba hA0
  have HBA := hide hba
  have HA0 := hide hA0
  have HW1 := hide hw1
  obtain ⟨g4, hg4⟩ : ∃ g4, g4 = w.heap.size := ⟨_, rfl⟩
  rw [← hg4] at HA0
  have HG4 := hide hg4
  have hx0 : Below w.heap.size w w1.drew := hba.drew
  have HX0 := hide hx0
  have HK1 := hide hk1
  have HK2 := hide hk2
  clear h hby hok hcell hba hA0 hw1 hg4 hk1 hk2 hbn hx0
  go_enter Tryd.func63, Tryd.ntmps63
  go_wp2_with (first | (refine wpList_allocJ rfl 73 rfl infoJ ?_; rw [← HW1.out, ← HG4.out]))
  refine wp_region_held_drew (S := fun W => W.rangeAt bk (of + k) (r.h.map (Value.int .u8))) (by kernel_rfl) (unhide HS _ HX0.out) (fun hHeld => ?_)
  refine wpAnyH_take (i := 0) (v := .slice (some ⟨bk, of, none⟩) bn vc) rfl (by kernel_rfl) (by kernel_rfl) (by kernel_rfl) (fun _ _ _ h => h) (Or.inl ⟨by rfl, fun w hSw => by go_simp⟩) (by assumption) ?_
  simp only [List.getElem_toArray, List.getElem_cons_zero, Act.put, List.setIfInBounds_toArray, List.set_cons_zero, List.set_cons_succ]
  refine wpAnyH_take (i := 1) (v := .int .i64 (k : Int)) rfl (by kernel_rfl) (by kernel_rfl) (by kernel_rfl) (fun _ _ _ h => h) (Or.inl ⟨by rfl, fun w hSw => by go_simp⟩) (by assumption) ?_
  simp only [List.getElem_toArray, List.getElem_cons_succ, List.getElem_cons_zero, Act.put, List.setIfInBounds_toArray, List.set_cons_zero, List.set_cons_succ]
  refine wpAnyH_take (i := 2) (v := .int .i64 (k1 : Int)) rfl (by kernel_rfl) (by kernel_rfl) (by kernel_rfl) (fun _ _ _ h => h) (Or.inl ⟨by rfl, fun w hSw => by go_simp⟩) (by assumption) ?_
  simp only [List.getElem_toArray, List.getElem_cons_succ, List.getElem_cons_zero, Act.put, List.setIfInBounds_toArray, List.set_cons_zero, List.set_cons_succ]
  refine wpAnyH_take (i := 3) (v := .slice (some ⟨bk, of + k, none⟩) 32 (vc - k)) rfl (by kernel_rfl) (by kernel_rfl) (by kernel_rfl) (fun _ _ _ h => h) (Or.inl ⟨by rfl, fun w hSw => by go_simp⟩) (by assumption) ?_
  simp only [List.getElem_toArray, List.getElem_cons_succ, List.getElem_cons_zero, Act.put, List.setIfInBounds_toArray, List.set_cons_zero, List.set_cons_succ]
  refine wpAnyH_take (i := 4) (v := .pointer (some ⟨bk, of + k, none⟩)) rfl (by kernel_rfl) (by kernel_rfl) (by kernel_rfl) (fun _ _ _ h => h) (Or.inl ⟨by rfl, fun w hSw => by go_simp⟩) (by assumption) ?_
  simp only [List.getElem_toArray, List.getElem_cons_succ, List.getElem_cons_zero, Act.put, List.setIfInBounds_toArray, List.set_cons_zero, List.set_cons_succ]
  refine wpAnyH_take (i := 5) (v := .agg (r.h.map (Value.int .u8)).toArray) rfl (by kernel_rfl) (by kernel_rfl) (by kernel_rfl) (fun _ _ _ h => h) (yieldsIf_load_mid (by rfl) _ _ rfl _ _ rfl _ _ (fun w hSw => hSw) Tryd.underlying33 rfl hinfK) (by assumption) ?_
  simp only [List.getElem_toArray, List.getElem_cons_succ, List.getElem_cons_zero, Act.put, List.setIfInBounds_toArray, List.set_cons_zero, List.set_cons_succ]
  refine wpAnyH_take (i := 6) (v := .slice (some ⟨bk, of, none⟩) bn vc) rfl (by kernel_rfl) (by kernel_rfl) (by kernel_rfl) (fun _ _ _ h => h) (Or.inl ⟨by rfl, fun w hSw => by go_simp⟩) (by assumption) ?_
  simp only [List.getElem_toArray, List.getElem_cons_succ, List.getElem_cons_zero, Act.put, List.setIfInBounds_toArray, List.set_cons_zero, List.set_cons_succ]
  refine wpAnyH_take (i := 7) (v := .int .i64 (k1 : Int)) rfl (by kernel_rfl) (by kernel_rfl) (by kernel_rfl) (fun _ _ _ h => h) (Or.inl ⟨by rfl, fun w hSw => by go_simp⟩) (by assumption) ?_
  simp only [List.getElem_toArray, List.getElem_cons_succ, List.getElem_cons_zero, Act.put, List.setIfInBounds_toArray, List.set_cons_zero, List.set_cons_succ]
  refine wpAnyH_take (i := 9) (v := .slice (some ⟨bk, of, none⟩) bn vc) rfl (by kernel_rfl) (by kernel_rfl) (by kernel_rfl) (fun _ _ _ h => h) (Or.inl ⟨by rfl, fun w hSw => by go_simp⟩) (by assumption) ?_
  simp only [List.getElem_toArray, List.getElem_cons_succ, List.getElem_cons_zero, Act.put, List.setIfInBounds_toArray, List.set_cons_zero, List.set_cons_succ]
  refine wpAnyH_take (i := 10) (v := .int .i64 (k1 : Int)) rfl (by kernel_rfl) (by kernel_rfl) (by kernel_rfl) (fun _ _ _ h => h) (Or.inl ⟨by rfl, fun w hSw => by go_simp⟩) (by assumption) ?_
  simp only [List.getElem_toArray, List.getElem_cons_succ, List.getElem_cons_zero, Act.put, List.setIfInBounds_toArray, List.set_cons_zero, List.set_cons_succ]
  refine wpAnyH_take (i := 11) (v := .int .i64 (k2 : Int)) rfl (by kernel_rfl) (by kernel_rfl) (by kernel_rfl) (fun _ _ _ h => h) (Or.inl ⟨by rfl, fun w hSw => by go_simp⟩) (by assumption) ?_
  simp only [List.getElem_toArray, List.getElem_cons_succ, List.getElem_cons_zero, Act.put, List.setIfInBounds_toArray, List.set_cons_zero, List.set_cons_succ]
  refine wpAnyH_ready (rs := [8]) (by kernel_rfl) (by simp) (AllReadyH.cons rfl (fun K hK => ?_) AllReadyH.nil)
  refine step_call3J (by rfl) 62 numIn_enter (.tmp 14) (.tmp 15) _ _ rfl rfl rfl rfl (unhide HN1 _ HX0.out) ?_
  rintro e wn ⟨rfl, hwn⟩
  obtain rfl := hwn.symm
  clear hwn
  refine ⟨_, rfl, ?_⟩
  refine hK.out _ _ (unhide HS _ HX0.out) (fun hJ1 => ?_)
  clear hK K
  simp only [List.getElem_toArray, List.getElem_cons_succ, List.getElem_cons_zero, Act.put, List.setIfInBounds_toArray, List.set_cons_zero, List.set_cons_succ]
  refine wpAnyH_ready (rs := [12]) (by kernel_rfl) (by simp) (AllReadyH.cons rfl (fun K hK => ?_) AllReadyH.nil)
  refine step_call3J (by rfl) 62 numIn_enter (.tmp 17) (.tmp 19) _ _ rfl rfl rfl rfl (unhide HN2 _ HX0.out) ?_
  rintro e wn ⟨rfl, hwn⟩
  obtain rfl := hwn.symm
  clear hwn
  refine ⟨_, rfl, ?_⟩
  refine hK.out _ _ (unhide HS _ HX0.out) (fun hJ2 => ?_)
  clear hK K
  simp only [List.getElem_toArray, List.getElem_cons_succ, List.getElem_cons_zero, Act.put, List.setIfInBounds_toArray, List.set_cons_zero, List.set_cons_succ]
  refine wpAnyH_take (i := 13) (v := .agg (jfV r).toArray) rfl (by kernel_rfl) (by kernel_rfl) (by kernel_rfl) (fun _ _ _ h => h) (yields_bld3J (by rfl) 73 0 1 2 (.tmp 13) (.tmp 16) (.tmp 20) rfl (vx := .agg (r.h.map (Value.int .u8)).toArray) (vy := .int .i64 r.f) (vz := .int .i64 r.l) rfl rfl rfl HBLD) (by assumption) ?_
  simp only [List.getElem_toArray, List.getElem_cons_succ, List.getElem_cons_zero, Act.put, List.setIfInBounds_toArray, List.set_cons_zero, List.set_cons_succ]
  refine wpAnyH_ready (rs := [14]) (by kernel_rfl) (by simp) (AllReadyH.cons rfl (fun K hK => ?_) AllReadyH.nil)
  refine step_storeJ (by rfl) (.tmp 4) (.tmp 21) 73 rfl rfl rfl HA0.out.drew hinf hlen hone ?_
  intro w2 hA2 hg2
  have HB2 := hide (jbelow_grown HX0.out hg2 HX0.out.size (by rw [HG4.out]; exact Nat.le_refl _))
  refine hK.out _ _ (unhide HS _ HB2.out) (fun hJ3 => ?_)
  clear hK K
  simp only [List.getElem_toArray, List.getElem_cons_succ, List.getElem_cons_zero, Act.put]
  refine wpAnyH_done (by kernel_rfl) ?_ _
  go_wp2
  refine bodyPost_ret (results_rowJ rfl rfl hA2 Tryd.underlying73 rfl hinf) rfl ?_
  exact ⟨rfl, HB2.out⟩
theorem jrV_set {r : JR} (h : r.p.length = 32) (v u : Value) : (jrV r v).set 33 u = jrV r u := by
  unfold jrV
  rw [List.set_cons_succ, List.set_append_right _ _ (by simp [h])]
  simp [h]
/-- What named has laid so far. -/
def NmS (w W : World) (g2 g3 : Nat) (r0 : JR) (l : List JF) (v : Value) : Prop := Arr W g3 52 (jrV r0 v) ∧ OwnJ W w.heap.size v l ∧ Arr W g2 52 z34R ∧ Below w.heap.size w W
theorem NmS.below {w W W2 : World} {g2 g3 : Nat} {r0 : JR} {l : List JF} {v : Value} (h : NmS w W g2 g3 r0 l v) (hb : Below W.heap.size W W2) : NmS w W2 g2 g3 r0 l v :=
  ⟨h.1.below hb, h.2.1.below hb, h.2.2.1.below hb, below_then h.2.2.2 hb⟩
theorem NmS.app {w W w2 : World} {g2 g3 : Nat} {r0 : JR} {l l2 : List JF} {v v2 : Value} (h : NmS w W g2 g3 r0 l v) (hp : r0.p.length = 32) (hg3 : w.heap.size ≤ g3) (hne : g2 ≠ g3) (ho : OwnJ w2 w.heap.size v2 l2) (hg : W.grownBy w2 v.ownBlock) :
    (w2.cell? ⟨g3, 33, none⟩ = some v ∧ w2.frozen? ⟨g3, 33, none⟩ = false) ∧ NmS w (w2.setCell ⟨g3, 33, none⟩ v2) g2 g3 r0 l2 v2 := by
  have hd : 52 ≠ 73 := by decide
  have n3 : some g3 ≠ v.ownBlock := fun e => by rcases h.2.1.block h.1 hd with q | q; · rw [q] at e; cases e
                                                · exact q e.symm
  have n2 : some g2 ≠ v.ownBlock := fun e => by rcases h.2.1.block h.2.2.1 hd with q | q; · rw [q] at e; cases e
                                                · exact q e.symm
  have a3 := arr_grown h.1 hg n3
  have a2 := arr_grown h.2.2.1 hg n2
  have hb2 : Below w.heap.size w w2 := h.2.2.2.grown hg h.2.2.2.size (fun j hj => (World.ownsRow.lt h.2.1.2 j hj).1)
  refine ⟨⟨(a3.cell 33).trans (jrV_v hp v), a3.frozen 33⟩, ?_, ⟨ho.1, ?_⟩, a2.other _ _ hne, ?_⟩
  · have := a3.set 33 v2
    rw [jrV_set hp] at this
    exact this
  · refine ho.2.kept (row := some g3) (by exact ⟨rfl, rfl, rfl, by simp, fun k _ hk => Below.heap_setCell w2 ⟨g3, 33, none⟩ v2 k (fun e => hk (by rw [e]))⟩) ?_
    exact OwnJ.block ho a3 hd
  · exact jbelow_grown hb2 (g := g3) ⟨rfl, rfl, rfl, by simp, fun k _ hk => Below.heap_setCell w2 ⟨g3, 33, none⟩ v2 k (fun e => hk (by rw [e]))⟩ hb2.size hg3
theorem jmin_two {w : World} (ts : Array TypeId) (t : TypeId) (k k' : IntKind) (x y : Int) : (Builtin.min_ ts t #[.int k x, .int k' y]).run Tryd.prog w = .ok (.int k (min x y)) w := by
  have : (Builtin.min_ ts t #[.int k x, .int k' y]).run Tryd.prog w = .ok (.int k (if y < x then y else x)) w := by simp [Builtin.min_, Builtin.min2]
  rw [this]
  congr 2
  by_cases h : y < x
  · rw [if_pos h]; omega
  · rw [if_neg h]; omega
set_option maxRecDepth 100000 in
set_option maxHeartbeats 4000000 in
theorem named_calls {w : World} {v : Value} {b : List Int} (h : IsB w v b) (hl : b.length = 512) :
    Calls Tryd.prog 51 #[v] w fun e w' => ∃ u, e = .returned (.agg (jrV (namB b) u).toArray) ∧ OwnJ w' w.heap.size u (namB b).rs ∧ Below w.heap.size w w' := by
  have hby := isB_by h
  have hok := namB_ok hby hl
  have HN : Hid (∀ W, Below w.heap.size w W → Calls Tryd.prog 62 #[v, .int .i64 4, .int .i64 8] W fun e w' => e = .returned (.int .i64 (namB b).n) ∧ w' = W) := hide (fun W hW => numberIn_calls (h.below hW) (k := 4) (n := 8) (by decide) (by decide) (by omega))
  have HRF : Hid (∀ W i, i < cntB b → Below w.heap.size w W → Calls Tryd.prog 63 #[v, .int .i64 ((45 + 40 * i : Nat) : Int)] W fun e w' => e = .returned (.agg (jfV (rfAt b i)).toArray) ∧ Below W.heap.size W w') := hide (fun W i hi hW => by
    have := cnt_le b
    exact refIn_calls (h.below hW) (k := 45 + 40 * i) (by omega))
  have HRO : Hid (∀ i, i < cntB b → (rfAt b i).Ok) := hide (fun i hi => rfAt_ok hby (by have := cnt_le b; omega))
  have hc44 : ∃ c : Nat, b.getD 44 0 = (c : Int) ∧ c ≤ 255 := by
    have := h.bytes 44
    rw [List.getD_eq_getElem?_getD]
    exact ⟨(b[44]?.getD 0).toNat, by omega, by omega⟩
  obtain ⟨c, hc, hc255⟩ := hc44
  obtain ⟨_, va, vc, rfl, hlc, hvm, _, hcell⟩ := id h
  rw [hl] at hlc
  obtain ⟨bk, of, rfl, hcl⟩ := hcell (by omega)
  have HC44 : Hid (∀ W, Below w.heap.size w W → W.cell? ⟨bk, of + 44, none⟩ = some (.int .u8 (c : Int))) := hide (fun W hW => by
    have h44 := hcl 44 (by omega)
    rw [hc] at h44
    exact (hW.cell (p := ⟨bk, of + 44, none⟩) (World.block_lt_of_cell? w _ h44)).trans h44)
  have hsl : ∀ W, (Instr.sliceAt 48 (.slice (some ⟨bk, of, none⟩) b.length vc) (some (.int .i64 12)) (some (.int .i64 44)) none).run Tryd.prog W = .ok (.slice (some ⟨bk, of + 12, none⟩) 32 (vc - 12)) W := fun W => slice32 (bk := bk) (of := of) (n := b.length) (c := vc) (k := 12) (by omega) W
  have hap := fun W => arr_atK (some ⟨bk, of + 12, none⟩) (vc - 12) W
  have HS : Hid (∀ W, Below w.heap.size w W → W.rangeAt bk (of + 12) ((namB b).p.map (Value.int .u8))) := hide (fun W hW => isB_range (h.below hW) (k := 12) (m := 32) (by omega) (by decide))
  have hcnt : (cntB b : Int) = min (c : Int) 8 := by unfold cntB; rw [hc]; omega
  have hmin : ∀ W, (Builtin.min_ #[3, 3] 3 #[.int .i64 (c : Int), .int .i64 8]).run Tryd.prog W = .ok (.int .i64 (cntB b : Int)) W := fun W => by rw [jmin_two, hcnt]
  have hwc : IntKind.i64.wrap (c : Int) = c := IntWalk.i64_in _ (by omega)
  have hcn8 := cnt_le b
  have hrl := hok.len
  have HBLD := hide (buildRc hrl (namB b).n)
  have HRS : Hid ((List.range (cntB b)).map (rfAt b) = (namB b).rs) := hide rfl
  have HSN : Hid (∀ i, (List.range (i + 1)).map (rfAt b) = (List.range i).map (rfAt b) ++ [rfAt b i]) := hide (fun i => by rw [List.range_succ, List.map_append]; rfl)
  have HJR : Hid (∀ u, jrV ⟨(namB b).n, (namB b).p, []⟩ u = jrV (namB b) u) := hide (fun u => rfl)
  rw [show (⟨(namB b).n, (namB b).p, []⟩ : JR) = { namB b with rs := [] } from rfl] at HBLD HJR
  generalize hr0 : ({ namB b with rs := [] } : JR) = r0 at *
  have hr0p : r0.p.length = 32 := by rw [← hr0]; exact hrl
  have hlen : z34R.length = (jrV r0 (.slice none 0 0)).length := by rw [jrV_len hr0p]; decide
  have hinfR := fun u => infoRof (r := r0) hr0p u
  have hone := jrV_one r0 (v := .slice none 0 0) rfl
  have hinfK := infoKof hrl
  rw [hl] at hsl h HN HRF ⊢
  generalize namB b = r at *
  generalize cntB b = cn at *
  generalize rfAt b = rf at *
  have HHB := hide (Below.refl w.heap.size w)
  have hzR : z34R.length = 34 := by decide
  clear h hby hok hcell hcl hl hc hcnt hr0
  go_enter Tryd.func51, Tryd.ntmps51
  go_wp2_with (first | (refine wpList_allocJ rfl 52 rfl infoR ?_) | fail)
  obtain ⟨w1, hw1⟩ : ∃ w1, w1 = w.alloc (.cells z34R.toArray 52) := ⟨_, rfl⟩
  rw [← hw1]
  have hb1 := jalloc_below w (.cells z34R.toArray 52)
  have hA1 := Arr.new w z34R 52
  have hs1 : w1.heap.size = w.heap.size + 1 := by rw [hw1]; simp
  rw [← hw1] at hb1 hA1
  obtain ⟨g2, hg2⟩ : ∃ g2, g2 = w.heap.size := ⟨_, rfl⟩
  rw [← hg2] at hA1 ⊢
  obtain ⟨g3, hg3⟩ : ∃ g3, g3 = w1.heap.size := ⟨_, rfl⟩
  have hx1 : Below w.heap.size w w1.drew := hb1.drew
  have hba := jalloc_below w1.drew (.cells z34R.toArray 52)
  have hx2 : Below w.heap.size w (w1.drew.alloc (.cells z34R.toArray 52)) := below_then hx1 hba
  have hA3 := Arr.new w1.drew z34R 52
  rw [show w1.drew.heap.size = g3 from hg3.symm] at hA3
  have hA2' := hA1.drew.below hba
  have HST1 : Hid (∀ w2, Arr w2 g3 52 (jrV r0 (.slice none 0 0)) → (w1.drew.alloc (.cells z34R.toArray 52)).grownBy w2 (some g3) → NmS w w2 g2 g3 r0 [] (.slice none 0 0)) := hide (fun w2 hA hg => ⟨hA, OwnJ.nil _ _, arr_grown hA2' hg (by simp; omega), jbelow_grown hx2 hg hx2.size (by omega)⟩)
  have HX1 := hide hx1
  have HX2 := hide hx2
  have HA3 := hide hA3
  have HG3 := hide hg3
  have HG2 := hide hg2
  have HNE : Hid (g2 ≠ g3 ∧ w.heap.size ≤ g3) := hide (by omega)
  clear hw1 hb1 hA1 hs1 hg2 hg3 hx1 hba hx2 hA3 hA2'
  simp only [Act.put, List.setIfInBounds_toArray, List.set_cons_succ, List.set_cons_zero]
  go_cut [3] (fun t W => t = .pointer (some ⟨g3, 0, none⟩) ∧ Hid (NmS w W g2 g3 r0 [] (.slice none 0 0)))
  case first =>
    refine wp_region_held_drew (S := fun W => W.rangeAt bk (of + 12) (r.p.map (Value.int .u8))) (by kernel_rfl) (unhide HS _ HX1.out) (fun hHeld => ?_)
    refine wpAnyH_take (i := 0) (v := .slice (some ⟨bk, of, none⟩) 512 vc) rfl (by kernel_rfl) (by kernel_rfl) (by kernel_rfl) (fun _ _ _ h => h) (Or.inl ⟨by rfl, fun w hSw => by go_simp⟩) (by assumption) ?_
    simp only [List.getElem_toArray, List.getElem_cons_zero, Act.put, List.setIfInBounds_toArray, List.set_cons_zero, List.set_cons_succ]
    refine wpAnyH_take (i := 2) (v := .slice (some ⟨bk, of, none⟩) 512 vc) rfl (by kernel_rfl) (by kernel_rfl) (by kernel_rfl) (fun _ _ _ h => h) (Or.inl ⟨by rfl, fun w hSw => by go_simp⟩) (by assumption) ?_
    simp only [List.getElem_toArray, List.getElem_cons_succ, List.getElem_cons_zero, Act.put, List.setIfInBounds_toArray, List.set_cons_zero, List.set_cons_succ]
    refine wpAnyH_take (i := 3) (v := .slice (some ⟨bk, of + 12, none⟩) 32 (vc - 12)) rfl (by kernel_rfl) (by kernel_rfl) (by kernel_rfl) (fun _ _ _ h => h) (Or.inl ⟨by rfl, fun w hSw => by go_simp⟩) (by assumption) ?_
    simp only [List.getElem_toArray, List.getElem_cons_succ, List.getElem_cons_zero, Act.put, List.setIfInBounds_toArray, List.set_cons_zero, List.set_cons_succ]
    refine wpAnyH_take (i := 4) (v := .pointer (some ⟨bk, of + 12, none⟩)) rfl (by kernel_rfl) (by kernel_rfl) (by kernel_rfl) (fun _ _ _ h => h) (Or.inl ⟨by rfl, fun w hSw => by go_simp⟩) (by assumption) ?_
    simp only [List.getElem_toArray, List.getElem_cons_succ, List.getElem_cons_zero, Act.put, List.setIfInBounds_toArray, List.set_cons_zero, List.set_cons_succ]
    refine wpAnyH_take (i := 5) (v := .agg (r.p.map (Value.int .u8)).toArray) rfl (by kernel_rfl) (by kernel_rfl) (by kernel_rfl) (fun _ _ _ h => h) (yieldsIf_load_mid (by rfl) _ _ rfl _ _ rfl _ _ (fun w hSw => hSw) Tryd.underlying33 rfl hinfK) (by assumption) ?_
    simp only [List.getElem_toArray, List.getElem_cons_succ, List.getElem_cons_zero, Act.put, List.setIfInBounds_toArray, List.set_cons_zero, List.set_cons_succ]
    refine wpAnyH_ready (rs := [1, 7]) (by kernel_rfl) (by simp) (AllReadyH.cons rfl (fun K hK => ?_) (AllReadyH.cons rfl (fun K hK => ?_) AllReadyH.nil))
    · refine step_call3J (by rfl) 62 numIn_enter (.tmp 6) _ _ _ rfl rfl rfl rfl (unhide HN _ HX1.out) ?_
      rintro e wn ⟨rfl, hwn⟩
      obtain rfl := hwn.symm
      clear hwn
      refine ⟨_, rfl, ?_⟩
      refine hK.out _ _ (unhide HS _ HX1.out) (fun hJ1 => ?_)
      clear hK K
      simp only [List.getElem_toArray, List.getElem_cons_succ, List.getElem_cons_zero, Act.put, List.setIfInBounds_toArray, List.set_cons_zero, List.set_cons_succ]
      refine wpAnyH_take (i := 6) (v := .agg (jrV r0 (.slice none 0 0)).toArray) rfl (by kernel_rfl) (by kernel_rfl) (by kernel_rfl) (fun _ _ _ h => h) (yields_bld2J (by rfl) 52 0 1 (.tmp 7) (.tmp 11) rfl (vx := .int .i64 r.n) (vy := .agg (r.p.map (Value.int .u8)).toArray) rfl rfl HBLD) (by assumption) ?_
      simp only [List.getElem_toArray, List.getElem_cons_succ, List.getElem_cons_zero, Act.put, List.setIfInBounds_toArray, List.set_cons_zero, List.set_cons_succ]
      refine wpAnyH_ready (rs := [7]) (by kernel_rfl) (by simp) (AllReadyH.cons rfl (fun K hK => ?_) AllReadyH.nil)
      refine step_allocJ (by rfl) 52 rfl infoR ?_
      rw [show w1.drew.heap.size = g3 from HG3.out.symm]
      refine hK.out _ _ (unhide HS _ HX2.out) (fun hJ2 => ?_)
      clear hK K
      simp only [List.getElem_toArray, List.getElem_cons_succ, List.getElem_cons_zero, Act.put, List.setIfInBounds_toArray, List.set_cons_zero, List.set_cons_succ]
      refine wpAnyH_ready (rs := [8]) (by kernel_rfl) (by simp) (AllReadyH.cons rfl (fun K hK => ?_) AllReadyH.nil)
      refine step_storeJ (by rfl) (.tmp 3) (.tmp 12) 52 rfl rfl rfl HA3.out (hinfR _) hlen hone ?_
      intro w2 hA2 hg2
      have HN2 := hide (unhide HST1 w2 hA2 hg2)
      refine hK.out _ _ (unhide HS _ HN2.out.2.2.2) (fun hJ9 => ?_)
      clear hK K
      simp only [List.getElem_toArray, List.getElem_cons_succ, List.getElem_cons_zero, Act.put]
      refine wpAnyH_done (by kernel_rfl) ?_ _
      go_wp2
      go_meet
      exact ⟨rfl, HN2⟩
    · refine step_allocJ (by rfl) 52 rfl infoR ?_
      rw [show w1.drew.heap.size = g3 from HG3.out.symm]
      refine hK.out _ _ (unhide HS _ HX2.out) (fun hJ1 => ?_)
      clear hK K
      simp only [List.getElem_toArray, List.getElem_cons_succ, List.getElem_cons_zero, Act.put, List.setIfInBounds_toArray, List.set_cons_zero, List.set_cons_succ]
      refine wpAnyH_ready (rs := [1]) (by kernel_rfl) (by simp) (AllReadyH.cons rfl (fun K hK => ?_) AllReadyH.nil)
      refine step_call3J (by rfl) 62 numIn_enter (.tmp 6) _ _ _ rfl rfl rfl rfl (unhide HN _ HX2.out) ?_
      rintro e wn ⟨rfl, hwn⟩
      obtain rfl := hwn.symm
      clear hwn
      refine ⟨_, rfl, ?_⟩
      refine hK.out _ _ (unhide HS _ HX2.out) (fun hJ2 => ?_)
      clear hK K
      simp only [List.getElem_toArray, List.getElem_cons_succ, List.getElem_cons_zero, Act.put, List.setIfInBounds_toArray, List.set_cons_zero, List.set_cons_succ]
      refine wpAnyH_take (i := 6) (v := .agg (jrV r0 (.slice none 0 0)).toArray) rfl (by kernel_rfl) (by kernel_rfl) (by kernel_rfl) (fun _ _ _ h => h) (yields_bld2J (by rfl) 52 0 1 (.tmp 7) (.tmp 11) rfl (vx := .int .i64 r.n) (vy := .agg (r.p.map (Value.int .u8)).toArray) rfl rfl HBLD) (by assumption) ?_
      simp only [List.getElem_toArray, List.getElem_cons_succ, List.getElem_cons_zero, Act.put, List.setIfInBounds_toArray, List.set_cons_zero, List.set_cons_succ]
      refine wpAnyH_ready (rs := [8]) (by kernel_rfl) (by simp) (AllReadyH.cons rfl (fun K hK => ?_) AllReadyH.nil)
      refine step_storeJ (by rfl) (.tmp 3) (.tmp 12) 52 rfl rfl rfl HA3.out (hinfR _) hlen hone ?_
      intro w2 hA2 hg2
      have HN2 := hide (unhide HST1 w2 hA2 hg2)
      refine hK.out _ _ (unhide HS _ HN2.out.2.2.2) (fun hJ9 => ?_)
      clear hK K
      simp only [List.getElem_toArray, List.getElem_cons_succ, List.getElem_cons_zero, Act.put]
      refine wpAnyH_done (by kernel_rfl) ?_ _
      go_wp2
      go_meet
      exact ⟨rfl, HN2⟩
  case rest =>
    obtain ⟨rfl, HN0⟩ := hcut
    have c44 := unhide HC44 wc HN0.out.2.2.2
    clear HST1 HX1 HX2 HA3 HBLD hsl hap
    go_wp2
    clear c44
    have HL0 : Hid (∃ u, NmS w wc g2 g3 r0 ((List.range 0).map rf) u) := hide ⟨_, HN0.out⟩
    have hm0 : IntKind.i64.wrap ((cn : Int) * 40) = (cn : Int) * 40 := IntWalk.i64_in _ (by omega)
    have hm1 : IntKind.i64.wrap (45 + (cn : Int) * 40) = 45 + (cn : Int) * 40 := IntWalk.i64_in _ (by omega)
    go_loopw [5] (fun at_ W => ∃ i x : Nat, i ≤ cn ∧ at_ = .int .i64 (x : Int) ∧ Hid (x = 45 + 40 * i) ∧ Hid (∃ u, NmS w W g2 g3 r0 ((List.range i).map rf) u)) (fun at_ _ => 45 + 40 * cn - (intOf at_).toNat)
    case atStart => exact ⟨0, 45, Nat.zero_le _, rfl, hide rfl, HL0⟩
    case round =>
      clear HL0 HN0
      obtain ⟨i, x, hi, rfl, HX, HL⟩ := hrel
      by_cases hlt : i < cn
      · have hxl : decide ((x : Int) < 45 + (cn : Int) * 40) = true := by have := HX.out; simp; omega
        obtain ⟨u, hu⟩ := HL.out
        obtain ⟨ua, uc, hus⟩ := hu.2.1.shape
        subst hus
        have HU := hide hu
        have hx9 : x ≤ 1000 := by have := HX.out; omega
        have hxw : IntKind.i64.wrap ((x : Int) + 40) = ((x + 40 : Nat) : Int) := by rw [IntKind.wrap_i64]; omega
        have HRC : Hid (∀ W, Below w.heap.size w W → Calls Tryd.prog 63 #[.slice (some ⟨bk, of, none⟩) 512 vc, .int .i64 (x : Int)] W fun e w' => e = .returned (.agg (jfV (rf i)).toArray) ∧ Below W.heap.size W w') := hide (fun W hW => by have := unhide HRF W i hlt hW; rw [← HX.out] at this; exact this)
        have HRK := hide (unhide HRO i hlt)
        have HSI := hide (unhide HSN i)
        have HXN : Hid (x + 40 = 45 + 40 * (i + 1)) := hide (by have := HX.out; omega)
        generalize hll : (List.range i).map rf = l at *
        have HLN : Hid (l.length ≤ 10) := hide (by rw [← hll]; simp; omega)
        obtain ⟨ln, hln⟩ : ∃ ln, ln = l.length := ⟨_, rfl⟩
        rw [← hln] at HU
        have HBLS := hide (fun W => bslRf (r := rf i) HRK.out.len W)
        generalize hrk : rf i = rk at *
        have HX0 : Hid (Below w.heap.size w wr.drew ∧ NmS w wr.drew g2 g3 r0 l (.slice ua ln uc)) := hide ⟨HU.out.2.2.2.drew, HU.out.below (Below.drew (Below.refl _ _))⟩
        have HCELL : Hid (∀ W, NmS w W g2 g3 r0 l (.slice ua ln uc) → W.cell? ⟨g3, 33, none⟩ = some (.slice ua ln uc)) := hide (fun W h => (h.1.cell 33).trans (jrV_v hr0p _))
        clear hu HL hll hln hrk
        go_wp2_with fail
        refine wp_region_held_drew (S := fun _ => True) (by kernel_rfl) (trivial) (fun hHeld => ?_)
        refine wpAnyH_take (i := 0) (v := .pointer (some ⟨g3, 33, none⟩)) rfl (by kernel_rfl) (by kernel_rfl) (by kernel_rfl) (fun _ _ _ h => h) (Or.inl ⟨by rfl, fun w hSw => by go_simp⟩) (by assumption) ?_
        simp only [List.getElem_toArray, List.getElem_cons_zero, Act.put, List.setIfInBounds_toArray, List.set_cons_zero, List.set_cons_succ]
        refine wpAnyH_take (i := 2) (v := .slice (some ⟨bk, of, none⟩) 512 vc) rfl (by kernel_rfl) (by kernel_rfl) (by kernel_rfl) (fun _ _ _ h => h) (Or.inl ⟨by rfl, fun w hSw => by go_simp⟩) (by assumption) ?_
        simp only [List.getElem_toArray, List.getElem_cons_succ, List.getElem_cons_zero, Act.put, List.setIfInBounds_toArray, List.set_cons_zero, List.set_cons_succ]
        refine wpAnyH_take (i := 3) (v := .int .i64 (x : Int)) rfl (by kernel_rfl) (by kernel_rfl) (by kernel_rfl) (fun _ _ _ h => h) (Or.inl ⟨by rfl, fun w hSw => by go_simp⟩) (by assumption) ?_
        simp only [List.getElem_toArray, List.getElem_cons_succ, List.getElem_cons_zero, Act.put, List.setIfInBounds_toArray, List.set_cons_zero, List.set_cons_succ]
        refine wpAnyH_ready (rs := [1, 4]) (by kernel_rfl) (by simp) (AllReadyH.cons rfl (fun K hK => ?_) (AllReadyH.cons rfl (fun K hK => ?_) AllReadyH.nil))
        · refine step_load1 (by rfl) 34 (.tmp 25) rfl rfl (load24 (unhide HCELL _ HX0.out.2)) ?_
          refine hK.out _ _ (trivial) (fun hJa => ?_)
          clear hK K
          simp only [List.getElem_toArray, List.getElem_cons_succ, List.getElem_cons_zero, Act.put, List.setIfInBounds_toArray, List.set_cons_zero, List.set_cons_succ]
          refine wpAnyH_ready (rs := [4]) (by kernel_rfl) (by simp) (AllReadyH.cons rfl (fun K hK => ?_) AllReadyH.nil)
          refine step_call2J (by rfl) 63 refIn_enter (.tmp 27) (.tmp 28) _ rfl rfl rfl (unhide HRC _ HX0.out.1) ?_
          rintro e wb ⟨rfl, hwb⟩
          refine ⟨_, rfl, ?_⟩
          have hxb := HX0.out.2.below hwb
          refine hK.out _ _ (trivial) (fun hJb => ?_)
          clear hK K
          simp only [List.getElem_toArray, List.getElem_cons_succ, List.getElem_cons_zero, Act.put, List.setIfInBounds_toArray, List.set_cons_zero, List.set_cons_succ]
          refine wpAnyH_ready (rs := [5]) (by kernel_rfl) (by simp) (AllReadyH.cons rfl (fun K hK => ?_) AllReadyH.nil)
          refine step_bslice1 (by rfl) 34 (.tmp 29) rfl rfl (unhide HBLS _) ?_
          have hbc := jalloc_below wb (.cells (jfV rk).toArray 73)
          have hxc := hxb.below hbc
          have hAc := Arr.new wb (jfV rk) 73
          have hjc := isJ_lit HRK.out hAc
          refine hK.out _ _ (trivial) (fun hJc => ?_)
          clear hK K
          simp only [List.getElem_toArray, List.getElem_cons_succ, List.getElem_cons_zero, Act.put, List.setIfInBounds_toArray, List.set_cons_zero, List.set_cons_succ]
          refine wpAnyH_ready (rs := [6]) (by kernel_rfl) (by simp) (AllReadyH.cons rfl (fun K hK => ?_) AllReadyH.nil)
          refine step_appJ (by rfl) (.tmp 26) (.tmp 30) rfl rfl hxc.2.1 rfl hjc (by have := HLN.out; simp; omega) hxc.2.2.2.size ?_
          intro v6 w6 ho6 hg6 _
          obtain ⟨⟨hc6, hf6⟩, hS6⟩ := hxc.app hr0p HNE.out.2 HNE.out.1 ho6 hg6
          obtain ⟨a6, c6, hv6⟩ := ho6.shape
          obtain ⟨n6, hn6⟩ : ∃ n6, n6 = (l ++ [rk]).length := ⟨_, rfl⟩
          rw [← hn6] at hv6
          clear hn6
          subst hv6
          refine hK.out _ _ (trivial) (fun hJd => ?_)
          clear hK K
          simp only [List.getElem_toArray, List.getElem_cons_succ, List.getElem_cons_zero, Act.put, List.setIfInBounds_toArray, List.set_cons_zero, List.set_cons_succ]
          refine wpAnyH_take (i := 7) (v := .pointer (some ⟨g3, 33, none⟩)) rfl (by kernel_rfl) (by kernel_rfl) (by kernel_rfl) (fun _ _ _ h => h) (Or.inl ⟨by rfl, fun w hSw => by go_simp⟩) (by assumption) ?_
          simp only [List.getElem_toArray, List.getElem_cons_succ, List.getElem_cons_zero, Act.put, List.setIfInBounds_toArray, List.set_cons_zero, List.set_cons_succ]
          refine wpAnyH_ready (rs := [8]) (by kernel_rfl) (by simp) (AllReadyH.cons rfl (fun K hK => ?_) AllReadyH.nil)
          refine step_store1 (by rfl) 34 (.tmp 32) (.tmp 31) rfl rfl rfl (store24 hc6 hf6) ?_
          refine hK.out _ _ (trivial) (fun hJe => ?_)
          clear hK K
          simp only [List.getElem_toArray, List.getElem_cons_succ, List.getElem_cons_zero, Act.put]
          refine wpAnyH_done (by kernel_rfl) ?_ _
          rw [← HSI.out] at hS6
          have HF := hide (Exists.intro _ hS6)
          clear hxc hjc hAc ho6 hg6 hc6 hf6 hS6
          go_wp2
          go_roundw
          case rel => exact ⟨i + 1, x + 40, by omega, rfl, HXN, HF⟩
          case measure => simp [intOf]; have := HX.out; omega
        · refine step_call2J (by rfl) 63 refIn_enter (.tmp 27) (.tmp 28) _ rfl rfl rfl (unhide HRC _ HX0.out.1) ?_
          rintro e wb ⟨rfl, hwb⟩
          refine ⟨_, rfl, ?_⟩
          have hxb := HX0.out.2.below hwb
          refine hK.out _ _ (trivial) (fun hJb => ?_)
          clear hK K
          simp only [List.getElem_toArray, List.getElem_cons_succ, List.getElem_cons_zero, Act.put, List.setIfInBounds_toArray, List.set_cons_zero, List.set_cons_succ]
          refine wpAnyH_ready (rs := [1, 5]) (by kernel_rfl) (by simp) (AllReadyH.cons rfl (fun K hK => ?_) (AllReadyH.cons rfl (fun K hK => ?_) AllReadyH.nil))
          · refine step_load1 (by rfl) 34 (.tmp 25) rfl rfl (load24 (unhide HCELL _ hxb)) ?_
            refine hK.out _ _ (trivial) (fun hJa => ?_)
            clear hK K
            simp only [List.getElem_toArray, List.getElem_cons_succ, List.getElem_cons_zero, Act.put, List.setIfInBounds_toArray, List.set_cons_zero, List.set_cons_succ]
            refine wpAnyH_ready (rs := [5]) (by kernel_rfl) (by simp) (AllReadyH.cons rfl (fun K hK => ?_) AllReadyH.nil)
            refine step_bslice1 (by rfl) 34 (.tmp 29) rfl rfl (unhide HBLS _) ?_
            have hbc := jalloc_below wb (.cells (jfV rk).toArray 73)
            have hxc := hxb.below hbc
            have hAc := Arr.new wb (jfV rk) 73
            have hjc := isJ_lit HRK.out hAc
            refine hK.out _ _ (trivial) (fun hJc => ?_)
            clear hK K
            simp only [List.getElem_toArray, List.getElem_cons_succ, List.getElem_cons_zero, Act.put, List.setIfInBounds_toArray, List.set_cons_zero, List.set_cons_succ]
            refine wpAnyH_ready (rs := [6]) (by kernel_rfl) (by simp) (AllReadyH.cons rfl (fun K hK => ?_) AllReadyH.nil)
            refine step_appJ (by rfl) (.tmp 26) (.tmp 30) rfl rfl hxc.2.1 rfl hjc (by have := HLN.out; simp; omega) hxc.2.2.2.size ?_
            intro v6 w6 ho6 hg6 _
            obtain ⟨⟨hc6, hf6⟩, hS6⟩ := hxc.app hr0p HNE.out.2 HNE.out.1 ho6 hg6
            obtain ⟨a6, c6, hv6⟩ := ho6.shape
            obtain ⟨n6, hn6⟩ : ∃ n6, n6 = (l ++ [rk]).length := ⟨_, rfl⟩
            rw [← hn6] at hv6
            clear hn6
            subst hv6
            refine hK.out _ _ (trivial) (fun hJd => ?_)
            clear hK K
            simp only [List.getElem_toArray, List.getElem_cons_succ, List.getElem_cons_zero, Act.put, List.setIfInBounds_toArray, List.set_cons_zero, List.set_cons_succ]
            refine wpAnyH_take (i := 7) (v := .pointer (some ⟨g3, 33, none⟩)) rfl (by kernel_rfl) (by kernel_rfl) (by kernel_rfl) (fun _ _ _ h => h) (Or.inl ⟨by rfl, fun w hSw => by go_simp⟩) (by assumption) ?_
            simp only [List.getElem_toArray, List.getElem_cons_succ, List.getElem_cons_zero, Act.put, List.setIfInBounds_toArray, List.set_cons_zero, List.set_cons_succ]
            refine wpAnyH_ready (rs := [8]) (by kernel_rfl) (by simp) (AllReadyH.cons rfl (fun K hK => ?_) AllReadyH.nil)
            refine step_store1 (by rfl) 34 (.tmp 32) (.tmp 31) rfl rfl rfl (store24 hc6 hf6) ?_
            refine hK.out _ _ (trivial) (fun hJe => ?_)
            clear hK K
            simp only [List.getElem_toArray, List.getElem_cons_succ, List.getElem_cons_zero, Act.put]
            refine wpAnyH_done (by kernel_rfl) ?_ _
            rw [← HSI.out] at hS6
            have HF := hide (Exists.intro _ hS6)
            clear hxc hjc hAc ho6 hg6 hc6 hf6 hS6
            go_wp2
            go_roundw
            case rel => exact ⟨i + 1, x + 40, by omega, rfl, HXN, HF⟩
            case measure => simp [intOf]; have := HX.out; omega
          · refine step_bslice1 (by rfl) 34 (.tmp 29) rfl rfl (unhide HBLS _) ?_
            have hbc := jalloc_below wb (.cells (jfV rk).toArray 73)
            have hxc := hxb.below hbc
            have hAc := Arr.new wb (jfV rk) 73
            have hjc := isJ_lit HRK.out hAc
            refine hK.out _ _ (trivial) (fun hJc => ?_)
            clear hK K
            simp only [List.getElem_toArray, List.getElem_cons_succ, List.getElem_cons_zero, Act.put, List.setIfInBounds_toArray, List.set_cons_zero, List.set_cons_succ]
            refine wpAnyH_ready (rs := [1]) (by kernel_rfl) (by simp) (AllReadyH.cons rfl (fun K hK => ?_) AllReadyH.nil)
            refine step_load1 (by rfl) 34 (.tmp 25) rfl rfl (load24 (unhide HCELL _ hxc)) ?_
            refine hK.out _ _ (trivial) (fun hJa => ?_)
            clear hK K
            simp only [List.getElem_toArray, List.getElem_cons_succ, List.getElem_cons_zero, Act.put, List.setIfInBounds_toArray, List.set_cons_zero, List.set_cons_succ]
            refine wpAnyH_ready (rs := [6]) (by kernel_rfl) (by simp) (AllReadyH.cons rfl (fun K hK => ?_) AllReadyH.nil)
            refine step_appJ (by rfl) (.tmp 26) (.tmp 30) rfl rfl hxc.2.1 rfl hjc (by have := HLN.out; simp; omega) hxc.2.2.2.size ?_
            intro v6 w6 ho6 hg6 _
            obtain ⟨⟨hc6, hf6⟩, hS6⟩ := hxc.app hr0p HNE.out.2 HNE.out.1 ho6 hg6
            obtain ⟨a6, c6, hv6⟩ := ho6.shape
            obtain ⟨n6, hn6⟩ : ∃ n6, n6 = (l ++ [rk]).length := ⟨_, rfl⟩
            rw [← hn6] at hv6
            clear hn6
            subst hv6
            refine hK.out _ _ (trivial) (fun hJd => ?_)
            clear hK K
            simp only [List.getElem_toArray, List.getElem_cons_succ, List.getElem_cons_zero, Act.put, List.setIfInBounds_toArray, List.set_cons_zero, List.set_cons_succ]
            refine wpAnyH_take (i := 7) (v := .pointer (some ⟨g3, 33, none⟩)) rfl (by kernel_rfl) (by kernel_rfl) (by kernel_rfl) (fun _ _ _ h => h) (Or.inl ⟨by rfl, fun w hSw => by go_simp⟩) (by assumption) ?_
            simp only [List.getElem_toArray, List.getElem_cons_succ, List.getElem_cons_zero, Act.put, List.setIfInBounds_toArray, List.set_cons_zero, List.set_cons_succ]
            refine wpAnyH_ready (rs := [8]) (by kernel_rfl) (by simp) (AllReadyH.cons rfl (fun K hK => ?_) AllReadyH.nil)
            refine step_store1 (by rfl) 34 (.tmp 32) (.tmp 31) rfl rfl rfl (store24 hc6 hf6) ?_
            refine hK.out _ _ (trivial) (fun hJe => ?_)
            clear hK K
            simp only [List.getElem_toArray, List.getElem_cons_succ, List.getElem_cons_zero, Act.put]
            refine wpAnyH_done (by kernel_rfl) ?_ _
            rw [← HSI.out] at hS6
            have HF := hide (Exists.intro _ hS6)
            clear hxc hjc hAc ho6 hg6 hc6 hf6 hS6
            go_wp2
            go_roundw
            case rel => exact ⟨i + 1, x + 40, by omega, rfl, HXN, HF⟩
            case measure => simp [intOf]; have := HX.out; omega
      · have hxl : decide ((x : Int) < 45 + (cn : Int) * 40) = false := by have := HX.out; simp; omega
        have HIC : Hid (i = cn) := hide (by omega)
        obtain ⟨u, hu⟩ := HL.out
        rw [HIC.out, HRS.out] at hu
        have hrng := hu.1.rangeJ
        have hu1 : u.oneCell' = true := hu.2.1.isJ.one
        have hl2 : z34R.length = (jrV r0 u).length := by rw [jrV_len hr0p]; decide
        have hon := jrV_one r0 hu1
        have HU := hide hu
        have HNE2 := hide HNE.out.1
        clear hu hu1
        go_wp2_with (first
          | (refine wpList_loadJ rfl 52 (.tmp 3) rfl g3 0 rfl (jrV r0 u) _ hrng Tryd.underlying52 rfl (hinfR u) ?_)
          | (refine wpList_storeJ rfl (.tmp 2) (.tmp 33) 52 rfl rfl rfl HU.out.2.2.1 (hinfR u) hl2 hon ?_; intro w9 hA9 hg9))
        have hA9' : Arr w9 g2 52 (jrV r0 u) := hA9
        refine bodyPost_ret (results_rowJ rfl rfl hA9' Tryd.underlying52 rfl (hinfR u)) rfl ?_
        refine ⟨u, by rw [unhide HJR u], ⟨HU.out.2.1.1, ?_⟩, ?_⟩
        · refine HU.out.2.1.2.kept hg9 ?_
          exact OwnJ.block HU.out.2.1 HU.out.2.2.1 (by decide)
        · exact jbelow_grown HU.out.2.2.2 hg9 HU.out.2.2.2.size (by rw [HG2.out]; exact Nat.le_refl _)
end Go.Proofs.YthhjlopgpmaokabDoor
