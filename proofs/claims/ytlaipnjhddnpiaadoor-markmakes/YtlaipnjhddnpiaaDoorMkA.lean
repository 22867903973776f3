/- Marks in memory: what New, Step, Broken and Held answer, as long as nothing is to be gone through. -/
import Derived.Shelf.SlIterI.Nil
import Derived.Shelf.SortM.Plain
import Derived.Shelf.SortM.SortNone
import Derived.Test.YtlaipnjhddnpiaaDoorMkB
namespace Go.Proofs.YtlaipnjhddnpiaaDoor
open Go.RowKit Go.Maps Go.Sort Go.Shelf

def renK : Ren := ⟨fun | 7 => 16 | 10 => 26 | n => n, fun | 23 => 47 | 26 => 3 | 3 => 62 | 28 => 60 | 0 => 0 | 27 => 59 | 33 => 78 | 4 => 4 | n => n, fun | n => n⟩
def renC : Ren := ⟨fun | 8 => 15 | 11 => 25 | n => n, fun | 26 => 3 | 28 => 60 | 24 => 32 | 0 => 0 | 33 => 78 | 4 => 4 | n => n, fun | n => n⟩
def renO : Ren := ⟨fun | 5 => 18 | 8 => 29 | 7 => 28 | 19 => 42 | 20 => 43 | 10 => 33 | 11 => 34 | 12 => 35 | 13 => 36 | 14 => 37 | 15 => 38 | 16 => 39 | 17 => 40 | 18 => 41 | 30 => 52 | 31 => 53 | 32 => 54 | 33 => 55 | 34 => 56 | 35 => 57 | 40 => 68 | n => n, fun | 23 => 32 | 25 => 3 | 3 => 3 | 32 => 82 | 22 => 32 | 0 => 0 | 44 => 95 | 46 => 97 | 4 => 4 | 36 => 88 | 35 => 87 | 41 => 92 | 5 => 5 | 9 => 9 | 53 => 106 | 57 => 110 | 63 => 123 | 64 => 124 | n => n, fun | n => n⟩
theorem laysK : SlLaysZI.n7 Tryd.prog renK where
  mixed := by kernel_rfl
  f7 := ⟨(Tryd.f16).name, by decide, Tryd.func16.trans (congrArg some (by kernel_rfl))⟩
  f10 := ⟨(Tryd.f26).name, by decide, Tryd.func26.trans (congrArg some (by kernel_rfl))⟩
  t0 := by kernel_rfl
  a0 := fun w => by kernel_rfl
  z0 := fun w => by kernel_rfl
  v0 := fun w => by kernel_rfl
  t4 := by kernel_rfl
  a4 := fun w => by kernel_rfl
  z4 := fun w => by kernel_rfl
  v4 := fun w => by kernel_rfl
  t23 := by kernel_rfl
  a23 := fun w => by kernel_rfl
  z23 := fun w => by kernel_rfl
  v23 := fun w => by kernel_rfl
  t26 := by kernel_rfl
  a26 := fun w => by kernel_rfl
  z26 := fun w => by kernel_rfl
  v26 := fun w => by kernel_rfl
  t27 := by kernel_rfl
  a27 := fun w => by kernel_rfl
  z27 := fun w => by kernel_rfl
  v27 := fun w => by kernel_rfl
  t28 := by kernel_rfl
  a28 := fun w => by kernel_rfl
  z28 := fun w => by kernel_rfl
  v28 := fun w => by kernel_rfl
  t33 := by kernel_rfl
  a33 := fun w => by kernel_rfl
  z33 := fun w => by kernel_rfl
  v33 := fun w => by kernel_rfl
theorem laysC : SlLaysZI.n8 Tryd.prog renC where
  mixed := by kernel_rfl
  f8 := ⟨(Tryd.f15).name, by decide, Tryd.func15.trans (congrArg some (by kernel_rfl))⟩
  f11 := ⟨(Tryd.f25).name, by decide, Tryd.func25.trans (congrArg some (by kernel_rfl))⟩
  t0 := by kernel_rfl
  a0 := fun w => by kernel_rfl
  z0 := fun w => by kernel_rfl
  v0 := fun w => by kernel_rfl
  t24 := by kernel_rfl
  a24 := fun w => by kernel_rfl
  z24 := fun w => by kernel_rfl
  v24 := fun w => by kernel_rfl
  t26 := by kernel_rfl
  a26 := fun w => by kernel_rfl
  z26 := fun w => by kernel_rfl
  v26 := fun w => by kernel_rfl
  t28 := by kernel_rfl
  a28 := fun w => by kernel_rfl
  z28 := fun w => by kernel_rfl
  v28 := fun w => by kernel_rfl
  i26 := by kernel_rfl
theorem laysO : SlLaysM.n5 Tryd.prog renO where
  mixed := by kernel_rfl
  f5 := ⟨(Tryd.f18).name, by decide, Tryd.func18.trans (congrArg some (by kernel_rfl))⟩
  f7 := ⟨(Tryd.f28).name, by decide, Tryd.func28.trans (congrArg some (by kernel_rfl))⟩
  f8 := Tryd.func29.trans (congrArg some (by kernel_rfl))
  f10 := ⟨(Tryd.f33).name, by decide, Tryd.func33.trans (congrArg some (by kernel_rfl))⟩
  f11 := ⟨(Tryd.f34).name, by decide, Tryd.func34.trans (congrArg some (by kernel_rfl))⟩
  f12 := ⟨(Tryd.f35).name, by decide, Tryd.func35.trans (congrArg some (by kernel_rfl))⟩
  f13 := ⟨(Tryd.f36).name, by decide, Tryd.func36.trans (congrArg some (by kernel_rfl))⟩
  f14 := ⟨(Tryd.f37).name, by decide, Tryd.func37.trans (congrArg some (by kernel_rfl))⟩
  f15 := ⟨(Tryd.f38).name, by decide, Tryd.func38.trans (congrArg some (by kernel_rfl))⟩
  f16 := ⟨(Tryd.f39).name, by decide, Tryd.func39.trans (congrArg some (by kernel_rfl))⟩
  f17 := ⟨(Tryd.f40).name, by decide, Tryd.func40.trans (congrArg some (by kernel_rfl))⟩
  f18 := ⟨(Tryd.f41).name, by decide, Tryd.func41.trans (congrArg some (by kernel_rfl))⟩
  f19 := Tryd.func42.trans (congrArg some (by kernel_rfl))
  f20 := Tryd.func43.trans (congrArg some (by kernel_rfl))
  f30 := ⟨(Tryd.f52).name, by decide, Tryd.func52.trans (congrArg some (by kernel_rfl))⟩
  f31 := Tryd.func53.trans (congrArg some (by kernel_rfl))
  f32 := Tryd.func54.trans (congrArg some (by kernel_rfl))
  f33 := ⟨(Tryd.f55).name, by decide, Tryd.func55.trans (congrArg some (by kernel_rfl))⟩
  f34 := ⟨(Tryd.f56).name, by decide, Tryd.func56.trans (congrArg some (by kernel_rfl))⟩
  f35 := ⟨(Tryd.f57).name, by decide, Tryd.func57.trans (congrArg some (by kernel_rfl))⟩
  f40 := ⟨(Tryd.f68).name, by decide, Tryd.func68.trans (congrArg some (by kernel_rfl))⟩
  t0 := by kernel_rfl
  a0 := fun w => by kernel_rfl
  z0 := fun w => by kernel_rfl
  v0 := fun w => by kernel_rfl
  t3 := by kernel_rfl
  a3 := fun w => by kernel_rfl
  z3 := fun w => by kernel_rfl
  v3 := fun w => by kernel_rfl
  t4 := by kernel_rfl
  a4 := fun w => by kernel_rfl
  z4 := fun w => by kernel_rfl
  v4 := fun w => by kernel_rfl
  t5 := by kernel_rfl
  a5 := fun w => by kernel_rfl
  z5 := fun w => by kernel_rfl
  v5 := fun w => by kernel_rfl
  t9 := by kernel_rfl
  a9 := fun w => by kernel_rfl
  z9 := fun w => by kernel_rfl
  v9 := fun w => by kernel_rfl
  t22 := by kernel_rfl
  a22 := fun w => by kernel_rfl
  z22 := fun w => by kernel_rfl
  v22 := fun w => by kernel_rfl
  t23 := by kernel_rfl
  a23 := fun w => by kernel_rfl
  z23 := fun w => by kernel_rfl
  v23 := fun w => by kernel_rfl
  t25 := by kernel_rfl
  a25 := fun w => by kernel_rfl
  z25 := fun w => by kernel_rfl
  v25 := fun w => by kernel_rfl
  t32 := by kernel_rfl
  a32 := fun w => by kernel_rfl
  z32 := fun w => by kernel_rfl
  v32 := fun w => by kernel_rfl
  t35 := by kernel_rfl
  a35 := fun w => by kernel_rfl
  z35 := fun w => by kernel_rfl
  v35 := fun w => by kernel_rfl
  t36 := by kernel_rfl
  a36 := fun w => by kernel_rfl
  z36 := fun w => by kernel_rfl
  v36 := fun w => by kernel_rfl
  t41 := by kernel_rfl
  a41 := fun w => by kernel_rfl
  z41 := fun w => by kernel_rfl
  v41 := fun w => by kernel_rfl
  t44 := by kernel_rfl
  a44 := fun w => by kernel_rfl
  z44 := fun w => by kernel_rfl
  v44 := fun w => by kernel_rfl
  t46 := by kernel_rfl
  a46 := fun w => by kernel_rfl
  z46 := fun w => by kernel_rfl
  v46 := fun w => by kernel_rfl
  t53 := by kernel_rfl
  a53 := fun w => by kernel_rfl
  z53 := fun w => by kernel_rfl
  v53 := fun w => by kernel_rfl
  t57 := by kernel_rfl
  a57 := fun w => by kernel_rfl
  z57 := fun w => by kernel_rfl
  v57 := fun w => by kernel_rfl
  t63 := by kernel_rfl
  a63 := fun w => by kernel_rfl
  z63 := fun w => by kernel_rfl
  v63 := fun w => by kernel_rfl
  t64 := by kernel_rfl
  a64 := fun w => by kernel_rfl
  z64 := fun w => by kernel_rfl
  v64 := fun w => by kernel_rfl
theorem keys_calls (mb : Option Nat) (W : World) : Calls Tryd.prog 16 #[.map mb] W fun e w' => e = .returned (.func (.func 26) #[] #[.pointer (some ⟨W.heap.size, 0, none⟩)]) ∧ w' = W.alloc (.cells #[.map mb] 47) :=
  (callsIn_wide (n := 5)).1 (AnyZI.keys_in laysK Fence.wide 5 trivial rfl mb W)
theorem sortN_calls (p : Option Addr) (cap : Nat) (W : World) : Calls Tryd.prog 18 #[.slice p 0 cap] W fun e w' => e = .returned (.tuple #[]) ∧ w' = W := AnyM.slices_Sort_int_none laysO p cap W
/-- No key is collected out of an empty map. -/
theorem collect_none {w : World} {gh : Nat} (h : w.heap[gh]? = some (.map #[] 0)) :
    Calls Tryd.prog 15 #[.func (.func 26) #[] #[.pointer (some ⟨w.heap.size, 0, none⟩)]] (w.alloc (.cells #[.map (some gh)] 47)) fun e w' => e = .returned (.slice none 0 0) ∧ Below w.heap.size w w' := by
  have hlt : gh < w.heap.size := (Array.getElem?_eq_some_iff.1 h).1
  have hM1 : (w.alloc (.cells #[.map (some gh)] 47)).ownsMap Tryd.prog 3 RV gh 0 (.map []) := map_none _ _ ((Below.heap_alloc _ _ gh hlt).trans h)
  have hseq : SeqGives Fence.wide 3 Tryd.prog 26 #[.pointer (some ⟨w.heap.size, 0, none⟩)] encZ (fun ss => ss.Perm (intKeys (DataW.map (H := Value) []))) (Maps.size (DataW.map (H := Value) [])) (w.alloc (.cells #[.map (some gh)] 47)) :=
    AnyZI.keys_gives (ρ := renK) { laysK with } Fence.wide _ trivial rfl (by omega) w.heap.size gh 0 (.map []) _ (by simp) (by simp) hM1
  have cC := AnyZI.collect_in laysC Fence.wide 5 trivial trivial rfl (by omega) 26 #[.pointer (some ⟨w.heap.size, 0, none⟩)] trivial (enters_of Tryd.func26 (by kernel_rfl) rfl) _ _ (by simp [Maps.size]; try decide) (by simp [Maps.size]; try decide) _ hseq
  refine ((callsIn_wide (n := 5)).1 cC).mono ?_
  rintro e w' ⟨v, ss, rfl, hS, hrow, hn, hb⟩
  have hs : ss = [] := by have := hS.length_eq; simpa [intKeys] using this
  rw [hn.2 hs]
  exact ⟨rfl, ((Below.refl _ w).alloc (Nat.le_refl _) _).trans (hb.mono (by simp))⟩
/-- A mark's cells. -/
def mkC (p : Nat) (x : Int) (gk gh : Nat) : List Value := [.slice none 0 0, .slice none 0 0, .pointer (some ⟨p, 0, none⟩), .int .i64 x, .pointer none, .nilFunc, .map (some gk), .map (some gh), .bool false, .int .i64 0, .bool false]
theorem bMk (p : Nat) (x : Int) (gk gh : Nat) (W : World) : (Instr.build 53 #[(1, .pointer (some ⟨p, 0, none⟩)), (2, .int .i64 x), (5, .map (some gk)), (6, .map (some gh))]).run Tryd.prog W = .ok (.agg (mkC p x gk gh).toArray) W := by kernel_rfl
set_option maxRecDepth 100000 in
set_option maxHeartbeats 1000000 in
theorem disk_bad {w : World} {x : Int} (h : x < 2 ∨ 65536 < x) : Calls Tryd.prog 5 #[.int .i64 x] w fun e w' => e = .returned (.tuple #[.pointer none, .int .i64 30]) ∧ w' = w := by
  by_cases h1 : x < 2
  · go_enter Tryd.func5, Tryd.ntmps5
    go_wp2
    go_ret2
    exact ⟨rfl, rfl⟩
  · have h2 : 65536 < x := by omega
    go_enter Tryd.func5, Tryd.ntmps5
    go_wp2
    go_ret2
    exact ⟨rfl, rfl⟩
set_option maxRecDepth 100000 in
set_option maxHeartbeats 1000000 in
theorem mknew_nil (w : World) (x : Int) : Calls Tryd.prog 4 #[.pointer none, .int .i64 x] w fun e w' => e = .returned (.tuple #[.pointer none, .int .i64 1]) ∧ w' = w := by
  go_enter Tryd.func4, Tryd.ntmps4
  go_wp2
  go_ret2
  exact ⟨rfl, rfl⟩
set_option maxRecDepth 100000 in
set_option maxHeartbeats 1000000 in
theorem mknew_bad {w : World} {p gl n cap : Nat} {x : Int} (hc : w.cell? ⟨p, 0, none⟩ = some (.slice (some ⟨gl, 0, none⟩) n cap)) (h : x < 1 ∨ (n : Int) ≤ x) : Calls Tryd.prog 4 #[.pointer (some ⟨p, 0, none⟩), .int .i64 x] w fun e w' => e = .returned (.tuple #[.pointer none, .int .i64 1]) ∧ w' = w := by
  have HS := hide (sectors_calls hc)
  by_cases h1 : x < 1
  · clear h
    go_enter Tryd.func4, Tryd.ntmps4
    go_wp2
    go_ret2
    exact ⟨rfl, rfl⟩
  · have h2 : (n : Int) ≤ x := by omega
    clear h
    go_enter Tryd.func4, Tryd.ntmps4
    go_wp2_with fail
    refine (unhide HS).mono ?_
    rintro e w1 ⟨rfl, hw1⟩
    obtain rfl := hw1.symm
    clear hw1 HS
    go_wp2
    go_ret2
    exact ⟨rfl, rfl⟩
/-- A mark with nothing to go through. -/
structure Mk (w W : World) (pm p : Nat) (x : Int) (gk gh : Nat) : Prop where
  blk : Arr W pm 53 (mkC p x gk gh)
  map : W.heap[gh]? = some (.map #[] 0)
  lo : w.heap.size ≤ pm
  be : Below w.heap.size w W
theorem Mk.below {w W W' : World} {pm p : Nat} {x : Int} {gk gh : Nat} (h : Mk w W pm p x gk gh) (hb : Below W.heap.size W W') : Mk w W' pm p x gk gh :=
  ⟨h.blk.below hb, (hb.block gh (Array.getElem?_eq_some_iff.1 h.map).1).trans h.map, h.lo, below_then h.be hb⟩
theorem Mk.cells {w W : World} {pm p : Nat} {x : Int} {gk gh : Nat} (h : Mk w W pm p x gk gh) : W.cell? ⟨pm, 0, none⟩ = some (.slice none 0 0) ∧ W.cell? ⟨pm, 1, none⟩ = some (.slice none 0 0) ∧ W.cell? ⟨pm, 4, none⟩ = some (.pointer none) ∧ W.cell? ⟨pm, 7, none⟩ = some (.map (some gh)) ∧ W.cell? ⟨pm, 8, none⟩ = some (.bool false) ∧ W.cell? ⟨pm, 10, none⟩ = some (.bool false) :=
  ⟨h.blk.cell 0, h.blk.cell 1, h.blk.cell 4, h.blk.cell 7, h.blk.cell 8, h.blk.cell 10⟩
/-- What lies there is written once more. -/
theorem Mk.same {w W : World} {pm p : Nat} {x : Int} {gk gh : Nat} (h : Mk w W pm p x gk gh) {j : Nat} {u : Value} (hj : (mkC p x gk gh).set j u = mkC p x gk gh) : Mk w (W.setCell ⟨pm, j, none⟩ u) pm p x gk gh := by
  have hne : gh ≠ pm := fun e => by
    have h1 := h.blk
    unfold Arr at h1
    rw [← e, h.map] at h1
    cases h1
  refine ⟨by have := h.blk.set j u; rw [hj] at this; exact this, (Below.heap_setCell W ⟨pm, j, none⟩ u gh hne).trans h.map, h.lo, h.be.setCell h.lo _⟩
set_option maxRecDepth 100000 in
set_option maxHeartbeats 1000000 in
theorem mknew_good {w : World} {p gl n cap : Nat} {x : Int} (hc : w.cell? ⟨p, 0, none⟩ = some (.slice (some ⟨gl, 0, none⟩) n cap)) (h1 : 1 ≤ x) (h2 : x < (n : Int)) : Calls Tryd.prog 4 #[.pointer (some ⟨p, 0, none⟩), .int .i64 x] w fun e w' => ∃ pm gk gh, e = .returned (.tuple #[.pointer (some ⟨pm, 0, none⟩), .int .i64 0]) ∧ Mk w w' pm p x gk gh := by
  have hmm := @run_makeMap Tryd.prog
  have HS := hide (sectors_calls hc)
  have hb := bMk
  have d1 : decide (x < 1) = false := by simp; omega
  have d2 : decide ((n : Int) ≤ x) = false := by simp; omega
  clear h1 h2
  go_enter Tryd.func4, Tryd.ntmps4
  go_wp2_with fail
  refine (unhide HS).mono ?_
  rintro e w1 ⟨rfl, hw1⟩
  obtain rfl := hw1.symm
  clear hw1 HS
  go_wp2_with (first
    | (refine wpList_boxJ rfl 53 (.tmp 22) rfl (cs := mkC p x w.heap.size (w.heap.size + 1)) rfl ?_; intro w3 hA3 hb3 _
       have HA3 := hide hA3
       have HB3 := hide hb3
       clear hA3 hb3))
  go_ret2
  have hA := HA3.out
  have hB := HB3.out
  rw [size_alloc, size_alloc] at hA
  have hm2 := heap_alloc_last (w.alloc (.map #[] 0)) (.map #[] 0)
  rw [size_alloc] at hm2
  refine ⟨_, _, _, rfl, ⟨hA, (hB.block (w.heap.size + 1) (by simp)).trans hm2, by omega, ?_⟩⟩
  exact (((Below.refl _ w).alloc (Nat.le_refl _) _).alloc (by simp) _).trans (hB.mono (by simp; omega))
set_option maxRecDepth 100000 in
set_option maxHeartbeats 1000000 in
theorem reverse_none (W : World) : Calls Tryd.prog 30 #[.slice none 0 0] W fun e w' => e = .returned (.tuple #[]) ∧ w' = W := by
  go_enter Tryd.func30, Tryd.ntmps30
  go_wp2_with fail
  go_loopw [2, 3] (fun iv jv w' => iv = .int .i64 0 ∧ jv = .int .i64 (-1) ∧ w' = W) (fun _ _ _ => 0)
  case atStart => exact ⟨rfl, rfl, rfl⟩
  case round =>
    obtain ⟨rfl, rfl, rfl⟩ := hrel
    go_wp2
    go_end0
    exact ⟨rfl, rfl⟩
set_option maxRecDepth 100000 in
set_option maxHeartbeats 2000000 in
theorem next_none {w W : World} {pm p : Nat} {x : Int} {gk gh : Nat} (h : Mk w W pm p x gk gh) : Calls Tryd.prog 20 #[.pointer (some ⟨pm, 0, none⟩)] W fun e w' => e = .returned .nilFunc ∧ Mk w w' pm p x gk gh := by
  obtain ⟨c0, c1, c4, c7, c8, c10⟩ := h.cells
  have f0 := h.blk.frozen 0
  have f1 := h.blk.frozen 1
  have HR := hide (reverse_none W)
  have HM := hide h
  clear h
  go_enter Tryd.func20, Tryd.ntmps20
  go_wp2_with fail
  refine (unhide HR).mono ?_
  rintro e w1 ⟨rfl, hw1⟩
  obtain rfl := hw1.symm
  clear hw1 HR
  go_upto_region 4 with (go_region)
  go_wp2
  go_ret
  exact ⟨rfl, (((HM.out.same (j := 0) (u := .slice none 0 0) rfl).same (j := 1) (u := .slice none 0 0) rfl)).below (Below.refl _ _).drew⟩
theorem eqlF_nil (W : World) : (binOp .eql 1 .nilFunc .nilFunc).run Tryd.prog W = .ok (.bool true) W := by kernel_rfl
set_option maxRecDepth 100000 in
set_option maxHeartbeats 2000000 in
theorem pass_none {w W : World} {pm p : Nat} {x : Int} {gk gh : Nat} (h : Mk w W pm p x gk gh) : Calls Tryd.prog 12 #[.pointer (some ⟨pm, 0, none⟩)] W fun e w' => e = .returned (.tuple #[]) ∧ Mk w w' pm p x gk gh := by
  obtain ⟨c0, c1, c4, c7, c8, c10⟩ := h.cells
  have HN := hide (next_none h)
  have hfn := eqlF_nil
  clear h
  go_enter Tryd.func12, Tryd.ntmps12
  go_wp2_with fail
  go_loopw [2] (fun _ w' => w' = W) (fun _ _ => 0)
  case atStart => rfl
  case round =>
    obtain rfl := hrel
    go_wp2_with fail
    refine (unhide HN).mono ?_
    rintro e w1 ⟨rfl, hM1⟩
    have HM1 := hide hM1
    clear hM1 HN
    go_wp2
    refine bodyPost_ret (results_none (by first | exact Tryd.results12 | rfl) _ _ _) rfl ?_
    exact ⟨rfl, HM1.out⟩
set_option maxRecDepth 100000 in
set_option maxHeartbeats 2000000 in
theorem end_none {w W : World} {pm p : Nat} {x : Int} {gk gh : Nat} (h : Mk w W pm p x gk gh) : Calls Tryd.prog 13 #[.pointer (some ⟨pm, 0, none⟩)] W fun e w' => e = .returned (.tuple #[.bool true, .int .i64 0]) ∧ w' = W := by
  obtain ⟨c0, c1, c4, c7, c8, c10⟩ := h.cells
  clear h
  go_enter Tryd.func13, Tryd.ntmps13
  go_wp2
  go_ret2
  exact ⟨rfl, rfl⟩
set_option maxRecDepth 100000 in
set_option maxHeartbeats 2000000 in
theorem step_none {w W : World} {pm p : Nat} {x : Int} {gk gh : Nat} (h : Mk w W pm p x gk gh) : Calls Tryd.prog 7 #[.pointer (some ⟨pm, 0, none⟩)] W fun e w' => e = .returned (.tuple #[.bool true, .int .i64 0]) ∧ Mk w w' pm p x gk gh := by
  have HP := hide (pass_none h)
  clear h
  go_enter Tryd.func7, Tryd.ntmps7
  go_wp2_with fail
  refine (unhide HP).mono ?_
  rintro e w1 ⟨rfl, hM1⟩
  obtain ⟨c0, c1, c4, c7, c8, c10⟩ := hM1.cells
  have HE := hide (end_none hM1)
  have HM1 := hide hM1
  clear hM1 HP
  go_wp2_with fail
  refine (unhide HE).mono ?_
  rintro e w2 ⟨rfl, hw2⟩
  obtain rfl := hw2.symm
  clear hw2 HE
  go_wp2
  go_ret2
  exact ⟨rfl, HM1.out⟩
set_option maxRecDepth 100000 in
set_option maxHeartbeats 2000000 in
theorem broken_none {w W : World} {pm p : Nat} {x : Int} {gk gh : Nat} (h : Mk w W pm p x gk gh) : Calls Tryd.prog 8 #[.pointer (some ⟨pm, 0, none⟩)] W fun e w' => e = .returned (.int .i64 (-1)) ∧ W = w' := by
  obtain ⟨c0, c1, c4, c7, c8, c10⟩ := h.cells
  clear h
  go_enter Tryd.func8, Tryd.ntmps8
  go_wp2
  go_ret
  exact ⟨rfl, rfl⟩
set_option maxRecDepth 100000 in
set_option maxHeartbeats 2000000 in
theorem compact_none (W : World) : Calls Tryd.prog 19 #[.slice none 0 0] W fun e w' => e = .returned (.slice none 0 0) ∧ w' = W := by
  go_enter Tryd.func19, Tryd.ntmps19
  go_wp2
  go_ret
  exact ⟨rfl, rfl⟩
set_option maxRecDepth 100000 in
set_option maxHeartbeats 2000000 in
theorem held_none {w W : World} {pm p : Nat} {x : Int} {gk gh : Nat} (h : Mk w W pm p x gk gh) : Calls Tryd.prog 9 #[.pointer (some ⟨pm, 0, none⟩)] W fun e w' => e = .returned (.slice none 0 0) ∧ Mk w w' pm p x gk gh := by
  obtain ⟨c0, c1, c4, c7, c8, c10⟩ := h.cells
  have HK := hide (keys_calls (some gh) W)
  have HC := hide (collect_none h.map)
  have HM := hide h
  clear h
  go_enter Tryd.func9, Tryd.ntmps9
  go_wp2_with fail
  refine (unhide HK).mono ?_
  rintro e w1 ⟨rfl, rfl⟩
  go_wp2_with fail
  refine (unhide HC).mono ?_
  rintro e w2 ⟨rfl, hb2⟩
  have hM2 := HM.out.below hb2
  obtain ⟨d0, d1, d4, d7, d8, d10⟩ := hM2.cells
  have HM2 := hide hM2
  have HS := hide (sortN_calls none 0 w2)
  have HQ := hide (compact_none w2)
  clear hM2 hb2 HM HK HC c0 c1 c4 c7 c8 c10
  go_wp2_with fail
  refine (unhide HS).mono ?_
  rintro e w3 ⟨rfl, hw3⟩
  obtain rfl := hw3.symm
  clear hw3 HS
  go_wp2_with fail
  refine (unhide HQ).mono ?_
  rintro e w3 ⟨rfl, hw3⟩
  obtain rfl := hw3.symm
  clear hw3 HQ
  go_wp2
  go_ret
  exact ⟨rfl, HM2.out⟩
end Go.Proofs.YtlaipnjhddnpiaaDoor
