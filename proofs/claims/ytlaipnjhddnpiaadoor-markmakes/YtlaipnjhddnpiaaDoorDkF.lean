/- What outside, Sectors, Acts, bytes and New answer. -/
import Derived.Test.YtlaipnjhddnpiaaDoorDkW
namespace Go.Proofs.YtlaipnjhddnpiaaDoor
open Go.RowKit Go.Maps

theorem size_alloc (w : World) (o : Obj) : (w.alloc o).heap.size = w.heap.size + 1 := by simp
theorem Arr.cell_of {w : World} {g : Nat} {t : TypeId} {cs : List Value} (h : Arr w g t cs) {j : Nat} {v : Value} (hj : cs[j]? = some v) : w.cell? ⟨g, j, none⟩ = some v := by rw [h.cell]; exact hj
theorem Dk.cells {w : World} {p gl gm : Nat} {V : Nat → Value} {D : AD} (h : Dk w p gl gm V D) : w.cell? ⟨p, 0, none⟩ = some (.slice (some ⟨gl, 0, none⟩) D.la.length D.la.length) ∧ w.cell? ⟨p, 1, none⟩ = some (.map (some gm)) ∧
    w.cell? ⟨p, 2, none⟩ = some (.int .i64 D.rd) ∧ w.cell? ⟨p, 3, none⟩ = some (.int .i64 D.wt) ∧ w.cell? ⟨p, 4, none⟩ = some (.int .i64 D.fl) :=
  ⟨h.blk.cell_of rfl, h.blk.cell_of rfl, h.blk.cell_of rfl, h.blk.cell_of rfl, h.blk.cell_of rfl⟩
theorem Dk.frozen {w : World} {p gl gm : Nat} {V : Nat → Value} {D : AD} (h : Dk w p gl gm V D) (j : Nat) : w.frozen? ⟨p, j, none⟩ = false := h.blk.frozen j

set_option maxRecDepth 100000 in
set_option maxHeartbeats 1000000 in
theorem sectors_calls {w : World} {p gl n cap : Nat} (hc : w.cell? ⟨p, 0, none⟩ = some (.slice (some ⟨gl, 0, none⟩) n cap)) :
    Calls Tryd.prog 11 #[.pointer (some ⟨p, 0, none⟩)] w fun e w' => e = .returned (.int .i64 n) ∧ w' = w := by
  go_enter Tryd.func11, Tryd.ntmps11
  go_wp2
  go_ret
  exact ⟨rfl, rfl⟩
set_option maxRecDepth 100000 in
set_option maxHeartbeats 1000000 in
theorem outside_in {w : World} {p gl n cap i : Nat} (hc : w.cell? ⟨p, 0, none⟩ = some (.slice (some ⟨gl, 0, none⟩) n cap)) (hi : i < n) :
    Calls Tryd.prog 58 #[.pointer (some ⟨p, 0, none⟩), .int .i64 (i : Int)] w fun e w' => e = .returned (.bool false) ∧ w' = w := by
  have h0 : decide ((i : Int) < 0) = false := by simp
  have h1 : decide (n ≤ i) = false := by simpa using hi
  go_enter Tryd.func58, Tryd.ntmps58
  go_wp2
  go_ret
  exact ⟨rfl, rfl⟩
set_option maxRecDepth 100000 in
set_option maxHeartbeats 1000000 in
theorem outside_out {w : World} {p gl n cap : Nat} {x : Int} (hc : w.cell? ⟨p, 0, none⟩ = some (.slice (some ⟨gl, 0, none⟩) n cap)) (hx : x < 0 ∨ (n : Int) ≤ x) :
    Calls Tryd.prog 58 #[.pointer (some ⟨p, 0, none⟩), .int .i64 x] w fun e w' => e = .returned (.bool true) ∧ w' = w := by
  by_cases h : x < 0
  · go_enter Tryd.func58, Tryd.ntmps58
    go_wp2
    go_ret
    exact ⟨rfl, rfl⟩
  · have h1 : decide (x < 0) = false := by simpa using h
    have h2 : decide ((n : Int) ≤ x) = true := by rcases hx with hx | hx; · exact absurd hx h
                                                  · simpa using hx
    go_enter Tryd.func58, Tryd.ntmps58
    go_wp2
    go_ret
    exact ⟨rfl, rfl⟩
set_option maxRecDepth 100000 in
set_option maxHeartbeats 1000000 in
theorem acts_calls {w : World} {p : Nat} {a b c : Int} (h2 : w.cell? ⟨p, 2, none⟩ = some (.int .i64 a)) (h3 : w.cell? ⟨p, 3, none⟩ = some (.int .i64 b)) (h4 : w.cell? ⟨p, 4, none⟩ = some (.int .i64 c)) :
    Calls Tryd.prog 10 #[.pointer (some ⟨p, 0, none⟩)] w fun e w' => e = .returned (.agg #[.int .i64 a, .int .i64 b, .int .i64 c]) ∧ Below w.heap.size w w' := by
  have hp := World.block_lt_of_cell? w _ h2
  have hp' : p < w.heap.size := hp
  go_enter Tryd.func10, Tryd.ntmps10
  go_wp2
  exact bodyPost_ret (v := .agg #[.int .i64 a, .int .i64 b, .int .i64 c]) (by simp [results, Tryd.results10, go_sem]) rfl ⟨rfl, (Below.refl _ _).alloc (Nat.le_refl _) _⟩
set_option maxRecDepth 100000 in
set_option maxHeartbeats 1000000 in
theorem bytes_calls {w : World} {cs : List Value} :
    Calls Tryd.prog 59 #[.agg cs.toArray] w fun e w' => e = .returned (.slice (some ⟨w.heap.size, 0, none⟩) 512 512) ∧ w' = w.alloc (.cells cs.toArray 113) := by
  go_enter Tryd.func59, Tryd.ntmps59
  go_wp2
  go_ret
  exact ⟨rfl, rfl⟩
set_option maxRecDepth 100000 in
set_option maxHeartbeats 1000000 in
theorem new_bad {w : World} {n : Int} (h : n < 2 ∨ 65536 < n) :
    Calls Tryd.prog 5 #[.int .i64 n] w fun e w' => e = .returned (.tuple #[.pointer none, .int .i64 30]) ∧ w' = w := by
  by_cases h1 : n < 2
  · go_enter Tryd.func5, Tryd.ntmps5
    go_wp2
    go_ret2
    exact ⟨rfl, rfl⟩
  · have h2 : 65536 < n := by omega
    go_enter Tryd.func5, Tryd.ntmps5
    go_wp2
    go_ret2
    exact ⟨rfl, rfl⟩
def zeroD (n : Nat) : AD := ⟨List.replicate n zsec, fun _ => [], 0, 0, 0⟩
theorem zeroD_ok {n : Nat} (h2 : 2 ≤ n) (h6 : n ≤ 65536) : (zeroD n).Ok := by
  refine ⟨by simp [zeroD]; exact h2, by simp [zeroD]; exact h6, fun s hs => ?_, fun i s hs => by simp [zeroD] at hs, fun _ _ => rfl⟩
  rw [List.eq_of_mem_replicate hs]; exact zsec_is
theorem made_all (c : Value) (m n : Nat) (hm : 0 < m) : (madeCells (Value.agg (List.replicate m c).toArray).cells n).toList = List.replicate n c := by
  apply List.ext_getElem
  · simp [madeCells]
  · intro j h1 h2
    have hlt : j % m < m := Nat.mod_lt _ hm
    simp [madeCells, Value.cells, hlt]
theorem secV_zero (n : Nat) : secV (List.replicate n zsec) = List.replicate (n * 512) (.int .u8 0) := by
  unfold secV zsec u8V
  rw [List.map_replicate, List.map_replicate]
  generalize 512 = m
  induction n with
  | zero => simp
  | succ n ih => rw [List.replicate_succ, List.flatten_cons, ih, Nat.succ_mul, Nat.add_comm, List.replicate_append_replicate]
theorem infoS : (Tryd.prog.info? 113).map (fun i => (i.zero, i.size, i.bytes)) = some (some (.agg (List.replicate 512 (Value.int .u8 0)).toArray), 512, 512) := by kernel_rfl
theorem map_none (w : World) (g : Nat) (h : w.heap[g]? = some (.map #[] 0)) : w.ownsMap Tryd.prog 3 RV g 0 (.map []) := ⟨#[], 0, h, ⟨by simp, MapKept.stamped_empty 0, by simp⟩, Nat.le_refl _, rfl⟩
set_option maxRecDepth 100000 in
set_option maxHeartbeats 1000000 in
theorem new_calls {w : World} {n : Nat} (h2 : 2 ≤ n) (h6 : n ≤ 65536) :
    Calls Tryd.prog 5 #[.int .i64 (n : Int)] w fun e w' => ∃ p gl gm V, e = .returned (.tuple #[.pointer (some ⟨p, 0, none⟩), .int .i64 0]) ∧ Dk w' p gl gm V (zeroD n) ∧ w.heap.size ≤ p ∧ w.heap.size ≤ gl ∧ w.heap.size ≤ gm ∧ (∀ i, V i = .slice none 0 0) ∧ Below w.heap.size w w' := by
  have hmm := @run_makeMap Tryd.prog
  obtain ⟨i0, hi, hz0, hz1, hz2⟩ := info_parts infoS
  have hmade := made_all (.int .u8 0) 512 (n * 512) (by omega)
  rw [← secV_zero] at hmade
  have HM := hide hmade
  clear hmade
  have hd1 : decide ((n : Int) < 2) = false := by simp; omega
  have hd2 : decide (65536 < (n : Int)) = false := by simp; omega
  go_enter Tryd.func5, Tryd.ntmps5
  go_wp2_with (at_make; refine wpList_make_full _ rfl _ _ 54 rfl 0 113 i0 (.agg (List.replicate 512 (Value.int .u8 0)).toArray) 512 Tryd.underlying54 hi hz0 hz1 _ _ _ _ n rfl rfl rfl rfl (by rw [hz2]; omega) (by unfold maxLen; omega) (Nat.zero_le _) ?_; intro w1 hr1 hg1)
  rw [HM.out] at hr1
  have hsz := hg1.size
  have hb1 : Below w.heap.size w w1 := ⟨hg1.os, hg1.tape, hg1.output, hg1.size, fun k hk => hg1.block k hk (by simp)⟩
  have hlt1 : w.heap.size < w1.heap.size := (hr1.lt _ rfl).2
  have hm2 := heap_alloc_last w1 (.map #[] 0)
  have hbb : Below w1.heap.size w1 ((w1.alloc (Obj.map #[] 0)).alloc (Obj.cells #[Value.slice (some ⟨w.heap.size, 0, none⟩) n n, Value.map (some w1.heap.size), Value.int IntKind.i64 0, Value.int IntKind.i64 0, Value.int IntKind.i64 0] 57)) :=
    ((Below.refl _ _).alloc (Nat.le_refl _) _).alloc (by simp) _
  go_ret2
  refine ⟨w1.heap.size + 1, w.heap.size, w1.heap.size, fun _ => .slice none 0 0, rfl, ?_, by omega, Nat.le_refl _, by omega, fun _ => rfl, hb1.trans (hbb.mono (by omega))⟩
  have hlen : (zeroD n).la.length = n := by simp [zeroD]
  refine ⟨zeroD_ok h2 h6, ?_, ?_, ⟨.map [], ?_, ?_, ?_⟩, fun i => World.ownsRow_nil _ _ _ _, fun i j g h => (by cases h), fun i => (by simp [Value.ownBlock])⟩
  · rw [hlen]
    have := heap_alloc_last (w1.alloc (Obj.map #[] 0)) (Obj.cells #[Value.slice (some ⟨w.heap.size, 0, none⟩) n n, Value.map (some w1.heap.size), Value.int IntKind.i64 0, Value.int IntKind.i64 0, Value.int IntKind.i64 0] 57)
    rw [size_alloc] at this
    exact this
  · rw [hlen]; exact owns_below hr1 hbb
  · refine map_none _ _ ?_
    have h3 := Below.heap_alloc (w1.alloc (Obj.map #[] 0)) (Obj.cells #[Value.slice (some ⟨w.heap.size, 0, none⟩) n n, Value.map (some w1.heap.size), Value.int IntKind.i64 0, Value.int IntKind.i64 0, Value.int IntKind.i64 0] 57) w1.heap.size (by simp)
    exact h3.trans hm2
  · intro i
    exact ⟨rfl, rfl⟩
  · intro x hx
    simp [Maps.has] at hx
end Go.Proofs.YtlaipnjhddnpiaaDoor
