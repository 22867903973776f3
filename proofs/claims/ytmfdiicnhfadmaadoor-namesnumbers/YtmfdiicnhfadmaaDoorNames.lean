/- NamesNumbers' walk: the words of an Errno; the two tables of numbers. -/
import Derived.Test.YtmfdiicnhfadmaaDoorProg
import Derived.Test.YtmfdiicnhfadmaaDoorPlain
import Derived.Test.YtmfdiicnhfadmaaDoorBs
import Derived.WalkKit
import Derived.WalkSpells
import Derived.WalkLawsBesides
namespace Go.Proofs.YtmfdiicnhfadmaaDoor
open Go.RowKit

set_option maxRecDepth 100000 in
set_option maxHeartbeats 400000 in
theorem small_83 (w : World) : Calls Tryd.prog 37 #[.int .i64 83] w fun e w' => e = .returned (.string ⟨#[56, 51]⟩) ∧ w' = w := by
  go_enter Tryd.func37, Tryd.ntmps37
  go_wp2
  go_ret
  exact ⟨by kernel_rfl, rfl⟩

set_option maxRecDepth 100000 in
set_option maxHeartbeats 400000 in
theorem itoa_83 (w : World) : Calls Tryd.prog 27 #[.int .i64 83] w fun e w' => e = .returned (.string ⟨#[56, 51]⟩) ∧ w' = w := by
  go_enter Tryd.func27, Tryd.ntmps27
  go_wp2_with (first | (go_at_call 37; refine (small_83 _).mono ?_; rintro e w' ⟨rfl, hw'⟩; obtain rfl := hw'.symm) | go_in)
  go_ret
  exact ⟨rfl, rfl⟩

set_option maxRecDepth 100000 in
set_option maxHeartbeats 400000 in
theorem len64_5 (w : World) : Calls Tryd.prog 49 #[.int .u64 5] w fun e w' => e = .returned (.int .i64 3) ∧ w' = w := by
  go_enter Tryd.func49, Tryd.ntmps49
  go_wp2
  go_ret
  exact ⟨by kernel_rfl, rfl⟩

set_option maxRecDepth 100000 in
set_option maxHeartbeats 400000 in
theorem log_3 (w : World) : Calls Tryd.prog 48 #[.int .i64 3] w fun e w' => e = .returned (.int .i64 0) ∧ w' = w := by
  go_enter Tryd.func48, Tryd.ntmps48
  go_wp2
  go_ret
  exact ⟨by kernel_rfl, rfl⟩

set_option maxRecDepth 100000 in
set_option maxHeartbeats 400000 in
theorem digits_5 (w : World) (hp : w.cell? ⟨1, 0, none⟩ = some (.int .u64 1)) : Calls Tryd.prog 38 #[.int .u64 5] w fun e w' => e = .returned (.int .i64 1) ∧ w' = w := by
  go_enter Tryd.func38, Tryd.ntmps38
  go_wp2_with (first | (go_at_call 49; refine (len64_5 _).mono ?_; rintro e w' ⟨rfl, hw'⟩; obtain rfl := hw'.symm) | (go_at_call 48; refine (log_3 _).mono ?_; rintro e w' ⟨rfl, hw'⟩; obtain rfl := hw'.symm) | go_in)
  go_ret
  exact ⟨rfl, rfl⟩

set_option maxRecDepth 100000 in
set_option maxHeartbeats 400000 in
theorem base10_5 (w : World) (b : Nat) (v : Value) (hc : w.cell? ⟨b, 1, none⟩ = some v) (hf : w.frozen? ⟨b, 1, none⟩ = false) :
    Calls Tryd.prog 39 #[.slice (some ⟨b, 1, none⟩) 1 23, .int .u64 5] w fun e w' => e = .returned (.tuple #[]) ∧ w' = w.setCell ⟨b, 1, none⟩ (.int .u8 53) := by
  go_enter Tryd.func39, Tryd.ntmps39
  go_wp2
  refine wp_loop_rounds 1 ?_
  rw [rounds_succ]
  go_wp2
  go_end0
  exact ⟨rfl, rfl⟩

set_option maxRecDepth 100000 in
set_option maxHeartbeats 400000 in
theorem itoa_5 (w : World) (hp : w.cell? ⟨1, 0, none⟩ = some (.int .u64 1)) : Calls Tryd.prog 27 #[.int .i64 (-5)] w fun e w' => e = .returned (.string ⟨#[45, 53]⟩) ∧ Below w.heap.size w w' := by
  have hneg : IntKind.u64.wrap (-IntKind.u64.wrap (-5)) = 5 := by decide
  have hib : IsB (w.alloc (.cells #[.int .u8 45, .int .u8 53, .int .u8 0, .int .u8 0, .int .u8 0, .int .u8 0, .int .u8 0, .int .u8 0, .int .u8 0, .int .u8 0, .int .u8 0, .int .u8 0, .int .u8 0, .int .u8 0, .int .u8 0, .int .u8 0, .int .u8 0, .int .u8 0, .int .u8 0, .int .u8 0, .int .u8 0, .int .u8 0, .int .u8 0, .int .u8 0] 63)) (.slice (some ⟨w.heap.size, 0, none⟩) 2 24) [45, 53] := by
    refine ⟨bytes_mem (by decide), _, _, rfl, by decide, by decide, (fun h => by cases h), fun _ => ⟨w.heap.size, 0, rfl, fun j hj => ?_⟩⟩
    rw [cell_of_row _ w.heap.size (0 + j) _ 63 (0, 0) (heap_alloc_new w _)]
    match j, hj with
    | 0, _ => rfl
    | 1, _ => rfl
  have hcv := conv_isB hib
  have hms : mkS [45, 53] = ⟨#[45, 53]⟩ := by kernel_rfl
  rw [hms] at hcv
  clear hib hms
  go_enter Tryd.func27, Tryd.ntmps27
  go_wp2_with (first | (go_at_call 38; fail) | (go_at_call 31; go_in) | (go_at_call 34; go_in))
  refine (digits_5 _ ?_).mono ?_
  · exact (((Below.refl _ _).alloc (Nat.le_refl _) _).cell (World.block_lt_of_cell? w _ hp)).trans hp
  rintro e w1 ⟨rfl, hw1⟩
  obtain rfl := hw1.symm
  clear hw1
  go_wp2_with fail
  refine (base10_5 _ _ (.int .u8 0) ?_ ?_).mono ?_
  · simp
  · simp
  rintro e w2 ⟨rfl, hw2⟩
  obtain rfl := hw2.symm
  clear hw2
  go_wp2
  go_ret
  exact ⟨rfl, (Below.refl _ _).alloc (Nat.le_refl _) _⟩

set_option maxRecDepth 100000 in
set_option maxHeartbeats 400000 in
theorem error_83 (w : World) : Calls Tryd.prog 12 #[.int .i64 83] w fun e w' => e = .returned (.string ⟨#[101, 114, 114, 111, 114, 32, 56, 51]⟩) ∧ w' = w := by
  go_enter Tryd.func12, Tryd.ntmps12
  go_wp2_with (go_at_call 27; refine (itoa_83 _).mono ?_; rintro e w' ⟨rfl, hw'⟩; obtain rfl := hw'.symm)
  go_ret
  exact ⟨by kernel_rfl, rfl⟩

set_option maxRecDepth 100000 in
set_option maxHeartbeats 400000 in
theorem error_5 (w : World) (hp : w.cell? ⟨1, 0, none⟩ = some (.int .u64 1)) : Calls Tryd.prog 12 #[.int .i64 (-5)] w fun e w' => e = .returned (.string ⟨#[101, 114, 114, 111, 114, 32, 45, 53]⟩) ∧ Below w.heap.size w w' := by
  go_enter Tryd.func12, Tryd.ntmps12
  go_wp2_with (go_at_call 27; refine (itoa_5 _ hp).mono ?_; rintro e w' ⟨rfl, hw'⟩)
  go_ret
  exact ⟨by kernel_rfl, hw'⟩

/-- A list of pairs, each of two like numbers. -/
def Pairs (w : World) (g n : Nat) : Prop := ∀ j, j < n → ∃ c, w.cell? ⟨g, j * 2, none⟩ = some (.int .i64 c) ∧ w.cell? ⟨g, j * 2 + 1, none⟩ = some (.int .i64 c)
theorem Pairs.below {w w' : World} {g n : Nat} (h : Pairs w g n) (hb : Below w.heap.size w w') : Pairs w' g n := by
  intro j hj
  obtain ⟨c, h1, h2⟩ := h j hj
  exact ⟨c, (hb.cell (p := ⟨g, j * 2, none⟩) (World.block_lt_of_cell? w _ h1)).trans h1, (hb.cell (p := ⟨g, j * 2 + 1, none⟩) (World.block_lt_of_cell? w _ h2)).trans h2⟩
def twice (l : List Int) : List Value := l.flatMap fun c => [.int .i64 c, .int .i64 c]
theorem twice_at (l : List Int) (j : Nat) (hj : j < l.length) : (twice l)[j * 2]? = some (.int .i64 l[j]) ∧ (twice l)[j * 2 + 1]? = some (.int .i64 l[j]) := by
  induction l generalizing j with
  | nil => simp at hj
  | cons a t ih =>
    have e : twice (a :: t) = .int .i64 a :: .int .i64 a :: twice t := by simp [twice]
    rw [e]
    cases j with
    | zero => simp
    | succ i =>
      have := ih i (by simpa using hj)
      rw [show (i + 1) * 2 = i * 2 + 1 + 1 by omega]
      simpa using this
theorem pairs_lit (w : World) (l : List Int) (cs : Array Value) (t : TypeId) (n : Nat) (hn : n = l.length) (hcs : cs = (twice l).toArray) : Pairs (w.alloc (.cells cs t)) w.heap.size n := by
  subst hcs hn
  intro j hj
  have h := twice_at l j hj
  refine ⟨l[j], ?_, ?_⟩
  · rw [cell_of_row _ w.heap.size (j * 2) _ t (0, 0) (heap_alloc_new w _)]; simpa using h.1
  · rw [cell_of_row _ w.heap.size (j * 2 + 1) _ t (0, 0) (heap_alloc_new w _)]; simpa using h.2


/-- A slice literal of many elements: the law at the operation. -/
theorem wpList_buildSlice {P : Program} {w w' : World} {ops : Array Oper} {rest : List Oper} {o : Oper} {a : Act} {Q : Exit → Act → World → Prop} (hg : o.guard = none) (t : TypeId) (n : Nat) (parts : Array (Nat × Operand)) (hop : o.op = Op.buildSlice t n parts)
    (v : Value) (hrun : (Instr.buildSlice t n (parts.map fun (i, x) => (i, a.eval x))).run P w = .ok v w') (hK : wpList P ops Q rest (a.put o.dst v) w') : wpList P ops Q (o :: rest) a w := by
  refine wpList_plain hg fun K hK' => ?_
  unfold Oper.wp
  simp [execOp, hop, hrun, Result.andThen]
  exact hK' _ _ hK
end Go.Proofs.YtmfdiicnhfadmaaDoor
