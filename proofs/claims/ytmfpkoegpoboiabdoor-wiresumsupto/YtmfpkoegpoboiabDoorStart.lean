/- started: a number is written and read, both ways; a sum: it answers true. -/
import Derived.Test.YtmfpkoegpoboiabDoorRUint
import Derived.Test.YtmfpkoegpoboiabDoorRFixed
import Derived.Test.YtmfpkoegpoboiabDoorFixed
import Derived.Test.YtmfpkoegpoboiabDoorSum
namespace Go.Proofs.YtmfpkoegpoboiabDoor
open Go.RowKit

/-- A literal's bytes lie in a new block. -/
theorem isB_lit (w : World) (xs : List Int) (cs : Array Value) (hcs : cs = (xs.map (Value.int .u8)).toArray) (n : Nat) (hn : n = xs.length) (hl : xs.length ≤ 9223372036854775807) (hb : ∀ x ∈ xs, 0 ≤ x ∧ x ≤ 255) :
    IsB (w.alloc (.cells cs 5)) (.slice (some ⟨w.heap.size, 0, none⟩) n n) xs := by
  subst hn hcs
  exact isB_owns (base := w.heap.size) (n := xs.length) (by simpa using World.ownsRow_lit (base := w.heap.size) (e := 5) (size := 1) w (xs.map (Value.int .u8)).toArray xs.length (Nat.le_refl _) (by simpa [maxLen] using hl) (by simp)) hb

/-- Slices of bytes, laid into a new block. -/
theorem isBB_lit (w : World) (vs : List Value) (xss : List (List Int)) (cs : Array Value) (hcs : cs = vs.toArray) (n : Nat) (hn : n = xss.length) (hl : vs.length = xss.length) (hm : n ≤ 9223372036854775807)
    (h : ∀ j, j < xss.length → IsB w (vs.getD j (.bool false)) (xss.getD j [])) : IsBB (w.alloc (.cells cs 23)) (.slice (some ⟨w.heap.size, 0, none⟩) n n) xss := by
  subst hn hcs
  have hb : Below w.heap.size w (w.alloc (.cells vs.toArray 23)) := (Below.refl _ _).alloc (Nat.le_refl _) _
  refine ⟨_, _, rfl, Nat.le_refl _, hm, fun _ => ⟨w.heap.size, 0, rfl, fun j hj => ⟨vs.getD j (.bool false), ?_, (h j hj).below hb⟩⟩⟩
  rw [cell_of_row _ w.heap.size (0 + j) vs.toArray 23 (0, 0) (heap_alloc_new w _)]
  simp [hl, hj]

theorem ruint_300 {w : World} {v : Value} (h : IsB w v [9, 172, 2]) : Calls Tryd.prog 10 #[v, .int .i64 1] w fun e w' =>
    e = .returned (.tuple #[.int .u64 300, .int .i64 3, .int .i64 0]) ∧ w' = w := by
  have := ruint_calls h 1
  rwa [show rdU [9, 172, 2] 1 = (300, 3, 0) by decide +kernel] at this
theorem rfixed_300 {w : World} {v : Value} (h : IsB w v [9, 44, 1]) : Calls Tryd.prog 12 #[v, .int .i64 1, .int .i64 2] w fun e w' =>
    e = .returned (.tuple #[.int .u64 300, .int .i64 3, .int .i64 0]) ∧ w' = w := by
  have := rfixed_calls h 1 2
  rwa [show rdF [9, 44, 1] 1 2 = (300, 3, 0) by decide +kernel] at this
theorem fixed_300 (w : World) : Calls Tryd.prog 31 #[.int .u64 300, .int .i64 2] w fun e w' => ∃ v, e = .returned (.tuple #[v, .int .i64 0]) ∧ IsB w' v [44, 1] ∧ Below w.heap.size w w' := by
  refine (fixed_in 300 2 w (by decide) (by decide) (by decide) (by decide +kernel)).mono ?_
  rintro e w' ⟨v, rfl, hown, hb⟩
  rw [show fB 300 2 = [44, 1] by decide +kernel] at hown
  exact ⟨v, rfl, isB_owns hown (by decide), hb⟩
theorem uint_300 (w : World) : Calls Tryd.prog 30 #[.int .u64 300] w fun e w' => ∃ v, e = .returned v ∧ IsB w' v [172, 2] ∧ Below w.heap.size w w' := by
  refine (uint_calls 300 w (by decide) (by decide +kernel)).mono ?_
  rintro e w' ⟨v, rfl, hown, hb⟩
  rw [show uBytes 300 = [172, 2] by decide +kernel] at hown
  exact ⟨v, rfl, isB_owns hown (by decide), hb⟩
theorem sum_a {w : World} {v : Value} (h : IsBB w v [[97]]) (ht : Tab w) : Calls Tryd.prog 15 #[v] w fun e w' => e = .returned (.int .u32 3904355907) ∧ w' = w := by
  have := sum_calls h ht
  rwa [show sumOf [[97]] = 3904355907 by decide +kernel] at this
theorem same_yes {w : World} {va vb : Value} {xs : List Int} (ha : IsB w va xs) (hb : IsB w vb xs) :
    Calls Tryd.prog 23 #[va, vb] w fun e w' => e = .returned (.bool true) ∧ w' = w := by
  have := same_calls ha hb
  rwa [decide_eq_true rfl] at this

set_option maxHeartbeats 400000 in
theorem started_calls (w : World) (ht : Tab w) : Calls Tryd.prog 14 #[] w fun e w' => e = .returned (.bool true) ∧ Below w.heap.size w w' := by
  have HT := hide ht
  clear ht
  go_enter Tryd.func14, Tryd.ntmps14
  go_wp2_with fail
  have hb1 : IsB (w.alloc (.cells #[.int .u8 9, .int .u8 172, .int .u8 2] 5)) (.slice (some ⟨w.heap.size, 0, none⟩) 3 3) [9, 172, 2] := isB_lit w [9, 172, 2] _ rfl 3 rfl (by decide) (by decide)
  refine (ruint_300 hb1).mono ?_
  rintro e w1 ⟨rfl, hw1⟩
  have hbel1 : Below w.heap.size w w1 := by rw [hw1]; exact (Below.refl _ _).alloc (Nat.le_refl _) _
  clear hb1 hw1
  go_wp2_with fail
  have hb2 : IsB (w1.alloc (.cells #[.int .u8 9, .int .u8 44, .int .u8 1] 5)) (.slice (some ⟨w1.heap.size, 0, none⟩) 3 3) [9, 44, 1] := isB_lit w1 [9, 44, 1] _ rfl 3 rfl (by decide) (by decide)
  refine (rfixed_300 hb2).mono ?_
  rintro e w2 ⟨rfl, hw2⟩
  have hbel2 : Below w.heap.size w w2 := by rw [hw2]; exact hbel1.alloc hbel1.size _
  clear hb2 hw2 hbel1
  go_wp2_with fail
  refine (fixed_300 _).mono ?_
  rintro e w3 ⟨v3, rfl, hb3, hw3⟩
  have hbel3 : Below w.heap.size w w3 := hbel2.trans (hw3.mono hbel2.size)
  clear hw3 hbel2
  go_wp2_with (go_at_call 11; refine (num_calls _ _).mono ?_; rintro e w' ⟨rfl, hw'⟩; obtain rfl := hw'.symm)
  have hn4 : Below w3.heap.size w3 (w3.alloc (.cells #[.int .u8 44, .int .u8 1] 5)) := (Below.refl _ _).alloc (Nat.le_refl _) _
  have hb4 : IsB (w3.alloc (.cells #[.int .u8 44, .int .u8 1] 5)) (.slice (some ⟨w3.heap.size, 0, none⟩) 2 2) [44, 1] := isB_lit w3 [44, 1] _ rfl 2 rfl (by decide) (by decide)
  refine (same_yes (hb3.below hn4) hb4).mono ?_
  rintro e w4 ⟨rfl, hw4⟩
  have hbel4 : Below w.heap.size w w4 := by rw [hw4]; exact hbel3.trans (hn4.mono hbel3.size)
  clear hb4 hw4 hbel3 hb3 hn4
  go_wp2_with (go_at_call 11; refine (num_calls _ _).mono ?_; rintro e w' ⟨rfl, hw'⟩; obtain rfl := hw'.symm)
  refine (uint_300 _).mono ?_
  rintro e w5 ⟨v5, rfl, hb5, hw5⟩
  have hbel5 : Below w.heap.size w w5 := hbel4.trans (hw5.mono hbel4.size)
  clear hw5 hbel4
  go_wp2_with fail
  have hn6 : Below w5.heap.size w5 (w5.alloc (.cells #[.int .u8 172, .int .u8 2] 5)) := (Below.refl _ _).alloc (Nat.le_refl _) _
  have hb6 : IsB (w5.alloc (.cells #[.int .u8 172, .int .u8 2] 5)) (.slice (some ⟨w5.heap.size, 0, none⟩) 2 2) [172, 2] := isB_lit w5 [172, 2] _ rfl 2 rfl (by decide) (by decide)
  refine (same_yes (hb5.below hn6) hb6).mono ?_
  rintro e w6 ⟨rfl, hw6⟩
  have hbel6 : Below w.heap.size w w6 := by rw [hw6]; exact hbel5.trans (hn6.mono hbel5.size)
  clear hb6 hw6 hbel5 hb5 hn6
  go_wp2_with fail
  have hn7 : Below w6.heap.size w6 (w6.alloc (.cells #[.int .u8 97] 5)) := (Below.refl _ _).alloc (Nat.le_refl _) _
  have hb7 : IsB (w6.alloc (.cells #[.int .u8 97] 5)) (.slice (some ⟨w6.heap.size, 0, none⟩) 1 1) [97] := isB_lit w6 [97] _ rfl 1 rfl (by decide) (by decide)
  have hb8 := isBB_lit (w6.alloc (.cells #[.int .u8 97] 5)) [.slice (some ⟨w6.heap.size, 0, none⟩) 1 1] [[97]] _ rfl 1 rfl rfl (by decide) (fun j hj => by
    obtain rfl : j = 0 := by simp at hj; exact hj
    exact hb7)
  have hn8 := hn7.alloc hn7.size (.cells #[.slice (some ⟨w6.heap.size, 0, none⟩) 1 1] 23)
  have ht8 := ((unhide HT).below hbel6).below hn8
  rw [World.size_alloc] at hb8
  refine (sum_a hb8 ht8).mono ?_
  rintro e w9 ⟨rfl, hw9⟩
  have hbel9 : Below w.heap.size w w9 := by rw [hw9]; exact hbel6.trans (hn8.mono hbel6.size)
  clear hn7 hb7 hb8 hn8 ht8 hw9 hbel6
  go_wp2
  go_ret
  exact ⟨rfl, hbel9⟩
end Go.Proofs.YtmfpkoegpoboiabDoor
