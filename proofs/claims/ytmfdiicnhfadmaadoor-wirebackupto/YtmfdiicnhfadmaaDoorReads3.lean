/- What reads answers of what was written: true. -/
import Derived.Test.YtmfdiicnhfadmaaDoorWritten
import Derived.Test.YtmfdiicnhfadmaaDoorReads
import Derived.Test.YtmfdiicnhfadmaaDoorBack
namespace Go.Proofs.YtmfdiicnhfadmaaDoor
open Go.RowKit

set_option maxRecDepth 100000 in
set_option maxHeartbeats 1000000 in
theorem reads_u {w : World} {va vb : Value} {AL : List Int} {A E : Int} {a0 : Option Addr} {n0 c0 : Nat} {N V : Int} (ha : IsB w va AL) (hr : rdU AL A = (V, E, 0)) :
    Calls Tryd.prog 18 #[va, .int .i64 A, .agg #[.slice a0 n0 c0, .int .i64 2, .int .i64 N, .int .u64 V], vb, .int .i64 E] w fun e w' => e = .returned (.bool true) ∧ Below w.heap.size w w' := by
  have HA := hide ha
  have HR := hide hr
  clear ha hr
  go_enter Tryd.func18, Tryd.ntmps18
  go_wp2_with fail
  have hb1 : Below w.heap.size w (w.alloc (.cells #[.slice a0 n0 c0, .int .i64 2, .int .i64 N, .int .u64 V] 39)) := (Below.refl _ _).alloc (Nat.le_refl _) _
  refine (ruint_e ((unhide HA).below hb1) (unhide HR)).mono ?_
  rintro e w1 ⟨rfl, hw1⟩
  obtain rfl := hw1.symm
  clear hw1
  go_wp2_with (go_at_call 20; refine (num_calls _ _).mono ?_; rintro e w' ⟨rfl, hw'⟩; obtain rfl := hw'.symm)
  go_ret
  exact ⟨rfl, hb1⟩

set_option maxRecDepth 100000 in
set_option maxHeartbeats 1000000 in
theorem reads_f {w : World} {va vb : Value} {AL : List Int} {A E : Int} {a0 : Option Addr} {n0 c0 : Nat} {N V : Int} (ha : IsB w va AL) (hr : rdF AL A N = (V, E, 0)) :
    Calls Tryd.prog 18 #[va, .int .i64 A, .agg #[.slice a0 n0 c0, .int .i64 4, .int .i64 N, .int .u64 V], vb, .int .i64 E] w fun e w' => e = .returned (.bool true) ∧ Below w.heap.size w w' := by
  have HA := hide ha
  have HR := hide hr
  clear ha hr
  go_enter Tryd.func18, Tryd.ntmps18
  go_wp2_with fail
  have hb1 : Below w.heap.size w (w.alloc (.cells #[.slice a0 n0 c0, .int .i64 4, .int .i64 N, .int .u64 V] 39)) := (Below.refl _ _).alloc (Nat.le_refl _) _
  refine (rfixed_e ((unhide HA).below hb1) (unhide HR)).mono ?_
  rintro e w1 ⟨rfl, hw1⟩
  obtain rfl := hw1.symm
  clear hw1
  go_wp2_with (go_at_call 20; refine (num_calls _ _).mono ?_; rintro e w' ⟨rfl, hw'⟩; obtain rfl := hw'.symm)
  go_ret
  exact ⟨rfl, hb1⟩

set_option maxRecDepth 100000 in
set_option maxHeartbeats 1000000 in
theorem reads_b {w : World} {va vb : Value} {AL xs : List Int} {A E : Int} {a0 : Option Addr} {n0 c0 : Nat} {N V : Int} (ha : IsB w va AL) (hb : IsB w vb xs) (hl : AL.length ≤ 140737488355328) (hN : N ≤ 9223372036854775807) (hr : rdB AL A N = (xs, E, 0)) (hr2 : rdB AL A 4611686018427387904 = (xs, E, 0)) :
    Calls Tryd.prog 18 #[va, .int .i64 A, .agg #[.slice a0 n0 c0, .int .i64 6, .int .i64 N, .int .u64 V], vb, .int .i64 E] w fun e w' => e = .returned (.bool true) ∧ Below w.heap.size w w' := by
  have HA := hide ha
  have HX := hide hb
  have HR := hide hr
  have HR2 := hide hr2
  have HL := hide hl
  clear ha hr hr2 hb hl
  go_enter Tryd.func18, Tryd.ntmps18
  go_wp2_with fail
  have hb1 : Below w.heap.size w (w.alloc (.cells #[.slice a0 n0 c0, .int .i64 6, .int .i64 N, .int .u64 V] 39)) := (Below.refl _ _).alloc (Nat.le_refl _) _
  refine (rbytes_e ((unhide HA).below hb1) (unhide HL) hN (unhide HR)).mono ?_
  rintro e w1 ⟨a1, n1, c1, rfl, hown1, hbb1⟩
  have hB1 : Below w.heap.size w w1 := hb1.trans (hbb1.mono hb1.size)
  clear hb1 hbb1
  go_wp2_with fail
  refine (rbytes_e ((unhide HA).below hB1) (unhide HL) (by decide) (unhide HR2)).mono ?_
  rintro e w2 ⟨a2, n2, c2, rfl, hown2, hbb2⟩
  have hB2 : Below w.heap.size w w2 := hB1.trans (hbb2.mono hB1.size)
  have hx2 := (unhide HX).below hB2
  have h1 : IsB w2 (.slice a1 n1 c1) xs := (isB_owns hown1 (unhide HX).mem).below hbb2
  have h2 : IsB w2 (.slice a2 n2 c2) xs := isB_owns hown2 (unhide HX).mem
  clear hown1 hown2 hbb2 hB1
  go_wp2_with fail
  refine (same_yes h1 hx2).mono ?_
  rintro e w3 ⟨rfl, hw3⟩
  obtain rfl := hw3.symm
  clear hw3
  go_wp2_with (go_at_call 20; refine (num_calls _ _).mono ?_; rintro e w' ⟨rfl, hw'⟩; obtain rfl := hw'.symm)
  refine (same_yes h2 hx2).mono ?_
  rintro e w3 ⟨rfl, hw3⟩
  obtain rfl := hw3.symm
  clear hw3
  go_wp2_with (go_at_call 20; refine (num_calls _ _).mono ?_; rintro e w' ⟨rfl, hw'⟩; obtain rfl := hw'.symm)
  go_ret
  exact ⟨rfl, hB2⟩
end Go.Proofs.YtmfdiicnhfadmaaDoor
