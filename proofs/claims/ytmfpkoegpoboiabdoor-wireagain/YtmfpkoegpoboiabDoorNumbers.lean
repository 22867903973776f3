/- What numbers answers of a call: true: wire's answer is the document's. -/
import Derived.Test.YtmfpkoegpoboiabDoorIsb
import Derived.Test.YtmfpkoegpoboiabDoorReads
import Derived.Test.YtmfpkoegpoboiabDoorRefF
import Derived.Test.YtmfpkoegpoboiabDoorRefRB
import Derived.Deep.RegionHeld3
import Derived.Deep.DrawnRows
namespace Go.Proofs.YtmfpkoegpoboiabDoor
open Go.RowKit

theorem below_step {w a b : World} (h1 : Below w.heap.size w a) (h2 : Below a.heap.size a b) : Below w.heap.size w b := h1.trans (h2.mono h1.size)
theorem refUint_sl {V : Int} (w : World) (h0 : 0 ≤ V) (h1 : V < 2 * 128 ^ 9) : Calls Tryd.prog 41 #[.int .u64 V] w fun e w' => ∃ a n c, e = .returned (.slice a n c) ∧ IsB w' (.slice a n c) (uBytes V) ∧ Below w.heap.size w w' := by
  refine (refUint_calls V w h0 h1).mono ?_
  rintro e w' ⟨v, rfl, hown, hb⟩
  have hi := isB_owns hown (uBytes_bytes h0 h1)
  obtain ⟨a, n, c, rfl⟩ := hi.shape
  exact ⟨a, n, c, rfl, hi, hb⟩
theorem refRUint_e {w : World} {v : Value} {xs : List Int} (h : IsB w v xs) {at_ a b c : Int} (hr : rdU xs at_ = (a, b, c)) :
    Calls Tryd.prog 45 #[v, .int .i64 at_] w fun e w' => e = .returned (.tuple #[.int .u64 a, .int .i64 b, .int .i64 c]) ∧ w' = w := by
  have := refRUint_calls h at_
  rwa [hr] at this
theorem refRFixed_e {w : World} {v : Value} {xs : List Int} (h : IsB w v xs) {at_ n a b c : Int} (hr : rdF xs at_ n = (a, b, c)) :
    Calls Tryd.prog 46 #[v, .int .i64 at_, .int .i64 n] w fun e w' => e = .returned (.tuple #[.int .u64 a, .int .i64 b, .int .i64 c]) ∧ w' = w := by
  have := refRFixed_calls h at_ n
  rwa [hr] at this

set_option maxRecDepth 100000 in
set_option maxHeartbeats 1000000 in
theorem numbers_ru {w : World} {a0 a1 : Option Addr} {n0 c0 n1 c1 : Nat} {xs : List Int} {A N V : Int} (hb : IsB w (.slice a0 n0 c0) xs) :
    Calls Tryd.prog 37 #[.agg #[.int .i64 2, .slice a0 n0 c0, .int .i64 A, .int .i64 N, .int .u64 V, .slice a1 n1 c1]] w fun e w' => e = .returned (.bool true) ∧ Below w.heap.size w w' := by
  obtain ⟨X, P, E, hr⟩ : ∃ X P E, rdU xs A = (X, P, E) := ⟨_, _, _, rfl⟩
  have HA := hide hb
  have HR := hide hr
  clear hb hr
  go_enter Tryd.func37, Tryd.ntmps37
  go_wp2_with fail
  have hb1 : Below w.heap.size w (w.alloc (.cells #[.int .i64 2, .slice a0 n0 c0, .int .i64 A, .int .i64 N, .int .u64 V, .slice a1 n1 c1] 56)) := (Below.refl _ _).alloc (Nat.le_refl _) _
  refine (ruint_e ((unhide HA).below hb1) (unhide HR)).mono ?_
  rintro e w1 ⟨rfl, hw1⟩
  obtain rfl := hw1.symm
  clear hw1
  go_wp2_with fail
  refine (refRUint_e ((unhide HA).below hb1) (unhide HR)).mono ?_
  rintro e w1 ⟨rfl, hw1⟩
  obtain rfl := hw1.symm
  clear hw1
  go_wp2_with (go_at_call 11; refine (num_calls _ _).mono ?_; rintro e w' ⟨rfl, hw'⟩; obtain rfl := hw'.symm)
  go_ret
  exact ⟨rfl, hb1⟩

set_option maxRecDepth 100000 in
set_option maxHeartbeats 1000000 in
theorem numbers_rf {w : World} {a0 a1 : Option Addr} {n0 c0 n1 c1 : Nat} {xs : List Int} {A N V : Int} (hb : IsB w (.slice a0 n0 c0) xs) :
    Calls Tryd.prog 37 #[.agg #[.int .i64 4, .slice a0 n0 c0, .int .i64 A, .int .i64 N, .int .u64 V, .slice a1 n1 c1]] w fun e w' => e = .returned (.bool true) ∧ Below w.heap.size w w' := by
  obtain ⟨X, P, E, hr⟩ : ∃ X P E, rdF xs A N = (X, P, E) := ⟨_, _, _, rfl⟩
  have HA := hide hb
  have HR := hide hr
  clear hb hr
  go_enter Tryd.func37, Tryd.ntmps37
  go_wp2_with fail
  have hb1 : Below w.heap.size w (w.alloc (.cells #[.int .i64 4, .slice a0 n0 c0, .int .i64 A, .int .i64 N, .int .u64 V, .slice a1 n1 c1] 56)) := (Below.refl _ _).alloc (Nat.le_refl _) _
  refine (rfixed_e ((unhide HA).below hb1) (unhide HR)).mono ?_
  rintro e w1 ⟨rfl, hw1⟩
  obtain rfl := hw1.symm
  clear hw1
  go_wp2_with fail
  refine (refRFixed_e ((unhide HA).below hb1) (unhide HR)).mono ?_
  rintro e w1 ⟨rfl, hw1⟩
  obtain rfl := hw1.symm
  clear hw1
  go_wp2_with (go_at_call 11; refine (num_calls _ _).mono ?_; rintro e w' ⟨rfl, hw'⟩; obtain rfl := hw'.symm)
  go_ret
  exact ⟨rfl, hb1⟩

set_option maxRecDepth 100000 in
set_option maxHeartbeats 2000000 in
theorem numbers_u {w : World} {a0 a1 : Option Addr} {n0 c0 n1 c1 : Nat} {A N V : Int} (h0 : 0 ≤ V) (h1 : V ≤ 18446744073709551615) :
    Calls Tryd.prog 37 #[.agg #[.int .i64 1, .slice a0 n0 c0, .int .i64 A, .int .i64 N, .int .u64 V, .slice a1 n1 c1]] w fun e w' => e = .returned (.bool true) ∧ Below w.heap.size w w' := by
  have HV := hide (top9 h1)
  go_enter Tryd.func37, Tryd.ntmps37
  go_wp2_with fail
  have hbw : Below w.heap.size w (w.alloc (.cells #[.int .i64 1, .slice a0 n0 c0, .int .i64 A, .int .i64 N, .int .u64 V, .slice a1 n1 c1] 56)) := (Below.refl _ _).alloc (Nat.le_refl _) _
  have hcv : (w.alloc (.cells #[.int .i64 1, .slice a0 n0 c0, .int .i64 A, .int .i64 N, .int .u64 V, .slice a1 n1 c1] 56)).cell? ⟨w.heap.size, 4, none⟩ = some (.int .u64 V) := by
    rw [cell_of_row _ w.heap.size 4 #[.int .i64 1, .slice a0 n0 c0, .int .i64 A, .int .i64 N, .int .u64 V, .slice a1 n1 c1] 56 (0, 0) (heap_alloc_new w _)]; rfl
  generalize hw0 : w.alloc (.cells #[.int .i64 1, .slice a0 n0 c0, .int .i64 A, .int .i64 N, .int .u64 V, .slice a1 n1 c1] 56) = w0 at *
  clear hw0
  have hcS : ∀ W, Below w0.heap.size w0 W → (Below w0.heap.size w0 W ∧ W.cell? ⟨w.heap.size, 4, none⟩ = some (.int .u64 V)) := fun W hW => ⟨hW, (hW.cell (World.block_lt_of_cell? w0 _ hcv)).trans hcv⟩
  have HCS := hide hcS
  clear hcS hcv
  go_region_held3 (fun W => Below w0.heap.size w0 W ∧ W.cell? ⟨w.heap.size, 4, none⟩ = some (.int .u64 V))
    ((refine unhide HCS _ ?_; repeat (first | assumption | exact Below.refl _ _ | refine Below.drew ?_)))
    (first
      | (go_at_call 30; refine (uint_sl _ h0 (unhide HV)).mono ?_; rintro e w1 ⟨x1, y1, z1, rfl, hI1, hb1⟩; have hB1 : Below w0.heap.size w0 w1 := (by first | exact hb1 | exact below_drew hb1))
      | (go_at_call 41; refine (refUint_sl _ h0 (unhide HV)).mono ?_; rintro e w2 ⟨x2, y2, z2, rfl, hI2, hb2⟩; have hb2' : Below w1.heap.size w1 w2 := (by first | exact hb2 | exact below_drew hb2); have hB2 := below_step hB1 hb2')
      | (go_at_call 23; refine (same_yes (IsB.below (IsB.below hI1 hb2') (by repeat (first | assumption | exact Below.refl _ _ | refine Below.drew ?_))) (IsB.below hI2 (by repeat (first | assumption | exact Below.refl _ _ | refine Below.drew ?_)))).mono ?_; rintro e w3 ⟨rfl, hw3⟩; obtain rfl := hw3.symm))
  go_wp2
  go_ret
  refine ⟨rfl, below_step hbw ?_⟩
  repeat (first | assumption | exact Below.refl _ _ | refine Below.drew ?_)

/- Fixed: wire's and the document's answers of every number and width. -/
def fxB (V N : Int) : List Int := if N < 1 ∨ 8 < N then [] else if V / 2 ^ (8 * N.toNat) != 0 then [] else fB V N.toNat
def fxE (V N : Int) : Int := if N < 1 ∨ 8 < N then 1 else if V / 2 ^ (8 * N.toNat) != 0 then 12 else 0
theorem isB_none (w : World) : IsB w (.slice none 0 0) [] := ⟨by simp, none, 0, rfl, by simp, by omega, fun _ => rfl, fun h => by simp at h⟩
theorem fixed_all {V N : Int} (w : World) (h0 : 0 ≤ V) : Calls Tryd.prog 31 #[.int .u64 V, .int .i64 N] w fun e w' => ∃ a n c, e = .returned (.tuple #[.slice a n c, .int .i64 (fxE V N)]) ∧ IsB w' (.slice a n c) (fxB V N) ∧ Below w.heap.size w w' := by
  unfold fxE fxB
  by_cases hn : N < 1 ∨ 8 < N
  · rw [if_pos hn, if_pos hn]
    refine (fixed_arg V N w hn).mono ?_
    rintro e w' ⟨rfl, rfl⟩
    exact ⟨_, _, _, rfl, isB_none _, Below.refl _ _⟩
  · rw [if_neg hn, if_neg hn]
    obtain ⟨n, rfl⟩ := Int.eq_ofNat_of_zero_le (show 0 ≤ N by omega)
    rw [Int.toNat_natCast]
    by_cases hv : (V / 2 ^ (8 * n) != 0) = true
    · rw [if_pos hv, if_pos hv]
      refine (fixed_wide V n w h0 (by omega) (by omega) hv).mono ?_
      rintro e w' ⟨rfl, rfl⟩
      exact ⟨_, _, _, rfl, isB_none _, Below.refl _ _⟩
    · rw [if_neg hv, if_neg hv]
      exact fixed_sl w h0 (by omega) (by omega) (by simpa using hv)
theorem refFixed_all {V N : Int} (w : World) (h0 : 0 ≤ V) (h1 : V ≤ 18446744073709551615) : Calls Tryd.prog 39 #[.int .u64 V, .int .i64 N] w fun e w' => ∃ a n c, e = .returned (.tuple #[.slice a n c, .int .i64 (fxE V N)]) ∧ IsB w' (.slice a n c) (fxB V N) ∧ Below w.heap.size w w' := by
  unfold fxE fxB
  by_cases hn : N < 1 ∨ 8 < N
  · rw [if_pos hn, if_pos hn]
    refine (refFixed_arg V N w hn).mono ?_
    rintro e w' ⟨rfl, rfl⟩
    exact ⟨_, _, _, rfl, isB_none _, Below.refl _ _⟩
  · rw [if_neg hn, if_neg hn]
    obtain ⟨n, rfl⟩ := Int.eq_ofNat_of_zero_le (show 0 ≤ N by omega)
    rw [Int.toNat_natCast]
    refine (refFixed_in V n w h0 h1 (by omega) (by omega)).mono ?_
    rintro e w' ⟨⟨hv, rfl⟩ | ⟨hv, v, rfl, hown⟩, hb⟩
    · rw [if_pos hv, if_pos hv]
      exact ⟨_, _, _, rfl, isB_none _, hb⟩
    · rw [if_neg (by rw [hv]; simp), if_neg (by rw [hv]; simp)]
      have hi := isB_owns hown (fB_bytes V n)
      obtain ⟨a, m, c, rfl⟩ := hi.shape
      exact ⟨a, m, c, rfl, hi, hb⟩

set_option maxRecDepth 100000 in
set_option maxHeartbeats 1000000 in
theorem numbers_f {w : World} {a0 a1 : Option Addr} {n0 c0 n1 c1 : Nat} {A N V : Int} (h0 : 0 ≤ V) (h1 : V ≤ 18446744073709551615) :
    Calls Tryd.prog 37 #[.agg #[.int .i64 3, .slice a0 n0 c0, .int .i64 A, .int .i64 N, .int .u64 V, .slice a1 n1 c1]] w fun e w' => e = .returned (.bool true) ∧ Below w.heap.size w w' := by
  obtain ⟨E, hE⟩ : ∃ E, E = fxE V N := ⟨_, rfl⟩
  have H1 := hide (fun w => fixed_all (V := V) (N := N) w h0)
  have H2 := hide (fun w => refFixed_all (V := V) (N := N) w h0 h1)
  rw [← hE] at H1 H2
  clear hE
  go_enter Tryd.func37, Tryd.ntmps37
  go_wp2_with fail
  have hbw : Below w.heap.size w (w.alloc (.cells #[.int .i64 3, .slice a0 n0 c0, .int .i64 A, .int .i64 N, .int .u64 V, .slice a1 n1 c1] 56)) := (Below.refl _ _).alloc (Nat.le_refl _) _
  have hc : ∀ f, f < 6 → (w.alloc (.cells #[.int .i64 3, .slice a0 n0 c0, .int .i64 A, .int .i64 N, .int .u64 V, .slice a1 n1 c1] 56)).cell? ⟨w.heap.size, f, none⟩ = #[Value.int .i64 3, .slice a0 n0 c0, .int .i64 A, .int .i64 N, .int .u64 V, .slice a1 n1 c1][f]? := fun f _ => cell_of_row _ w.heap.size f #[.int .i64 3, .slice a0 n0 c0, .int .i64 A, .int .i64 N, .int .u64 V, .slice a1 n1 c1] 56 (0, 0) (heap_alloc_new w _)
  have hc3 := hc 3 (by decide)
  have hc4 := hc 4 (by decide)
  refine (unhide H1 _).mono ?_
  rintro e w1 ⟨x1, y1, z1, rfl, hI1, hb1⟩
  have hd3 : w1.cell? ⟨w.heap.size, 3, none⟩ = some (.int .i64 N) := (hb1.cell (World.block_lt_of_cell? _ _ hc3)).trans hc3
  have hd4 : w1.cell? ⟨w.heap.size, 4, none⟩ = some (.int .u64 V) := (hb1.cell (World.block_lt_of_cell? _ _ hc4)).trans hc4
  have hB1 := below_step hbw hb1
  clear hc hc3 hc4 hbw hb1
  go_wp2_with fail
  refine (unhide H2 _).mono ?_
  rintro e w2 ⟨x2, y2, z2, rfl, hI2, hb2⟩
  have hI1' := hI1.below hb2
  have hB2 := below_step hB1 hb2
  clear hd3 hd4 hB1 hb2 hI1
  go_wp2_with fail
  refine (same_yes hI1' hI2).mono ?_
  rintro e w3 ⟨rfl, hw3⟩
  obtain rfl := hw3.symm
  clear hw3
  go_wp2_with (go_at_call 11; refine (num_calls _ _).mono ?_; rintro e w' ⟨rfl, hw'⟩; obtain rfl := hw'.symm)
  go_ret
  exact ⟨rfl, hB2⟩

/-- numbers, of every call of its kinds. -/
theorem numbers_calls {w : World} {vb vp : Value} {xs : List Int} {K A N V : Int} (hK : K = 1 ∨ K = 2 ∨ K = 3 ∨ K = 4) (hb : IsB w vb xs) (hp : ∃ a n c, vp = .slice a n c) (h0 : 0 ≤ V) (h1 : V ≤ 18446744073709551615) :
    Calls Tryd.prog 37 #[.agg #[.int .i64 K, vb, .int .i64 A, .int .i64 N, .int .u64 V, vp]] w fun e w' => e = .returned (.bool true) ∧ Below w.heap.size w w' := by
  obtain ⟨a1, n1, c1, rfl⟩ := hp
  obtain ⟨a0, n0, c0, rfl⟩ := hb.shape
  rcases hK with rfl | rfl | rfl | rfl
  · exact numbers_u h0 h1
  · exact numbers_ru hb
  · exact numbers_f h0 h1
  · exact numbers_rf hb
end Go.Proofs.YtmfpkoegpoboiabDoor
