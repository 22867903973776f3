/- What strings and answered answer of a call: true: wire's answer is the document's. -/
import Derived.Test.YtmfpkoegpoboiabDoorNumbers
import Derived.Test.YtmfpkoegpoboiabDoorRefSum
import Derived.Test.YtmfpkoegpoboiabDoorJoin
namespace Go.Proofs.YtmfpkoegpoboiabDoor
open Go.RowKit

theorem refBytes_sl {w : World} {v : Value} {xs : List Int} (h : IsB w v xs) (hl : xs.length ≤ 140737488351232) :
    Calls Tryd.prog 42 #[v] w fun e w' => ∃ a n c, e = .returned (.slice a n c) ∧ IsB w' (.slice a n c) (bB xs) ∧ Below w.heap.size w w' := by
  refine (refBytes_calls h hl).mono ?_
  rintro e w' ⟨v, rfl, hown, hb⟩
  have hi := isB_owns hown (bB_bytes (by omega) h.mem)
  obtain ⟨a, n, c, rfl⟩ := hi.shape
  exact ⟨a, n, c, rfl, hi, hb⟩
theorem rdB_mem {xs : List Int} (h : ∀ x ∈ xs, 0 ≤ x ∧ x ≤ 255) (A N : Int) : ∀ x ∈ (rdB xs A N).1, 0 ≤ x ∧ x ≤ 255 := by
  intro x hx
  unfold rdB at hx
  repeat' split at hx
  all_goals first
    | (simp at hx; done)
    | exact h x (List.mem_of_mem_drop (List.mem_of_mem_take hx))
theorem rbytes_all {w : World} {v : Value} {xs ys : List Int} {A N P E : Int} (h : IsB w v xs) (hl : xs.length ≤ 140737488351232) (hN : N ≤ 9223372036854775807) (hr : rdB xs A N = (ys, P, E)) :
    Calls Tryd.prog 13 #[v, .int .i64 A, .int .i64 N] w fun e w' => ∃ a n c, e = .returned (.tuple #[.slice a n c, .int .i64 P, .int .i64 E]) ∧ IsB w' (.slice a n c) ys ∧ Below w.heap.size w w' := by
  have hm := rdB_mem h.mem A N
  have hc := rbytes_calls h (by omega) A N hN
  rw [hr] at hm hc
  refine hc.mono ?_
  rintro e w' ⟨u, rfl, hown, hb⟩
  have hi := isB_owns hown hm
  obtain ⟨a, n, c, rfl⟩ := hi.shape
  exact ⟨a, n, c, rfl, hi, hb⟩
theorem refRBytes_all {w : World} {v : Value} {xs ys : List Int} {A N P E : Int} (h : IsB w v xs) (hl : xs.length ≤ 140737488351232) (hN : N ≤ 9223372036854775807) (hr : rdB xs A N = (ys, P, E)) :
    Calls Tryd.prog 40 #[v, .int .i64 A, .int .i64 N] w fun e w' => ∃ a n c, e = .returned (.tuple #[.slice a n c, .int .i64 P, .int .i64 E]) ∧ IsB w' (.slice a n c) ys ∧ Below w.heap.size w w' := by
  have hm := rdB_mem h.mem A N
  have hc := refRBytes_calls h (by omega) A N hN
  rw [hr] at hm hc
  refine hc.mono ?_
  rintro e w' ⟨u, rfl, hown, hb⟩
  have hi := isB_owns hown hm
  obtain ⟨a, n, c, rfl⟩ := hi.shape
  exact ⟨a, n, c, rfl, hi, hb⟩

set_option maxRecDepth 100000 in
set_option maxHeartbeats 2000000 in
theorem strings_b {w : World} {a0 a1 : Option Addr} {n0 c0 n1 c1 : Nat} {xs : List Int} {A N V : Int} (hb : IsB w (.slice a0 n0 c0) xs) (hl : xs.length ≤ 140737488351232) :
    Calls Tryd.prog 38 #[.agg #[.int .i64 5, .slice a0 n0 c0, .int .i64 A, .int .i64 N, .int .u64 V, .slice a1 n1 c1]] w fun e w' => e = .returned (.bool true) ∧ Below w.heap.size w w' := by
  have HA := hide hb
  have HL := hide hl
  clear hb hl
  go_enter Tryd.func38, Tryd.ntmps38
  go_wp2_with fail
  have hbw : Below w.heap.size w (w.alloc (.cells #[.int .i64 5, .slice a0 n0 c0, .int .i64 A, .int .i64 N, .int .u64 V, .slice a1 n1 c1] 56)) := (Below.refl _ _).alloc (Nat.le_refl _) _
  have hcv : (w.alloc (.cells #[.int .i64 5, .slice a0 n0 c0, .int .i64 A, .int .i64 N, .int .u64 V, .slice a1 n1 c1] 56)).cell? ⟨w.heap.size, 1, none⟩ = some (.slice a0 n0 c0) := by
    rw [cell_of_row _ w.heap.size 1 #[.int .i64 5, .slice a0 n0 c0, .int .i64 A, .int .i64 N, .int .u64 V, .slice a1 n1 c1] 56 (0, 0) (heap_alloc_new w _)]; rfl
  generalize hw0 : w.alloc (.cells #[.int .i64 5, .slice a0 n0 c0, .int .i64 A, .int .i64 N, .int .u64 V, .slice a1 n1 c1] 56) = w0 at *
  clear hw0
  have HI := hide ((unhide HA).below hbw)
  have hcS : ∀ W, Below w0.heap.size w0 W → (Below w0.heap.size w0 W ∧ W.cell? ⟨w.heap.size, 1, none⟩ = some (.slice a0 n0 c0)) := fun W hW => ⟨hW, (hW.cell (World.block_lt_of_cell? w0 _ hcv)).trans hcv⟩
  have HCS := hide hcS
  clear hcS hcv
  go_region_held3 (fun W => Below w0.heap.size w0 W ∧ W.cell? ⟨w.heap.size, 1, none⟩ = some (.slice a0 n0 c0))
    ((refine unhide HCS _ ?_; repeat (first | assumption | exact Below.refl _ _ | refine Below.drew ?_)))
    (first
      | (go_at_call 32; refine (bytes_sl (IsB.below (unhide HI) (by repeat (first | assumption | exact Below.refl _ _ | refine Below.drew ?_))) (unhide HL)).mono ?_; rintro e w1 ⟨x1, y1, z1, rfl, hI1, hb1⟩; have hB1 : Below w0.heap.size w0 w1 := (by first | exact hb1 | exact below_drew hb1))
      | (go_at_call 42; refine (refBytes_sl (IsB.below (unhide HI) (by repeat (first | assumption | exact Below.refl _ _ | refine Below.drew ?_))) (unhide HL)).mono ?_; rintro e w2 ⟨x2, y2, z2, rfl, hI2, hb2⟩; have hb2' : Below w1.heap.size w1 w2 := (by first | exact hb2 | exact below_drew hb2); have hB2 := below_step hB1 hb2')
      | (go_at_call 23; refine (same_yes (IsB.below (IsB.below hI1 hb2') (by repeat (first | assumption | exact Below.refl _ _ | refine Below.drew ?_))) (IsB.below hI2 (by repeat (first | assumption | exact Below.refl _ _ | refine Below.drew ?_)))).mono ?_; rintro e w3 ⟨rfl, hw3⟩; obtain rfl := hw3.symm))
  go_wp2
  go_ret
  refine ⟨rfl, below_step hbw ?_⟩
  repeat (first | assumption | exact Below.refl _ _ | refine Below.drew ?_)

set_option maxRecDepth 100000 in
set_option maxHeartbeats 1000000 in
theorem strings_rb {w : World} {a0 a1 : Option Addr} {n0 c0 n1 c1 : Nat} {xs : List Int} {A N V : Int} (hb : IsB w (.slice a0 n0 c0) xs) (hl : xs.length ≤ 140737488351232) (hN : N ≤ 9223372036854775807) :
    Calls Tryd.prog 38 #[.agg #[.int .i64 6, .slice a0 n0 c0, .int .i64 A, .int .i64 N, .int .u64 V, .slice a1 n1 c1]] w fun e w' => e = .returned (.bool true) ∧ Below w.heap.size w w' := by
  obtain ⟨ys, P, E, hr⟩ : ∃ ys P E, rdB xs A N = (ys, P, E) := ⟨_, _, _, rfl⟩
  have HA := hide hb
  have HR := hide hr
  have HL := hide hl
  clear hb hr hl
  go_enter Tryd.func38, Tryd.ntmps38
  go_wp2_with fail
  have hbw : Below w.heap.size w (w.alloc (.cells #[.int .i64 6, .slice a0 n0 c0, .int .i64 A, .int .i64 N, .int .u64 V, .slice a1 n1 c1] 56)) := (Below.refl _ _).alloc (Nat.le_refl _) _
  have hc : ∀ f, f < 6 → (w.alloc (.cells #[.int .i64 6, .slice a0 n0 c0, .int .i64 A, .int .i64 N, .int .u64 V, .slice a1 n1 c1] 56)).cell? ⟨w.heap.size, f, none⟩ = #[Value.int .i64 6, .slice a0 n0 c0, .int .i64 A, .int .i64 N, .int .u64 V, .slice a1 n1 c1][f]? := fun f _ => cell_of_row _ w.heap.size f #[.int .i64 6, .slice a0 n0 c0, .int .i64 A, .int .i64 N, .int .u64 V, .slice a1 n1 c1] 56 (0, 0) (heap_alloc_new w _)
  have hc1 := hc 1 (by decide)
  have hc2 := hc 2 (by decide)
  have hc3 := hc 3 (by decide)
  refine (rbytes_all ((unhide HA).below hbw) (unhide HL) hN (unhide HR)).mono ?_
  rintro e w1 ⟨x1, y1, z1, rfl, hI1, hb1⟩
  have hd1 : w1.cell? ⟨w.heap.size, 1, none⟩ = some (.slice a0 n0 c0) := (hb1.cell (World.block_lt_of_cell? _ _ hc1)).trans hc1
  have hd2 : w1.cell? ⟨w.heap.size, 2, none⟩ = some (.int .i64 A) := (hb1.cell (World.block_lt_of_cell? _ _ hc2)).trans hc2
  have hd3 : w1.cell? ⟨w.heap.size, 3, none⟩ = some (.int .i64 N) := (hb1.cell (World.block_lt_of_cell? _ _ hc3)).trans hc3
  have hB1 := below_step hbw hb1
  clear hc hc1 hc2 hc3 hbw hb1
  go_wp2_with fail
  refine (refRBytes_all ((unhide HA).below hB1) (unhide HL) hN (unhide HR)).mono ?_
  rintro e w2 ⟨x2, y2, z2, rfl, hI2, hb2⟩
  have hI1' := hI1.below hb2
  have hB2 := below_step hB1 hb2
  clear hd1 hd2 hd3 hB1 hb2 hI1
  go_wp2_with fail
  refine (same_yes hI1' hI2).mono ?_
  rintro e w3 ⟨rfl, hw3⟩
  obtain rfl := hw3.symm
  clear hw3
  go_wp2_with (go_at_call 11; refine (num_calls _ _).mono ?_; rintro e w' ⟨rfl, hw'⟩; obtain rfl := hw'.symm)
  go_ret
  exact ⟨rfl, hB2⟩

set_option maxRecDepth 100000 in
set_option maxHeartbeats 2000000 in
theorem strings_s {w : World} {a0 a1 : Option Addr} {n0 c0 n1 c1 : Nat} {xss : List (List Int)} {A N V : Int} (hp : IsBB w (.slice a1 n1 c1) xss) (ht : Tab w) :
    Calls Tryd.prog 38 #[.agg #[.int .i64 7, .slice a0 n0 c0, .int .i64 A, .int .i64 N, .int .u64 V, .slice a1 n1 c1]] w fun e w' => e = .returned (.bool true) ∧ Below w.heap.size w w' := by
  have HA := hide hp
  have HT := hide ht
  obtain ⟨S, hS⟩ : ∃ S, S = sumOf xss := ⟨_, rfl⟩
  have HS := hide hS
  clear hp ht hS
  go_enter Tryd.func38, Tryd.ntmps38
  go_wp2_with fail
  have hbw : Below w.heap.size w (w.alloc (.cells #[.int .i64 7, .slice a0 n0 c0, .int .i64 A, .int .i64 N, .int .u64 V, .slice a1 n1 c1] 56)) := (Below.refl _ _).alloc (Nat.le_refl _) _
  have hcv : (w.alloc (.cells #[.int .i64 7, .slice a0 n0 c0, .int .i64 A, .int .i64 N, .int .u64 V, .slice a1 n1 c1] 56)).cell? ⟨w.heap.size, 5, none⟩ = some (.slice a1 n1 c1) := by
    rw [cell_of_row _ w.heap.size 5 #[.int .i64 7, .slice a0 n0 c0, .int .i64 A, .int .i64 N, .int .u64 V, .slice a1 n1 c1] 56 (0, 0) (heap_alloc_new w _)]; rfl
  generalize hw0 : w.alloc (.cells #[.int .i64 7, .slice a0 n0 c0, .int .i64 A, .int .i64 N, .int .u64 V, .slice a1 n1 c1] 56) = w0 at *
  clear hw0
  have H1 : Hid (∀ W, Below w0.heap.size w0 W → Calls Tryd.prog 15 #[.slice a1 n1 c1] W fun e w' => e = .returned (.int .u32 S) ∧ w' = W) := fun W hW => by
    rw [HS.out]; exact sum_calls (((unhide HA).below hbw).below hW) (((unhide HT).below hbw).below hW)
  have H2 : Hid (∀ W, Below w0.heap.size w0 W → Calls Tryd.prog 47 #[.slice a1 n1 c1] W fun e w' => e = .returned (.int .u32 S) ∧ w' = W) := fun W hW => by
    rw [HS.out]; exact refSum_calls (((unhide HA).below hbw).below hW)
  have hcS : ∀ W, Below w0.heap.size w0 W → (Below w0.heap.size w0 W ∧ W.cell? ⟨w.heap.size, 5, none⟩ = some (.slice a1 n1 c1)) := fun W hW => ⟨hW, (hW.cell (World.block_lt_of_cell? w0 _ hcv)).trans hcv⟩
  have HCS := hide hcS
  clear hcS hcv
  go_region_held3 (fun W => Below w0.heap.size w0 W ∧ W.cell? ⟨w.heap.size, 5, none⟩ = some (.slice a1 n1 c1))
    ((refine unhide HCS _ ?_; repeat (first | assumption | exact Below.refl _ _ | refine Below.drew ?_)))
    (first
      | (go_at_call 15; refine (unhide H1 _ (by repeat (first | assumption | exact Below.refl _ _ | refine Below.drew ?_))).mono ?_; rintro e w1 ⟨rfl, hw1⟩; obtain rfl := hw1.symm)
      | (go_at_call 47; refine (unhide H2 _ (by repeat (first | assumption | exact Below.refl _ _ | refine Below.drew ?_))).mono ?_; rintro e w1 ⟨rfl, hw1⟩; obtain rfl := hw1.symm))
  go_wp2
  go_ret
  refine ⟨by simp, below_step hbw ?_⟩
  repeat (first | assumption | exact Below.refl _ _ | refine Below.drew ?_)

/-- A call: what its fields read. -/
structure IsOp (w : World) (v : Value) (K A N V : Int) (xs : List Int) (xss : List (List Int)) : Prop where
  val : ∃ a0 n0 c0 a1 n1 c1, v = .agg #[.int .i64 K, .slice a0 n0 c0, .int .i64 A, .int .i64 N, .int .u64 V, .slice a1 n1 c1] ∧ IsB w (.slice a0 n0 c0) xs ∧ IsBB w (.slice a1 n1 c1) xss
  v0 : 0 ≤ V
  v1 : V ≤ 18446744073709551615
  n1 : N ≤ 9223372036854775807
  len : xs.length ≤ 140737488351232

set_option maxRecDepth 100000 in
set_option maxHeartbeats 2000000 in
theorem answered_calls {w : World} {v : Value} {K A N V : Int} {xs : List Int} {xss : List (List Int)} (h : IsOp w v K A N V xs xss) (ht : Tab w) :
    Calls Tryd.prog 25 #[v] w fun e w' => e = .returned (.bool true) ∧ Below w.heap.size w w' := by
  obtain ⟨⟨a0, n0, c0, a1, n1, c1, rfl, hb, hp⟩, h0, h1, hN, hl⟩ := h
  have HB := hide hb
  have HP := hide hp
  have HT := hide ht
  have HL := hide hl
  clear hb hp ht hl
  by_cases e1 : K = 1
  · subst e1
    go_enter Tryd.func25, Tryd.ntmps25
    go_wp2_with fail
    have hbw : Below w.heap.size w (w.alloc (.cells #[.int .i64 1, .slice a0 n0 c0, .int .i64 A, .int .i64 N, .int .u64 V, .slice a1 n1 c1] 56)) := (Below.refl _ _).alloc (Nat.le_refl _) _
    refine (numbers_calls (by simp) ((unhide HB).below hbw) ⟨_, _, _, rfl⟩ h0 h1).mono ?_
    rintro e w1 ⟨rfl, hb1⟩
    have hB1 := below_step hbw hb1
    clear hbw hb1
    go_wp2
    go_ret
    exact ⟨rfl, hB1⟩
  by_cases e2 : K = 2
  · subst e2
    go_enter Tryd.func25, Tryd.ntmps25
    go_wp2_with fail
    have hbw : Below w.heap.size w (w.alloc (.cells #[.int .i64 2, .slice a0 n0 c0, .int .i64 A, .int .i64 N, .int .u64 V, .slice a1 n1 c1] 56)) := (Below.refl _ _).alloc (Nat.le_refl _) _
    refine (numbers_calls (by simp) ((unhide HB).below hbw) ⟨_, _, _, rfl⟩ h0 h1).mono ?_
    rintro e w1 ⟨rfl, hb1⟩
    have hB1 := below_step hbw hb1
    clear hbw hb1
    go_wp2
    go_ret
    exact ⟨rfl, hB1⟩
  by_cases e3 : K = 3
  · subst e3
    go_enter Tryd.func25, Tryd.ntmps25
    go_wp2_with fail
    have hbw : Below w.heap.size w (w.alloc (.cells #[.int .i64 3, .slice a0 n0 c0, .int .i64 A, .int .i64 N, .int .u64 V, .slice a1 n1 c1] 56)) := (Below.refl _ _).alloc (Nat.le_refl _) _
    refine (numbers_calls (by simp) ((unhide HB).below hbw) ⟨_, _, _, rfl⟩ h0 h1).mono ?_
    rintro e w1 ⟨rfl, hb1⟩
    have hB1 := below_step hbw hb1
    clear hbw hb1
    go_wp2
    go_ret
    exact ⟨rfl, hB1⟩
  by_cases e4 : K = 4
  · subst e4
    go_enter Tryd.func25, Tryd.ntmps25
    go_wp2_with fail
    have hbw : Below w.heap.size w (w.alloc (.cells #[.int .i64 4, .slice a0 n0 c0, .int .i64 A, .int .i64 N, .int .u64 V, .slice a1 n1 c1] 56)) := (Below.refl _ _).alloc (Nat.le_refl _) _
    refine (numbers_calls (by simp) ((unhide HB).below hbw) ⟨_, _, _, rfl⟩ h0 h1).mono ?_
    rintro e w1 ⟨rfl, hb1⟩
    have hB1 := below_step hbw hb1
    clear hbw hb1
    go_wp2
    go_ret
    exact ⟨rfl, hB1⟩
  by_cases e5 : K = 5
  · subst e5
    go_enter Tryd.func25, Tryd.ntmps25
    go_wp2_with fail
    have hbw : Below w.heap.size w (w.alloc (.cells #[.int .i64 5, .slice a0 n0 c0, .int .i64 A, .int .i64 N, .int .u64 V, .slice a1 n1 c1] 56)) := (Below.refl _ _).alloc (Nat.le_refl _) _
    refine (strings_b ((unhide HB).below hbw) (unhide HL)).mono ?_
    rintro e w1 ⟨rfl, hb1⟩
    have hB1 := below_step hbw hb1
    clear hbw hb1
    go_wp2
    go_ret
    exact ⟨rfl, hB1⟩
  by_cases e6 : K = 6
  · subst e6
    go_enter Tryd.func25, Tryd.ntmps25
    go_wp2_with fail
    have hbw : Below w.heap.size w (w.alloc (.cells #[.int .i64 6, .slice a0 n0 c0, .int .i64 A, .int .i64 N, .int .u64 V, .slice a1 n1 c1] 56)) := (Below.refl _ _).alloc (Nat.le_refl _) _
    refine (strings_rb ((unhide HB).below hbw) (unhide HL) hN).mono ?_
    rintro e w1 ⟨rfl, hb1⟩
    have hB1 := below_step hbw hb1
    clear hbw hb1
    go_wp2
    go_ret
    exact ⟨rfl, hB1⟩
  by_cases e7 : K = 7
  · subst e7
    go_enter Tryd.func25, Tryd.ntmps25
    go_wp2_with fail
    have hbw : Below w.heap.size w (w.alloc (.cells #[.int .i64 7, .slice a0 n0 c0, .int .i64 A, .int .i64 N, .int .u64 V, .slice a1 n1 c1] 56)) := (Below.refl _ _).alloc (Nat.le_refl _) _
    refine (strings_s ((unhide HP).below hbw) ((unhide HT).below hbw)).mono ?_
    rintro e w1 ⟨rfl, hb1⟩
    have hB1 := below_step hbw hb1
    clear hbw hb1
    go_wp2
    go_ret
    exact ⟨rfl, hB1⟩
  go_enter Tryd.func25, Tryd.ntmps25
  go_wp2
  go_ret
  exact ⟨rfl, (Below.refl _ _).alloc (Nat.le_refl _) _⟩
end Go.Proofs.YtmfpkoegpoboiabDoor
