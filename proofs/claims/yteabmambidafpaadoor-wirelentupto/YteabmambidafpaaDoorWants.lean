/- wants of WireLent: the document's five lists. -/
import Derived.Test.YteabmambidafpaaDoorKept
import Derived.Test.YteabmambidafpaaDoorRefF
import Derived.Test.YteabmambidafpaaDoorRefRB
namespace Go.Proofs.YteabmambidafpaaDoor
open Go.RowKit

theorem refFixed_own {V N : Int} (n : Nat) (hN : N = (n : Int)) (w : World) (h0 : 0 ≤ V) (hV : V ≤ 18446744073709551615) (h1 : 1 ≤ n) (h2 : n ≤ 8) (hv : (V / 2 ^ (8 * n) != 0) = false) :
    Calls Tryd.prog 33 #[.int .u64 V, .int .i64 N] w fun e w' => ∃ a m c, e = .returned (.tuple #[.slice a m c, .int .i64 0]) ∧ Own8 w' w.heap.size (.slice a m c) (fB V n) ∧ Below w.heap.size w w' := by
  subst hN
  refine (refFixed_in V n w h0 hV h1 h2).mono ?_
  rintro e w' ⟨h | ⟨_, v, rfl, hown⟩, hb⟩
  · rw [hv] at h; cases h.1
  · obtain ⟨a, c, rfl⟩ := owns_slice hown
    exact ⟨a, _, c, rfl, ⟨by rw [fB_len]; exact hown, fB_bytes V n⟩, hb⟩
theorem refUint_own {V : Int} (w : World) (h0 : 0 ≤ V) (h1 : V < 2 * 128 ^ 9) : Calls Tryd.prog 35 #[.int .u64 V] w fun e w' => ∃ a n c, e = .returned (.slice a n c) ∧ Own8 w' w.heap.size (.slice a n c) (uBytes V) ∧ Below w.heap.size w w' := by
  refine (refUint_calls V w h0 h1).mono ?_
  rintro e w' ⟨v, rfl, hown, hb⟩
  obtain ⟨a, c, rfl⟩ := owns_slice hown
  exact ⟨a, _, c, rfl, ⟨hown, uBytes_bytes h0 h1⟩, hb⟩
theorem refBytes_own {w : World} {v : Value} {xs : List Int} (h : IsB w v xs) (hl : xs.length ≤ 140737488351232) :
    Calls Tryd.prog 36 #[v] w fun e w' => ∃ a n c, e = .returned (.slice a n c) ∧ Own8 w' w.heap.size (.slice a n c) (bB xs) ∧ Below w.heap.size w w' := by
  refine (refBytes_calls h hl).mono ?_
  rintro e w' ⟨v, rfl, hown, hb⟩
  obtain ⟨a, c, rfl⟩ := owns_slice hown
  exact ⟨a, _, c, rfl, ⟨hown, bB_bytes (by omega) h.mem⟩, hb⟩
set_option maxRecDepth 100000 in
set_option maxHeartbeats 4000000 in
theorem wants_calls {w : World} {V : Int} {vb va : Value} {xs ys : List Int} (hV0 : 0 ≤ V) (hV1 : V < 2 * 128 ^ 9) (hb : IsB w vb xs) (hxl : xs.length ≤ 140737488351232) (ha : IsB w va ys) (hyl : ys.length ≤ 140737488355328) (at_ : Int) :
    Calls Tryd.prog 18 #[.int .u64 V, vb, va, .int .i64 at_] w fun e w' => ∃ g, e = .returned (.slice (some ⟨g, 0, none⟩) 5 5) ∧ Was w' w.heap.size (.slice (some ⟨g, 0, none⟩) 5 5) (XA V xs ys at_) 5 ∧ Below w.heap.size w w' := by
  obtain ⟨ab, nb, cb, rfl⟩ := hb.shape
  obtain ⟨aa, na, ca, rfl⟩ := ha.shape
  have hna := ha.lenEq
  subst hna
  have hrl := ha.len
  have hv8 : (V / 2 ^ (8 * 8) != 0) = false := by
    have : V / 2 ^ (8 * 8) = 0 := by omega
    rw [this]; rfl
  have hv1 : (V % 256 / 2 ^ (8 * 1) != 0) = false := by
    have : V % 256 / 2 ^ (8 * 1) = 0 := by omega
    rw [this]; rfl
  have HF8 : Hid (∀ W : World, Calls Tryd.prog 33 #[.int .u64 V, .int .i64 8] W fun e w' => ∃ a m c, e = .returned (.tuple #[.slice a m c, .int .i64 0]) ∧ Own8 w' W.heap.size (.slice a m c) (fB V 8) ∧ Below W.heap.size W w') := fun W => refFixed_own 8 rfl W hV0 (by omega) (by decide) (by decide) hv8
  have HF1 : Hid (∀ W : World, Calls Tryd.prog 33 #[.int .u64 (V % 256), .int .i64 1] W fun e w' => ∃ a m c, e = .returned (.tuple #[.slice a m c, .int .i64 0]) ∧ Own8 w' W.heap.size (.slice a m c) (fB (V % 256) 1) ∧ Below W.heap.size W w') := fun W => refFixed_own 1 rfl W (by omega) (by omega) (by decide) (by decide) hv1
  have HR : Hid (∀ W : World, Below w.heap.size w W → Calls Tryd.prog 34 #[.slice aa ys.length ca, .int .i64 at_, .int .i64 (ys.length : Int)] W fun e w' => ∃ a m c x y, e = .returned (.tuple #[.slice a m c, .int .i64 x, .int .i64 y]) ∧ Own8 w' W.heap.size (.slice a m c) (rdB ys at_ ys.length).1 ∧ Below W.heap.size W w') := fun W hW => by
    refine (refRBytes_calls (ha.below hW) hyl at_ ys.length (by omega)).mono ?_
    rintro e w' ⟨u, rfl, h1, h2⟩
    obtain ⟨a, c, rfl⟩ := owns_slice h1
    exact ⟨a, _, c, _, _, rfl, ⟨h1, rdB_mems ha.mem _ _⟩, h2⟩
  have HU : Hid (∀ W : World, Calls Tryd.prog 35 #[.int .u64 V] W fun e w' => ∃ a n c, e = .returned (.slice a n c) ∧ Own8 w' W.heap.size (.slice a n c) (uBytes V) ∧ Below W.heap.size W w') := fun W => refUint_own W hV0 hV1
  have HB : Hid (∀ W : World, Below w.heap.size w W → Calls Tryd.prog 36 #[.slice ab nb cb] W fun e w' => ∃ a n c, e = .returned (.slice a n c) ∧ Own8 w' W.heap.size (.slice a n c) (bB xs) ∧ Below W.heap.size W w') := fun W hW => refBytes_own (hb.below hW) hxl
  clear hb ha hv8 hv1 hV1 hrl
  generalize hNa : ys.length = na at *
  have HNA := hide hNa
  clear hNa
  go_enter Tryd.func18, Tryd.ntmps18
  go_wp2_with fail
  refine (unhide HF8 _).mono ?_
  rintro e w1 ⟨a1, n1, c1, rfl, hO1, hb1⟩
  go_wp2_with fail
  refine (unhide HF1 _).mono ?_
  rintro e w2 ⟨a2, n2, c2, rfl, hO2, hb2⟩
  have hB2 := below_aft hb1 hb2
  go_wp2_with fail
  refine (unhide HR _ hB2).mono ?_
  rintro e w3 ⟨a3, n3, c3, x3, y3, rfl, hO3, hb3⟩
  have hB3 := below_aft hB2 hb3
  go_wp2_with fail
  refine (unhide HU _).mono ?_
  rintro e w4 ⟨a4, n4, c4, rfl, hO4, hb4⟩
  have hB4 := below_aft hB3 hb4
  go_wp2_with fail
  refine (unhide HB _ hB4).mono ?_
  rintro e w5 ⟨a5, n5, c5, rfl, hO5, hb5⟩
  have hB5 := below_aft hB4 hb5
  go_wp2
  go_ret
  have hb6 : Below w5.heap.size w5 (w5.alloc (.cells #[.slice a4 n4 c4, .slice a1 n1 c1, .slice a2 n2 c2, .slice a5 n5 c5, .slice a3 n3 c3] 23)) := (Below.refl _ _).alloc (Nat.le_refl _) _
  have hB6 := below_aft hB5 hb6
  have b12 := below_aft hb2 hb3
  have b1 := below_aft (below_aft b12 hb4) (below_aft hb5 hb6)
  have b2 := below_aft (below_aft hb3 hb4) (below_aft hb5 hb6)
  have b3 := below_aft hb4 (below_aft hb5 hb6)
  have b4 := below_aft hb5 hb6
  have s1 := hb1.size
  have s2 := hb2.size
  have s3 := hb3.size
  have s4 := hb4.size
  have s5 := hb5.size
  have s6 := hb6.size
  rw [← HNA.out] at hO3
  refine ⟨_, rfl, ⟨[.slice a4 n4 c4, .slice a1 n1 c1, .slice a2 n2 c2, .slice a5 n5 c5, .slice a3 n3 c3], rfl, (ans_row (us := [_, _, _, _, _]) rfl).mono hB5.size, ?_⟩, hB6⟩
  intro k hk
  match k, hk with
  | 0, _ => exact ⟨_, rfl, (hO4.below b4).mono (by omega)⟩
  | 1, _ => exact ⟨_, rfl, (hO1.below b1).mono (by omega)⟩
  | 2, _ => exact ⟨_, rfl, (hO2.below b2).mono (by omega)⟩
  | 3, _ => exact ⟨_, rfl, (hO5.below hb6).mono (by omega)⟩
  | 4, _ => exact ⟨_, rfl, (hO3.below b3).mono (by omega)⟩
end Go.Proofs.YteabmambidafpaaDoor
