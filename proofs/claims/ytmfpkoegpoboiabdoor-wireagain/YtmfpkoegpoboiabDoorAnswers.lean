/- answers of WireOwn: five lists of bytes, each in a block of its own. -/
import Derived.Test.YtmfpkoegpoboiabDoorFilled
import Derived.Test.YtmfpkoegpoboiabDoorReads
namespace Go.Proofs.YtmfpkoegpoboiabDoor
open Go.RowKit

def Bd (v : Value) (lo hi : Nat) : Prop := ∀ g, v.ownBlock = some g → lo ≤ g ∧ g < hi
theorem Own8.bd {w : World} {B : Nat} {v : Value} {xs : List Int} (h : Own8 w B v xs) : Bd v B w.heap.size := fun g hg => h.1.lt g hg
theorem Bd.ap {u v : Value} {a b c d : Nat} (h1 : Bd u a b) (h2 : Bd v c d) (h : b ≤ c ∨ d ≤ a) : u.ownBlock = none ∨ u.ownBlock ≠ v.ownBlock := by
  cases e : u.ownBlock with
  | none => exact Or.inl rfl
  | some k => exact Or.inr fun e2 => by have := h1 k e; have := h2 k e2.symm; omega
theorem Own8.row {w : World} {B : Nat} {v : Value} {xs : List Int} (h : Own8 w B v xs) : Row w B 5 v (xs.map (Value.int .u8)) := by
  unfold Row; rw [List.length_map]; exact h.1
theorem Row.own8 {w : World} {B : Nat} {v : Value} {xs : List Int} (h : Row w B 5 v (xs.map (Value.int .u8))) (hb : ∀ x ∈ xs, 0 ≤ x ∧ x ≤ 255) : Own8 w B v xs := by
  refine ⟨?_, hb⟩
  unfold Row at h; rw [List.length_map] at h; exact h
theorem rdB_mems {xs : List Int} (h : ∀ x ∈ xs, 0 ≤ x ∧ x ≤ 255) (A N : Int) : ∀ x ∈ (rdB xs A N).1, 0 ≤ x ∧ x ≤ 255 := by
  intro x hx
  unfold rdB at hx
  repeat' split at hx
  all_goals first
    | (simp at hx; done)
    | exact h x (List.mem_of_mem_drop (List.mem_of_mem_take hx))
/-- What the five lists hold. -/
def XA (V : Int) (xs ys : List Int) (at_ : Int) (k : Nat) : List Int := [uBytes V, fB V 8, fB (V % 256) 1, bB xs, (rdB ys at_ ys.length).1].getD k []
theorem ans_row {w : World} {us : List Value} (h : us.length = 5) : Row (w.alloc (.cells us.toArray 23)) w.heap.size 23 (.slice (some ⟨w.heap.size, 0, none⟩) 5 5) us := by
  have := World.ownsRow_lit (e := 23) (size := 1) (base := w.heap.size) w us.toArray 5 (Nat.le_refl _) (by decide) (by simp [h])
  unfold Row
  rw [h]
  simpa using this
set_option maxRecDepth 100000 in
set_option maxHeartbeats 4000000 in
theorem answers_calls {w : World} {V : Int} {vb va : Value} {xs ys : List Int} (hV0 : 0 ≤ V) (hV1 : V < 2 * 128 ^ 9) (hb : IsB w vb xs) (hxl : xs.length ≤ 140737488351232) (ha : IsB w va ys) (hyl : ys.length ≤ 140737488355328) (at_ : Int) :
    Calls Tryd.prog 18 #[.int .u64 V, vb, va, .int .i64 at_] w fun e w' => ∃ g us, e = .returned (.slice (some ⟨g, 0, none⟩) 5 5) ∧ us.length = 5 ∧ Row w' w.heap.size 23 (.slice (some ⟨g, 0, none⟩) 5 5) us ∧
      Lines w' w.heap.size w'.heap.size 5 (fun k => us.getD k undef) (fun k => (XA V xs ys at_ k).map (Value.int .u8)) 5 ∧ Below w.heap.size w w' := by
  obtain ⟨ab, nb, cb, rfl⟩ := hb.shape
  obtain ⟨aa, na, ca, rfl⟩ := ha.shape
  have hna := ha.lenEq
  subst hna
  have hrl := ha.len
  have hv8 : (V / 2 ^ (8 * 8) != 0) = false := by
    have : V / 2 ^ (8 * 8) = 0 := by omega
    rw [this]; rfl
  have hv1 : (V % 256 / 2 ^ (8 * 1) != 0) = false := by
    have : V % 256 / 2 ^ (8 * 1) = 0 := by omega
    rw [this]; rfl
  have HF8 : Hid (∀ W : World, Calls Tryd.prog 31 #[.int .u64 V, .int .i64 8] W fun e w' => ∃ a m c, e = .returned (.tuple #[.slice a m c, .int .i64 0]) ∧ Own8 w' W.heap.size (.slice a m c) (fB V 8) ∧ Below W.heap.size W w') := fun W => fixed_own 8 rfl W hV0 (by decide) (by decide) hv8
  have HF1 : Hid (∀ W : World, Calls Tryd.prog 31 #[.int .u64 (V % 256), .int .i64 1] W fun e w' => ∃ a m c, e = .returned (.tuple #[.slice a m c, .int .i64 0]) ∧ Own8 w' W.heap.size (.slice a m c) (fB (V % 256) 1) ∧ Below W.heap.size W w') := fun W => fixed_own 1 rfl W (by omega) (by decide) (by decide) hv1
  have HR : Hid (∀ W : World, Below w.heap.size w W → Calls Tryd.prog 13 #[.slice aa ys.length ca, .int .i64 at_, .int .i64 (ys.length : Int)] W fun e w' => ∃ a m c x y, e = .returned (.tuple #[.slice a m c, .int .i64 x, .int .i64 y]) ∧ Own8 w' W.heap.size (.slice a m c) (rdB ys at_ ys.length).1 ∧ Below W.heap.size W w') := fun W hW => by
    refine (rbytes_calls (ha.below hW) hyl at_ ys.length (by omega)).mono ?_
    rintro e w' ⟨u, rfl, h1, h2⟩
    obtain ⟨a, c, rfl⟩ := owns_slice h1
    exact ⟨a, _, c, _, _, rfl, ⟨h1, rdB_mems ha.mem _ _⟩, h2⟩
  have HU : Hid (∀ W : World, Calls Tryd.prog 30 #[.int .u64 V] W fun e w' => ∃ a n c, e = .returned (.slice a n c) ∧ Own8 w' W.heap.size (.slice a n c) (uBytes V) ∧ Below W.heap.size W w') := fun W => uint_own W hV0 hV1
  have HB : Hid (∀ W : World, Below w.heap.size w W → Calls Tryd.prog 32 #[.slice ab nb cb] W fun e w' => ∃ a n c, e = .returned (.slice a n c) ∧ Own8 w' W.heap.size (.slice a n c) (bB xs) ∧ Below W.heap.size W w') := fun W hW => bytes_own (hb.below hW) hxl
  clear hb ha hv8 hv1 hV1 hrl
  generalize hNa : ys.length = na at *
  have HNA := hide hNa
  clear hNa
  go_enter Tryd.func18, Tryd.ntmps18
  go_wp2_with fail
  refine (unhide HF8 _).mono ?_
  rintro e w1 ⟨a1, n1, c1, rfl, hO1, hb1⟩
  go_wp2_with fail
  refine (unhide HF1 _).mono ?_
  rintro e w2 ⟨a2, n2, c2, rfl, hO2, hb2⟩
  have hB2 := below_aft hb1 hb2
  go_wp2_with fail
  refine (unhide HR _ hB2).mono ?_
  rintro e w3 ⟨a3, n3, c3, x3, y3, rfl, hO3, hb3⟩
  have hB3 := below_aft hB2 hb3
  go_wp2_with fail
  refine (unhide HU _).mono ?_
  rintro e w4 ⟨a4, n4, c4, rfl, hO4, hb4⟩
  have hB4 := below_aft hB3 hb4
  go_wp2_with fail
  refine (unhide HB _ hB4).mono ?_
  rintro e w5 ⟨a5, n5, c5, rfl, hO5, hb5⟩
  have hB5 := below_aft hB4 hb5
  go_wp2
  go_ret
  have hb6 : Below w5.heap.size w5 (w5.alloc (.cells #[.slice a4 n4 c4, .slice a1 n1 c1, .slice a2 n2 c2, .slice a5 n5 c5, .slice a3 n3 c3] 23)) := (Below.refl _ _).alloc (Nat.le_refl _) _
  have hB6 := below_aft hB5 hb6
  have b12 := below_aft hb2 hb3
  have b1 := below_aft (below_aft b12 hb4) (below_aft hb5 hb6)
  have b2 := below_aft (below_aft hb3 hb4) (below_aft hb5 hb6)
  have b3 := below_aft hb4 (below_aft hb5 hb6)
  have b4 := below_aft hb5 hb6
  have s1 := hb1.size
  have s2 := hb2.size
  have s3 := hb3.size
  have s4 := hb4.size
  have s5 := hb5.size
  have s6 := hb6.size
  have d0 := hO4.bd
  have d1 := hO1.bd
  have d2 := hO2.bd
  have d3 := hO5.bd
  have d4 := hO3.bd
  rw [← HNA.out] at hO3
  refine ⟨_, [.slice a4 n4 c4, .slice a1 n1 c1, .slice a2 n2 c2, .slice a5 n5 c5, .slice a3 n3 c3], rfl, rfl, (ans_row (us := [_, _, _, _, _]) rfl).mono hB5.size, ⟨?_, ?_, ?_⟩, hB6⟩
  · intro k hk
    match k, hk with
    | 0, _ => exact ((hO4.below b4).mono (by omega)).row
    | 1, _ => exact ((hO1.below b1).mono (by omega)).row
    | 2, _ => exact ((hO2.below b2).mono (by omega)).row
    | 3, _ => exact ((hO5.below hb6).mono (by omega)).row
    | 4, _ => exact ((hO3.below b3).mono (by omega)).row
  · intro k hk g hg
    match k, hk with
    | 0, _ => have := (d0 g hg).2; omega
    | 1, _ => have := (d1 g hg).2; omega
    | 2, _ => have := (d2 g hg).2; omega
    | 3, _ => have := (d3 g hg).2; omega
    | 4, _ => have := (d4 g hg).2; omega
  · intro j k hj hk hne
    match j, hj, k, hk with
    | 0, _, 0, _ => exact absurd rfl hne
    | 0, _, 1, _ => exact d0.ap d1 (by omega)
    | 0, _, 2, _ => exact d0.ap d2 (by omega)
    | 0, _, 3, _ => exact d0.ap d3 (by omega)
    | 0, _, 4, _ => exact d0.ap d4 (by omega)
    | 1, _, 0, _ => exact d1.ap d0 (by omega)
    | 1, _, 1, _ => exact absurd rfl hne
    | 1, _, 2, _ => exact d1.ap d2 (by omega)
    | 1, _, 3, _ => exact d1.ap d3 (by omega)
    | 1, _, 4, _ => exact d1.ap d4 (by omega)
    | 2, _, 0, _ => exact d2.ap d0 (by omega)
    | 2, _, 1, _ => exact d2.ap d1 (by omega)
    | 2, _, 2, _ => exact absurd rfl hne
    | 2, _, 3, _ => exact d2.ap d3 (by omega)
    | 2, _, 4, _ => exact d2.ap d4 (by omega)
    | 3, _, 0, _ => exact d3.ap d0 (by omega)
    | 3, _, 1, _ => exact d3.ap d1 (by omega)
    | 3, _, 2, _ => exact d3.ap d2 (by omega)
    | 3, _, 3, _ => exact absurd rfl hne
    | 3, _, 4, _ => exact d3.ap d4 (by omega)
    | 4, _, 0, _ => exact d4.ap d0 (by omega)
    | 4, _, 1, _ => exact d4.ap d1 (by omega)
    | 4, _, 2, _ => exact d4.ap d2 (by omega)
    | 4, _, 3, _ => exact d4.ap d3 (by omega)
    | 4, _, 4, _ => exact absurd rfl hne
end Go.Proofs.YtmfpkoegpoboiabDoor
