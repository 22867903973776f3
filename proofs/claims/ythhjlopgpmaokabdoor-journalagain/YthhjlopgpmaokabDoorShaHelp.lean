/- What Cut, Laid, Same and Intact answer. -/
import Derived.Test.YthhjlopgpmaokabDoorKA
import Derived.Deep.QuietTactic
import Derived.BigQuiet
import Derived.WalkSmall
namespace Go.Proofs.YthhjlopgpmaokabDoor
open Go.RowKit

theorem lit_below (w : World) (o : Obj) : Below w.heap.size w (w.alloc o) := (Below.refl _ _).alloc (Nat.le_refl _) _
def marks : List Int := [201, 202, 203] ++ List.replicate 70 206
theorem marks_len : marks.length = 73 := by decide
/-- A copy with marks behind it, in memory of its own. -/
structure IsLaid (w : World) (B g n cap : Nat) (xs : List Int) : Prop where
  mem : ∀ x ∈ xs, 0 ≤ x ∧ x ≤ 255
  len : n = xs.length
  own : w.ownsRow B 5 1 (.slice (some ⟨g, 0, none⟩) (n + 73) cap) (n + 73) ((xs ++ marks).map (Value.int .u8))
theorem IsLaid.below {w w' : World} {B g n cap : Nat} {xs : List Int} (h : IsLaid w B g n cap xs) (hb : Below w.heap.size w w') : IsLaid w' B g n cap xs := ⟨h.mem, h.len, owns_below h.own hb⟩
theorem IsLaid.kept {w w' : World} {B g n cap : Nat} {xs : List Int} {row : Option Nat} (h : IsLaid w B g n cap xs) (hg : w.grownBy w' row) (hne : some g ≠ row) : IsLaid w' B g n cap xs := ⟨h.mem, h.len, h.own.kept hg (Or.inr hne)⟩
theorem IsLaid.lt {w : World} {B g n cap : Nat} {xs : List Int} (h : IsLaid w B g n cap xs) : B ≤ g ∧ g < w.heap.size := h.own.lt g rfl
theorem IsLaid.room {w : World} {B g n cap : Nat} {xs : List Int} (h : IsLaid w B g n cap xs) : n + 73 ≤ cap ∧ cap ≤ 9223372036854775807 := by
  obtain ⟨g', cap', hv, h1, h2, _⟩ := owns_shape h.own (by omega)
  injection hv with e1 e2 e3
  subst e3
  exact ⟨h1, h2⟩
theorem IsLaid.cell {w : World} {B g n cap : Nat} {xs : List Int} (h : IsLaid w B g n cap xs) (j : Nat) (hj : j < n + 73) : w.cell? ⟨g, j, none⟩ = some (.int .u8 ((xs ++ marks).getD j 0)) := by
  have hl : j < (xs ++ marks).length := by rw [List.length_append, marks_len, ← h.len]; exact hj
  rw [h.own.cellAt j (by omega), List.getElem?_map, List.getElem?_eq_getElem hl, List.getD_eq_getElem?_getD, List.getElem?_eq_getElem hl]
  rfl
theorem IsLaid.isB {w : World} {B g n cap : Nat} {xs : List Int} (h : IsLaid w B g n cap xs) : IsB w (.slice (some ⟨g, 0, none⟩) n cap) xs := by
  have hr := h.room
  have hl := h.len
  refine ⟨bytes_mem h.mem, some ⟨g, 0, none⟩, cap, by rw [hl], by omega, hr.2, (fun e => by cases e), fun _ => ⟨g, 0, rfl, fun j hj => ?_⟩⟩
  rw [Nat.zero_add, h.cell j (by omega), List.getD_eq_getElem?_getD, List.getD_eq_getElem?_getD, List.getElem?_append_left (by omega)]
theorem IsLaid.mark {w : World} {B g n cap : Nat} {xs : List Int} (h : IsLaid w B g n cap xs) (j : Nat) (hj : j < 73) : w.cell? ⟨g, n + j, none⟩ = some (.int .u8 (marks.getD j 0)) := by
  rw [h.cell (n + j) (by omega), List.getD_eq_getElem?_getD, List.getElem?_append_right (by rw [h.len]; omega), h.len, Nat.add_sub_cancel_left, ← List.getD_eq_getElem?_getD]

theorem laid_last {w : World} {B n : Nat} {v : Value} {xs : List Int} (hm : ∀ x ∈ xs, 0 ≤ x ∧ x ≤ 255) (hn : n = xs.length) (h : Own8 w B v (xs ++ [201, 202, 203] ++ List.replicate 70 206)) :
    ∃ g c, v = .slice (some ⟨g, 0, none⟩) (n + 73) c ∧ n + 73 ≤ c ∧ c ≤ 9223372036854775807 ∧ IsLaid w B g n c xs := by
  have h1 := h.1
  have e : xs ++ [201, 202, 203] ++ List.replicate 70 206 = xs ++ marks := by rw [marks, List.append_assoc]
  have e2 : (xs ++ marks).length = n + 73 := by rw [List.length_append, marks_len, ← hn]
  rw [e, e2] at h1
  obtain ⟨g, c, rfl, hc1, hc2, hg, _⟩ := owns_shape h1 (by omega)
  exact ⟨g, c, rfl, hc1, hc2, hm, hn, h1⟩
set_option maxHeartbeats 1000000 in
/-- Same, of like bytes. -/
theorem same_calls {w : World} {va vb : Value} {xs : List Int} (ha : IsB w va xs) (hb : IsB w vb xs) :
    Calls Tryd.prog 26 #[va, vb] w fun e w' => e = .returned (.bool true) ∧ ∃ k, w' = w.drewN k := by
  obtain ⟨_, aa, ca, rfl, hla, hma, _, hca⟩ := ha
  obtain ⟨_, ab, cb, rfl, hlb, hmb, _, hcb⟩ := hb
  by_cases h0 : 0 < xs.length
  · obtain ⟨ga, oa, rfl, hcella⟩ := hca h0
    obtain ⟨gb, ob, rfl, hcellb⟩ := hcb h0
    obtain ⟨n, hn⟩ : ∃ n, n = xs.length := ⟨_, rfl⟩
    rw [← hn] at hcella hcellb hla hlb ⊢
    have HA := hide hcella
    have HB := hide hcellb
    clear hca hcb hcella hcellb hn h0
    go_enter Tryd.func26, Tryd.ntmps26
    go_wp2
    go_loopw [5] (fun i wr => ∃ k m : Nat, k ≤ n ∧ i = .int .i64 (k : Int) ∧ wr = w.drewN m) (fun i _ => n - (intOf i).toNat)
    case atStart => exact ⟨0, 0, by omega, rfl, rfl⟩
    case round =>
      obtain ⟨k, m, hk, rfl, rfl⟩ := hrel
      by_cases hlt : k < n
      · have h1 := unhide HA k hlt
        have h2 := unhide HB k hlt
        have hkI : (k : Int) < (n : Int) := by omega
        have hk0 : (0 : Int) ≤ (k : Int) := by omega
        go_wp2
        go_quiet (fail)
        go_wp2
        go_roundw
        case rel => exact ⟨k + 1, _, by omega, by go_num, rfl⟩
        case measure => simp [intOf]; omega
      · go_wp2
        go_ret
        exact ⟨rfl, m, rfl⟩
  · obtain rfl : xs = [] := List.eq_nil_of_length_eq_zero (by omega)
    clear hca hcb h0 hla hlb
    go_enter Tryd.func26, Tryd.ntmps26
    go_wp2
    refine wp_loop_rounds 1 ?_
    rw [rounds_succ]
    go_wp2
    go_ret
    exact ⟨rfl, 0, rfl⟩

theorem below_same {w w' : World} (h : ∃ k, w' = w.drewN k) : Below w.heap.size w w' := by
  obtain ⟨k, rfl⟩ := h
  first
    | exact below_drewN (Below.refl _ _) k
    | exact below_drewN (Below.refl _ _)
end Go.Proofs.YthhjlopgpmaokabDoor
