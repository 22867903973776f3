/- What Cut, Laid, Same and Intact answer. -/
import Derived.Test.YtdmkpfpbhmchpaaDoorKA
import Derived.Deep.QuietTactic
import Derived.BigQuiet
import Derived.WalkSmall
namespace Go.Proofs.YtdmkpfpbhmchpaaDoor
open Go.RowKit

theorem lit_below (w : World) (o : Obj) : Below w.heap.size w (w.alloc o) := (Below.refl _ _).alloc (Nat.le_refl _) _
set_option maxHeartbeats 400000 in
theorem cut_calls {w : World} {a : Option Addr} {n cap : Nat} {xs : List Int} (h : IsB w (.slice a n cap) xs) (k : Nat) (hk : k ≤ 1000000000) :
    Calls Tryd.prog 15 #[.slice a n cap, .int .i64 (k : Int)] w fun e w' => (∃ m, e = .returned (.slice a m cap) ∧ m ≤ n ∧ IsB w (.slice a m cap) (xs.take k)) ∧ w' = w := by
  have hn := h.lenEq
  have hr := h.room
  by_cases hlt : k < n
  · have hi := h.cut (k := k) (by omega)
    have hkI : (k : Int) < (n : Int) := by omega
    have hkc : (k : Int) ≤ (cap : Int) := by omega
    have hk0 : (0 : Int) ≤ (k : Int) := by omega
    obtain ⟨ad, had⟩ : ∃ ad, a = some ad := by
      obtain ⟨_, a', cp', hv, _, _, _, hc⟩ := h
      obtain ⟨b, off, ha, _⟩ := hc (by omega)
      injection hv with e1
      exact ⟨_, e1.trans ha⟩
    subst had
    have HI := hide hi
    clear hn h hi
    go_enter Tryd.func15, Tryd.ntmps15
    go_wp2
    go_ret
    exact ⟨⟨k, rfl, by omega, unhide HI⟩, rfl⟩
  · have hi : IsB w (.slice a n cap) (xs.take k) := by rw [List.take_of_length_le (by omega)]; exact h
    have hkI : ¬ (k : Int) < (n : Int) := by omega
    have HI := hide hi
    clear hn h hi
    go_enter Tryd.func15, Tryd.ntmps15
    go_wp2
    go_ret
    exact ⟨⟨n, rfl, by omega, unhide HI⟩, rfl⟩

def marks : List Int := [201, 202, 203] ++ List.replicate 70 206
theorem marks_len : marks.length = 73 := by decide
/-- A copy with marks behind it, in memory of its own. -/
structure IsLaid (w : World) (B g n cap : Nat) (xs : List Int) : Prop where
  mem : ∀ x ∈ xs, 0 ≤ x ∧ x ≤ 255
  len : n = xs.length
  own : w.ownsRow B 5 1 (.slice (some ⟨g, 0, none⟩) (n + 73) cap) (n + 73) ((xs ++ marks).map (Value.int .u8))
theorem IsLaid.below {w w' : World} {B g n cap : Nat} {xs : List Int} (h : IsLaid w B g n cap xs) (hb : Below w.heap.size w w') : IsLaid w' B g n cap xs := ⟨h.mem, h.len, owns_below h.own hb⟩
theorem IsLaid.kept {w w' : World} {B g n cap : Nat} {xs : List Int} {row : Option Nat} (h : IsLaid w B g n cap xs) (hg : w.grownBy w' row) (hne : some g ≠ row) : IsLaid w' B g n cap xs := ⟨h.mem, h.len, h.own.kept hg (Or.inr hne)⟩
theorem IsLaid.lt {w : World} {B g n cap : Nat} {xs : List Int} (h : IsLaid w B g n cap xs) : B ≤ g ∧ g < w.heap.size := h.own.lt g rfl
theorem IsLaid.room {w : World} {B g n cap : Nat} {xs : List Int} (h : IsLaid w B g n cap xs) : n + 73 ≤ cap ∧ cap ≤ 9223372036854775807 := by
  obtain ⟨g', cap', hv, h1, h2, _⟩ := owns_shape h.own (by omega)
  injection hv with e1 e2 e3
  subst e3
  exact ⟨h1, h2⟩
theorem IsLaid.cell {w : World} {B g n cap : Nat} {xs : List Int} (h : IsLaid w B g n cap xs) (j : Nat) (hj : j < n + 73) : w.cell? ⟨g, j, none⟩ = some (.int .u8 ((xs ++ marks).getD j 0)) := by
  have hl : j < (xs ++ marks).length := by rw [List.length_append, marks_len, ← h.len]; exact hj
  rw [h.own.cellAt j (by omega), List.getElem?_map, List.getElem?_eq_getElem hl, List.getD_eq_getElem?_getD, List.getElem?_eq_getElem hl]
  rfl
theorem IsLaid.isB {w : World} {B g n cap : Nat} {xs : List Int} (h : IsLaid w B g n cap xs) : IsB w (.slice (some ⟨g, 0, none⟩) n cap) xs := by
  have hr := h.room
  have hl := h.len
  refine ⟨bytes_mem h.mem, some ⟨g, 0, none⟩, cap, by rw [hl], by omega, hr.2, (fun e => by cases e), fun _ => ⟨g, 0, rfl, fun j hj => ?_⟩⟩
  rw [Nat.zero_add, h.cell j (by omega), List.getD_eq_getElem?_getD, List.getD_eq_getElem?_getD, List.getElem?_append_left (by omega)]
theorem IsLaid.mark {w : World} {B g n cap : Nat} {xs : List Int} (h : IsLaid w B g n cap xs) (j : Nat) (hj : j < 73) : w.cell? ⟨g, n + j, none⟩ = some (.int .u8 (marks.getD j 0)) := by
  rw [h.cell (n + j) (by omega), List.getD_eq_getElem?_getD, List.getElem?_append_right (by rw [h.len]; omega), h.len, Nat.add_sub_cancel_left, ← List.getD_eq_getElem?_getD]

theorem laid_last {w : World} {B n : Nat} {v : Value} {xs : List Int} (hm : ∀ x ∈ xs, 0 ≤ x ∧ x ≤ 255) (hn : n = xs.length) (h : Own8 w B v (xs ++ [201, 202, 203] ++ List.replicate 70 206)) :
    ∃ g c, v = .slice (some ⟨g, 0, none⟩) (n + 73) c ∧ n + 73 ≤ c ∧ c ≤ 9223372036854775807 ∧ IsLaid w B g n c xs := by
  have h1 := h.1
  have e : xs ++ [201, 202, 203] ++ List.replicate 70 206 = xs ++ marks := by rw [marks, List.append_assoc]
  have e2 : (xs ++ marks).length = n + 73 := by rw [List.length_append, marks_len, ← hn]
  rw [e, e2] at h1
  obtain ⟨g, c, rfl, hc1, hc2, hg, _⟩ := owns_shape h1 (by omega)
  exact ⟨g, c, rfl, hc1, hc2, hm, hn, h1⟩
set_option maxRecDepth 100000 in
set_option maxHeartbeats 1000000 in
/-- Laid: the bytes, in new memory, with marks behind them. -/
theorem laid_calls {w : World} {a : Option Addr} {n cap : Nat} {xs : List Int} (h : IsB w (.slice a n cap) xs) (hl : xs.length ≤ 140737488350000) :
    Calls Tryd.prog 17 #[.slice a n cap] w fun e w' => ∃ g c, e = .returned (.slice (some ⟨g, 0, none⟩) n c) ∧ IsLaid w' w.heap.size g n c xs ∧ Below w.heap.size w w' := by
  have hn := h.lenEq
  have HX := hide h
  have HL := hide hl
  have HN := hide hn
  have h3 := isB_lit
  have HLIT : Hid (∀ W : World, IsB (W.alloc (.cells #[.int .u8 201, .int .u8 202, .int .u8 203] 5)) (.slice (some ⟨W.heap.size, 0, none⟩) 3 3) [201, 202, 203]) := fun W => isB_lit W [201, 202, 203] (by decide) (by decide)
  have HLIT1 : Hid (∀ W : World, IsB (W.alloc (.cells #[.int .u8 206] 5)) (.slice (some ⟨W.heap.size, 0, none⟩) 1 1) [206]) := fun W => isB_lit W [206] (by decide) (by decide)
  have hn3 : n ≤ 140737488350000 := by omega
  clear h hl hn h3
  go_enter Tryd.func17, Tryd.ntmps17
  go_wp2_with (first
    | (at_builtin; refine wpList_appB rfl (.tmp 5) (.tmp 6) rfl (v := .slice none 0 0) rfl (Own8.nil w w.heap.size) rfl (unhide HX) (by have := HL.out; simp; omega) (Nat.le_refl _) ?_; intro v1 w1 hown1 hgrow1; have hB1 := (Below.refl w.heap.size w).grown hgrow1 (Nat.le_refl _) (fun k hk => (by simp [Value.ownBlock] at hk)); have hsz1 := hB1.size; rw [List.nil_append] at hown1; clear hgrow1)
    | (at_builtin; refine wpList_appB rfl (.tmp 8) (.tmp 9) rfl rfl (hown1.below (lit_below _ _)) rfl (unhide HLIT w1) (by have := HL.out; simp; omega) (by simp; omega) ?_; intro v2 w2 hown2 hgrow2; have hB2 := (hB1.alloc hsz1 (.cells #[.int .u8 201, .int .u8 202, .int .u8 203] 5)).grown hgrow2 (by simp; omega) (fun k hk => (hown1.1.lt k hk).1); clear hgrow2 hown1))
  clear hB1 hsz1
  go_loopw [3, 4] (fun v i wr => ∃ k : Nat, k ≤ 70 ∧ i = .int .i64 (k : Int) ∧ Own8 wr w.heap.size v (xs ++ [201, 202, 203] ++ List.replicate k 206) ∧ Below w.heap.size w wr) (fun _ i _ => 70 - (intOf i).toNat)
  case atStart => exact ⟨0, by omega, rfl, by rw [List.replicate_zero, List.append_nil]; exact hown2, hB2⟩
  case round =>
    clear hown2 hB2
    obtain ⟨k, hk, rfl, hown, hnx⟩ := hrel
    have hsz := hnx.size
    by_cases hlt : k < 70
    · go_wp2_with (at_builtin; refine wpList_appB rfl (.tmp 15) (.tmp 16) rfl rfl (hown.below (lit_below _ _)) rfl (unhide HLIT1 wr) (by have := HL.out; simp; omega) (by simp; omega) ?_; intro v3 w3 hown3 hgrow3; have hB3 := (hnx.alloc hsz (.cells #[.int .u8 206] 5)).grown hgrow3 (by simp; omega) (fun k hk => (hown.1.lt k hk).1); clear hgrow3)
      go_roundw
      case rel => exact ⟨k + 1, by omega, by go_num, by rw [List.replicate_succ', ← List.append_assoc]; exact hown3, hB3⟩
      case measure => simp [intOf]; omega
    · have hk70 : k = 70 := by omega
      rw [hk70] at hown
      obtain ⟨g, c, rfl, hc1, hc2, hL⟩ := laid_last (unhide HX).mem HN.out hown
      have HO := hide hL
      have hnc : (n : Int) ≤ (c : Int) := by omega
      have hn0 : (0 : Int) ≤ (n : Int) := by omega
      clear hk70 hown hL
      go_wp2
      go_ret
      exact ⟨g, c, rfl, unhide HO, hnx⟩

set_option maxHeartbeats 1000000 in
/-- Same, of like bytes. -/
theorem same_calls {w : World} {va vb : Value} {xs : List Int} (ha : IsB w va xs) (hb : IsB w vb xs) :
    Calls Tryd.prog 13 #[va, vb] w fun e w' => e = .returned (.bool true) ∧ ∃ k, w' = w.drewN k := by
  obtain ⟨_, aa, ca, rfl, hla, hma, _, hca⟩ := ha
  obtain ⟨_, ab, cb, rfl, hlb, hmb, _, hcb⟩ := hb
  by_cases h0 : 0 < xs.length
  · obtain ⟨ga, oa, rfl, hcella⟩ := hca h0
    obtain ⟨gb, ob, rfl, hcellb⟩ := hcb h0
    obtain ⟨n, hn⟩ : ∃ n, n = xs.length := ⟨_, rfl⟩
    rw [← hn] at hcella hcellb hla hlb ⊢
    have HA := hide hcella
    have HB := hide hcellb
    clear hca hcb hcella hcellb hn h0
    go_enter Tryd.func13, Tryd.ntmps13
    go_wp2
    go_loopw [5] (fun i wr => ∃ k m : Nat, k ≤ n ∧ i = .int .i64 (k : Int) ∧ wr = w.drewN m) (fun i _ => n - (intOf i).toNat)
    case atStart => exact ⟨0, 0, by omega, rfl, rfl⟩
    case round =>
      obtain ⟨k, m, hk, rfl, rfl⟩ := hrel
      by_cases hlt : k < n
      · have h1 := unhide HA k hlt
        have h2 := unhide HB k hlt
        have hkI : (k : Int) < (n : Int) := by omega
        have hk0 : (0 : Int) ≤ (k : Int) := by omega
        go_wp2
        go_quiet (fail)
        go_wp2
        go_roundw
        case rel => exact ⟨k + 1, _, by omega, by go_num, rfl⟩
        case measure => simp [intOf]; omega
      · go_wp2
        go_ret
        exact ⟨rfl, m, rfl⟩
  · obtain rfl : xs = [] := List.eq_nil_of_length_eq_zero (by omega)
    clear hca hcb h0 hla hlb
    go_enter Tryd.func13, Tryd.ntmps13
    go_wp2
    refine wp_loop_rounds 1 ?_
    rw [rounds_succ]
    go_wp2
    go_ret
    exact ⟨rfl, 0, rfl⟩

theorem below_same {w w' : World} (h : ∃ k, w' = w.drewN k) : Below w.heap.size w w' := by
  obtain ⟨k, rfl⟩ := h
  first
    | exact below_drewN (Below.refl _ _) k
    | exact below_drewN (Below.refl _ _)
set_option maxHeartbeats 1000000 in
/-- Intact, of what is. -/
theorem intact_calls {w : World} {B g n cap : Nat} {vb : Value} {xs : List Int} (h : IsLaid w B g n cap xs) (hb : IsB w vb xs) (hl : n ≤ 140737488350000) :
    Calls Tryd.prog 20 #[.slice (some ⟨g, 0, none⟩) n cap, vb] w fun e w' => e = .returned (.bool true) ∧ ∃ k, w' = w.drewN k := by
  have HS := hide (same_calls h.isB hb)
  have h0 := h.mark 0 (by decide)
  have h1 := h.mark 1 (by decide)
  have h2 := h.mark 2 (by decide)
  have h3 := h.mark 3 (by decide)
  have hr := h.room
  have hn4 : (n : Int) + 4 ≤ (cap : Int) := by omega
  simp only [marks, List.replicate, List.cons_append, List.nil_append, List.getD_eq_getElem?_getD, List.getElem?_cons_succ, List.getElem?_cons_zero, Option.getD_some, Nat.add_zero] at h0 h1 h2 h3
  clear h hb
  go_enter Tryd.func20, Tryd.ntmps20
  go_wp2_with (go_at_call 13; refine (unhide HS).mono ?_; rintro e w1 ⟨rfl, k, rfl⟩)
  go_ret
  exact ⟨rfl, k, rfl⟩
end Go.Proofs.YtdmkpfpbhmchpaaDoor
