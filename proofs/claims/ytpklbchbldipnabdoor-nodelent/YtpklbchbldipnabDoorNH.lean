/- What wire.Uint answers: the number's groups of seven bits, in new memory. What same, num, outside answer. What wire.Bytes answers: the length, then the bytes, in new memory. What wire.Fixed answers. -/
import Derived.Test.YtpklbchbldipnabDoorProg
import Derived.Test.YtpklbchbldipnabDoorNA
import Derived.WalkKit
import Derived.WalkSpells
import Derived.Laws.AppendOwnNone
namespace Go.Proofs.YtpklbchbldipnabDoor
open Go.RowKit

set_option maxHeartbeats 400000 in
theorem uint_calls (V : Int) (w : World) (h0 : 0 ≤ V) (h1 : V < 2 * 128 ^ 9) :
    Calls Tryd.prog 28 #[.int .u64 V] w fun e w' => ∃ v, e = .returned v ∧
      w'.ownsRow w.heap.size 5 1 v (uBytes V).length ((uBytes V).map (Value.int .u8)) ∧ Below w.heap.size w w' := by
  obtain ⟨i0, hi, hz0, hz1, hz2⟩ := info_parts info8
  have hmk : ∀ w : World, (Instr.makeSlice 25 (.int .i64 0) (.int .i64 10)).run Tryd.prog w = .ok (.slice (some ⟨w.heap.size, 0, none⟩) 0 10) (w.alloc (.cells #[.int .u8 0, .int .u8 0, .int .u8 0, .int .u8 0, .int .u8 0, .int .u8 0, .int .u8 0, .int .u8 0, .int .u8 0, .int .u8 0] 5)) := fun _ => by kernel_rfl
  have H1 : Hid (V < 2 * 128 ^ 9) := h1
  clear h1
  go_enter Tryd.func28, Tryd.ntmps28
  go_wp2
  clear hmk
  go_loopw [0, 3] (fun v b wr => ∃ (f : Nat) (x : Int) (pre : List Int), v = .int .u64 x ∧ 0 ≤ x ∧ Hid (x < 2 * 128 ^ f) ∧ Hid (uBytes V = pre ++ uB f x) ∧ Hid (pre.length + f = 9) ∧ pre.length ≤ 9 ∧
      wr.ownsRow w.heap.size 5 1 b pre.length (pre.map (Value.int .u8)) ∧ Below w.heap.size w wr)
    (fun v _ _ => (intOf v).toNat)
  case atStart =>
    exact ⟨9, V, [], rfl, h0, H1, rfl, rfl, by simp, World.ownsRow_made _ _ 10 (Nat.le_refl _) (by unfold maxLen; omega) (by simp), (Below.refl _ _).alloc (Nat.le_refl _) _⟩
  case round =>
    obtain ⟨f, x, pre, rfl, hx0, HX, HE, HF, hp9, hown, hnx⟩ := hrel
    have hsz := hnx.size
    by_cases hlt : 128 ≤ x
    · have hor : bits .or .u8 (x % 256) 128 = x % 128 + 128 := by rw [or128 (by omega) (by omega)]; omega
      go_wp2_with (first
        | (at_builtin; refine wpList_append_own _ rfl _ _ 25 rfl w.heap.size 5 i0 (.int .u8 0) 1 1 Tryd.underlying25 hi hz0 hz1 hz2 rfl (by decide) _ _ _ rfl (hown.alloc _) ⟨wr.heap.size, 0, none⟩ 1 1 [.int .u8 (x % 128 + 128)] rfl rfl (cell_one_new _ _ _) (one_u8 _) (by unfold maxLen; omega) (by omega) (by simp; omega) ?_; intro v' w3 hown' hgrow hnil))
      obtain ⟨g, rfl⟩ := top_pos HX.out hlt
      have HL := HF.out
      go_roundw
      case rel =>
        exact ⟨g, x / 128, pre ++ [x % 128 + 128], rfl, by omega, top_step HX.out, by show uBytes V = _; rw [HE.out, uB_more (by omega)]; simp, by show _ = _; simp; omega, by simp; omega, by simpa using hown',
          (hnx.alloc hsz _).grown hgrow (by simp; omega) (fun k hk => (hown.lt k hk).1)⟩
      case measure => simp [intOf]; omega
    · go_wp2_with (first
        | (at_builtin; refine wpList_append_own _ rfl _ _ 25 rfl w.heap.size 5 i0 (.int .u8 0) 1 1 Tryd.underlying25 hi hz0 hz1 hz2 rfl (by decide) _ _ _ rfl (hown.alloc _) ⟨wr.heap.size, 0, none⟩ 1 1 [.int .u8 x] rfl rfl (cell_one_new _ _ _) (one_u8 _) (by unfold maxLen; omega) (by omega) (by simp; omega) ?_; intro v' w3 hown' hgrow hnil))
      go_ret
      refine ⟨_, rfl, ?_, (hnx.alloc hsz _).grown hgrow (by simp; omega) (fun k hk => (hown.lt k hk).1)⟩
      rw [HE.out, uB_last (by omega)]
      simpa using hown'
end Go.Proofs.YtpklbchbldipnabDoor

namespace Go.Proofs.YtpklbchbldipnabDoor
open Go.RowKit

theorem outside_calls (a : Option Addr) (n cap : Nat) (at_ : Int) (w : World) :
    Calls Tryd.prog 82 #[.slice a n cap, .int .i64 at_] w fun e w' => e = .returned (.bool (decide (at_ < 0 ∨ (n : Int) < at_))) ∧ w' = w := by
  by_cases h1 : at_ < 0
  · go_enter Tryd.func82, Tryd.ntmps82
    go_wp2
    go_ret
    exact ⟨by simp [h1], rfl⟩
  · by_cases h2 : (n : Int) < at_
    all_goals
      go_enter Tryd.func82, Tryd.ntmps82
      go_wp2
      go_ret
      exact ⟨by simp [h1, h2], rfl⟩
theorem outside_yes {a : Option Addr} {n cap : Nat} {at_ : Int} (w : World) (h : at_ < 0 ∨ (n : Int) < at_) :
    Calls Tryd.prog 82 #[.slice a n cap, .int .i64 at_] w fun e w' => e = .returned (.bool true) ∧ w' = w := by
  have := outside_calls a n cap at_ w
  rwa [decide_eq_true h] at this
theorem outside_no {a : Option Addr} {n cap : Nat} {at_ : Int} (w : World) (h : ¬ (at_ < 0 ∨ (n : Int) < at_)) :
    Calls Tryd.prog 82 #[.slice a n cap, .int .i64 at_] w fun e w' => e = .returned (.bool false) ∧ w' = w := by
  have := outside_calls a n cap at_ w
  rwa [decide_eq_false h] at this
end Go.Proofs.YtpklbchbldipnabDoor

namespace Go.Proofs.YtpklbchbldipnabDoor
open Go.RowKit

set_option maxHeartbeats 400000 in
theorem bytes_some (ad : Addr) (cap : Nat) (xs : List Int) (w : World) (hl : xs.length ≤ 140737488351232)
    (hc : ∀ j u, (xs.map (Value.int .u8))[j]? = some u → w.cell? (ad.add j) = some u) :
    Calls Tryd.prog 48 #[.slice (some ad) xs.length cap] w fun e w' => ∃ v, e = .returned v ∧
      w'.ownsRow w.heap.size 5 1 v (bB xs).length ((bB xs).map (Value.int .u8)) ∧ Below w.heap.size w w' := by
  obtain ⟨i0, hi, hz0, hz1, hz2⟩ := info_parts info8
  have HC := hide hc
  clear hc
  go_enter Tryd.func48, Tryd.ntmps48
  go_wp2_with fail
  refine (uint_calls _ _ (by omega) (top9 (by omega))).mono ?_
  rintro e w1 ⟨v1, rfl, hown, hbel⟩
  have hsz := hbel.size
  have hul := (uB_len 9 xs.length).2
  have HU : Hid ((uBytes xs.length).length ≤ 10) := hul
  have hn : (uBytes (xs.length : Int)).length + xs.length ≤ 140737488355328 := by have := HU.out; omega
  have hc1 : ∀ j u, (xs.map (Value.int .u8))[j]? = some u → w1.cell? (ad.add j) = some u := fun j u hj =>
    (hbel.cell (World.block_lt_of_cell? w _ (unhide HC j u hj))).trans (unhide HC j u hj)
  have HC1 := hide hc1
  clear hul hc1
  go_wp2_with (at_builtin; refine wpList_append_own _ rfl _ _ 25 rfl w.heap.size 5 i0 (.int .u8 0) 1 1 Tryd.underlying25 hi hz0 hz1 hz2 rfl (by decide) _ _ _ rfl hown ad xs.length cap (xs.map (Value.int .u8)) rfl (by simp) (unhide HC1) (u8_one xs) (by unfold maxLen; omega) (by omega) hsz ?_; intro v2 w2 hown2 hgrow hnil)
  go_ret
  refine ⟨_, rfl, ?_, hbel.grown hgrow hsz (fun k hk => (hown.lt k hk).1)⟩
  simpa [bB] using hown2

set_option maxHeartbeats 400000 in
theorem bytes_nil (w : World) :
    Calls Tryd.prog 48 #[.slice none 0 0] w fun e w' => ∃ v, e = .returned v ∧
      w'.ownsRow w.heap.size 5 1 v (bB []).length ((bB []).map (Value.int .u8)) ∧ Below w.heap.size w w' := by
  obtain ⟨i0, hi, hz0, hz1, hz2⟩ := info_parts info8
  go_enter Tryd.func48, Tryd.ntmps48
  go_wp2_with fail
  refine (uint_calls _ _ (by omega) (top9 (by omega))).mono ?_
  rintro e w1 ⟨v1, rfl, hown, hbel⟩
  go_wp2_with (at_builtin; refine wpList_append_own_none rfl _ _ 25 rfl w.heap.size 5 i0 1 Tryd.underlying25 hi _ _ _ rfl hown rfl ?_)
  go_ret
  exact ⟨_, rfl, by simpa [bB] using hown, hbel⟩

/-- wire.Bytes, of every slice. -/
theorem bytes_calls {w : World} {v : Value} {xs : List Int} (h : IsB w v xs) (hl : xs.length ≤ 140737488351232) :
    Calls Tryd.prog 48 #[v] w fun e w' => ∃ v, e = .returned v ∧
      w'.ownsRow w.heap.size 5 1 v (bB xs).length ((bB xs).map (Value.int .u8)) ∧ Below w.heap.size w w' := by
  have h' := h
  obtain ⟨_, a, cap, rfl, _, _, hz, hc⟩ := h
  cases a with
  | none =>
    have h0 : xs = [] := by
      by_cases hp : 0 < xs.length
      · obtain ⟨b, off, ha, _⟩ := hc hp
        cases ha
      · exact List.eq_nil_of_length_eq_zero (by omega)
    subst h0
    rw [hz rfl]
    exact bytes_nil w
  | some ad => exact bytes_some ad cap xs w hl h'.cells
end Go.Proofs.YtpklbchbldipnabDoor

namespace Go.Proofs.YtpklbchbldipnabDoor
open Go.RowKit

set_option maxRecDepth 100000 in
set_option maxHeartbeats 400000 in
theorem fixed_arg (V n : Int) (w : World) (h : n < 1 ∨ 8 < n) :
    Calls Tryd.prog 49 #[.int .u64 V, .int .i64 n] w fun e w' => e = .returned (.tuple #[.slice none 0 0, .int .i64 1]) ∧ w' = w := by
  by_cases h1 : n < 1
  · clear h
    go_enter Tryd.func49, Tryd.ntmps49
    go_wp2
    go_ret2
    exact ⟨rfl, rfl⟩
  · have h2 : 8 < n := by omega
    clear h
    go_enter Tryd.func49, Tryd.ntmps49
    go_wp2
    go_ret2
    exact ⟨rfl, rfl⟩

theorem made8 (n : Nat) : (madeCells (Value.int .u8 0).cells (n * 1)).toList = List.replicate n (.int .u8 0) := by
  have h : (Value.int .u8 0).cells = #[.int .u8 0] := rfl
  simp [madeCells, h, Nat.mod_one, List.map_const']

set_option maxRecDepth 100000 in
set_option maxHeartbeats 400000 in
theorem fixed_wide (V : Int) (n : Nat) (w : World) (_h0 : 0 ≤ V) (h1 : 1 ≤ n) (h2 : n ≤ 8) (hv : (V / 2 ^ (8 * n) != 0) = true) :
    Calls Tryd.prog 49 #[.int .u64 V, .int .i64 n] w fun e w' => e = .returned (.tuple #[.slice none 0 0, .int .i64 12]) ∧ w' = w := by
  go_enter Tryd.func49, Tryd.ntmps49
  go_wp2
  go_ret2
  exact ⟨rfl, rfl⟩

set_option maxRecDepth 100000 in
set_option maxHeartbeats 400000 in
theorem fixed_in (V : Int) (n : Nat) (w : World) (_h0 : 0 ≤ V) (h1 : 1 ≤ n) (h2 : n ≤ 8) (hv : (V / 2 ^ (8 * n) != 0) = false) :
    Calls Tryd.prog 49 #[.int .u64 V, .int .i64 n] w fun e w' => ∃ v, e = .returned (.tuple #[v, .int .i64 0]) ∧
      w'.ownsRow w.heap.size 5 1 v n ((fB V n).map (Value.int .u8)) ∧ Below w.heap.size w w' := by
  obtain ⟨i0, hi, hz0, hz1, hz2⟩ := info_parts info8
  go_enter Tryd.func49, Tryd.ntmps49
  go_wp2_with (at_make; refine wpList_make_full _ rfl _ _ 25 rfl w.heap.size 5 i0 (.int .u8 0) 1 Tryd.underlying25 hi hz0 hz1 .i64 .i64 _ _ n rfl rfl rfl rfl (by rw [hz2]; omega) (by unfold maxLen; omega) (Nat.le_refl _) ?_; intro w1 hown hgrow)
  have hown0 : w1.ownsRow w.heap.size 5 1 (.slice (some ⟨w.heap.size, 0, none⟩) n n) n ((fK V n 0).map (Value.int .u8)) := by
    rw [fK_zero, List.map_replicate]
    rw [made8] at hown
    exact hown
  have hbel := (Below.refl w.heap.size w).grown hgrow (Nat.le_refl _) (fun k hk => by cases hk)
  clear hown hgrow
  go_loopw [23] (fun i wr => ∃ k : Nat, k ≤ n ∧ i = .int .i64 k ∧ wr.ownsRow w.heap.size 5 1 (.slice (some ⟨w.heap.size, 0, none⟩) n n) n ((fK V n k).map (Value.int .u8)) ∧ Below w.heap.size w wr)
    (fun i _ => n - (intOf i).toNat)
  case atStart => exact ⟨0, Nat.zero_le _, rfl, hown0, hbel⟩
  case round =>
    clear hown0 hbel
    obtain ⟨k, hk, rfl, hown, hnx⟩ := hrel
    by_cases hlt : k < n
    · have hce := hown.cellAt k (by omega)
      have hfr := hown.frozenAt k
      have hst := hown.stored k (.int .u8 (V / 2 ^ (8 * k) % 256))
      have HST := hide hst
      have hce' : ∃ u, wr.cell? ⟨w.heap.size, k, none⟩ = some u := by rw [hce]; exact ⟨_, List.getElem?_eq_getElem (by simp [fK]; omega)⟩
      obtain ⟨u, hu⟩ := hce'
      clear hce hst
      go_wp2
      go_roundw
      case rel =>
        have h := unhide HST
        exact ⟨k + 1, by omega, by go_num, by rw [fK_step, List.map_set]; exact h.1, hnx.grown h.2 hnx.size (fun j hj => by injection hj with e; omega)⟩
      case measure => simp [intOf]; omega
    · go_wp2
      go_ret2
      obtain rfl : k = n := by omega
      exact ⟨_, rfl, by rw [← fK_all]; exact hown, hnx⟩

/-- Does the number need more than n bytes? -/
def fWide (V : Int) (n : Nat) : Bool := V / 2 ^ (8 * n) != 0
end Go.Proofs.YtpklbchbldipnabDoor
