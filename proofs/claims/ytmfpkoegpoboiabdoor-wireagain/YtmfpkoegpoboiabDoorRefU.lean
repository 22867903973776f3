/- What the document's Uint, Bytes, outside answer: as wire's. -/
import Derived.Test.YtmfpkoegpoboiabDoorBytes
namespace Go.Proofs.YtmfpkoegpoboiabDoor
open Go.RowKit

theorem u64_div {x : Int} {d : Int} (h0 : 0 ≤ x) (h1 : x ≤ 18446744073709551615) (hd : 0 < d) : IntKind.u64.wrap (x.tdiv d) = x / d := by
  rw [Int.tdiv_eq_ediv_of_nonneg h0]
  have a := Int.ediv_nonneg h0 (Int.le_of_lt hd)
  have b := Int.ediv_le_self d h0
  exact IntWalk.u64_in _ ⟨by omega, by omega⟩

theorem refOutside_calls (a : Option Addr) (n cap : Nat) (at_ : Int) (w : World) :
    Calls Tryd.prog 48 #[.slice a n cap, .int .i64 at_] w fun e w' => e = .returned (.bool (decide (at_ < 0 ∨ (n : Int) < at_))) ∧ w' = w := by
  by_cases h1 : at_ < 0
  · go_enter Tryd.func48, Tryd.ntmps48
    go_wp2
    go_ret
    exact ⟨by simp [h1], rfl⟩
  · by_cases h2 : (n : Int) < at_
    all_goals
      go_enter Tryd.func48, Tryd.ntmps48
      go_wp2
      go_ret
      exact ⟨by simp [h1, h2], rfl⟩
theorem refOutside_yes {a : Option Addr} {n cap : Nat} {at_ : Int} (w : World) (h : at_ < 0 ∨ (n : Int) < at_) :
    Calls Tryd.prog 48 #[.slice a n cap, .int .i64 at_] w fun e w' => e = .returned (.bool true) ∧ w' = w := by
  have := refOutside_calls a n cap at_ w
  rwa [decide_eq_true h] at this
theorem refOutside_no {a : Option Addr} {n cap : Nat} {at_ : Int} (w : World) (h : ¬ (at_ < 0 ∨ (n : Int) < at_)) :
    Calls Tryd.prog 48 #[.slice a n cap, .int .i64 at_] w fun e w' => e = .returned (.bool false) ∧ w' = w := by
  have := refOutside_calls a n cap at_ w
  rwa [decide_eq_false h] at this

set_option maxHeartbeats 400000 in
theorem refUint_calls (V : Int) (w : World) (h0 : 0 ≤ V) (h1 : V < 2 * 128 ^ 9) :
    Calls Tryd.prog 41 #[.int .u64 V] w fun e w' => ∃ v, e = .returned v ∧
      w'.ownsRow w.heap.size 5 1 v (uBytes V).length ((uBytes V).map (Value.int .u8)) ∧ Below w.heap.size w w' := by
  obtain ⟨i0, hi, hz0, hz1, hz2⟩ := info_parts info8
  have H1 : Hid (V < 2 * 128 ^ 9) := h1
  have hV : V ≤ 18446744073709551615 := by
    have e : (2 : Int) * 128 ^ 9 = 18446744073709551616 := by decide +kernel
    omega
  clear h1
  go_enter Tryd.func41, Tryd.ntmps41
  go_wp2
  go_loopw [0, 3] (fun v b wr => ∃ (f : Nat) (x : Int) (pre : List Int), v = .int .u64 x ∧ 0 ≤ x ∧ x ≤ 18446744073709551615 ∧ Hid (x < 2 * 128 ^ f) ∧ Hid (uBytes V = pre ++ uB f x) ∧ Hid (pre.length + f = 9) ∧ pre.length ≤ 9 ∧
      wr.ownsRow w.heap.size 5 1 b pre.length (pre.map (Value.int .u8)) ∧ Below w.heap.size w wr)
    (fun v _ _ => (intOf v).toNat)
  case atStart =>
    exact ⟨9, V, [], rfl, h0, hV, H1, rfl, rfl, by simp, World.ownsRow_nil _ _ _ _, Below.refl _ _⟩
  case round =>
    obtain ⟨f, x, pre, rfl, hx0, hx1, HX, HE, HF, hp9, hown, hnx⟩ := hrel
    have hsz := hnx.size
    by_cases hlt : 127 < x
    · have hdiv := u64_div (d := 128) hx0 hx1 (by decide)
      go_wp2_with (first
        | (at_builtin; refine wpList_append_own _ rfl _ _ 23 rfl w.heap.size 5 i0 (.int .u8 0) 1 1 Tryd.underlying23 hi hz0 hz1 hz2 rfl (by decide) _ _ _ rfl (hown.alloc _) ⟨wr.heap.size, 0, none⟩ 1 1 [.int .u8 _] rfl rfl (cell_one_new _ _ _) (one_u8 _) (by unfold maxLen; omega) (by omega) (by simp; omega) ?_; intro v' w3 hown' hgrow hnil))
      obtain ⟨g, rfl⟩ := top_pos HX.out (by omega)
      have HL := HF.out
      go_roundw
      case rel =>
        exact ⟨g, x / 128, pre ++ [128 + x % 128], by first | rfl | rw [hdiv], by omega, by omega, top_step HX.out, by show uBytes V = _; rw [HE.out, uB_more (by omega), Int.add_comm (x % 128)]; simp, by show _ = _; simp; omega, by simp; omega, by simpa using hown',
          (hnx.alloc hsz _).grown hgrow (by simp; omega) (fun k hk => (hown.lt k hk).1)⟩
      case measure => (try rw [hdiv]); simp [intOf]; omega
    · go_wp2_with (first
        | (at_builtin; refine wpList_append_own _ rfl _ _ 23 rfl w.heap.size 5 i0 (.int .u8 0) 1 1 Tryd.underlying23 hi hz0 hz1 hz2 rfl (by decide) _ _ _ rfl (hown.alloc _) ⟨wr.heap.size, 0, none⟩ 1 1 [.int .u8 x] rfl rfl (cell_one_new _ _ _) (one_u8 _) (by unfold maxLen; omega) (by omega) (by simp; omega) ?_; intro v' w3 hown' hgrow hnil))
      go_ret
      refine ⟨_, rfl, ?_, (hnx.alloc hsz _).grown hgrow (by simp; omega) (fun k hk => (hown.lt k hk).1)⟩
      rw [HE.out, uB_last (by omega)]
      simpa using hown'

set_option maxHeartbeats 400000 in
theorem refBytes_some (ad : Addr) (cap : Nat) (xs : List Int) (w : World) (hl : xs.length ≤ 140737488351232)
    (hc : ∀ j u, (xs.map (Value.int .u8))[j]? = some u → w.cell? (ad.add j) = some u) :
    Calls Tryd.prog 42 #[.slice (some ad) xs.length cap] w fun e w' => ∃ v, e = .returned v ∧
      w'.ownsRow w.heap.size 5 1 v (bB xs).length ((bB xs).map (Value.int .u8)) ∧ Below w.heap.size w w' := by
  obtain ⟨i0, hi, hz0, hz1, hz2⟩ := info_parts info8
  have HC := hide hc
  clear hc
  go_enter Tryd.func42, Tryd.ntmps42
  go_wp2_with fail
  refine (refUint_calls _ _ (by omega) (top9 (by omega))).mono ?_
  rintro e w1 ⟨v1, rfl, hown, hbel⟩
  have hsz := hbel.size
  have hul := (uB_len 9 xs.length).2
  have HU : Hid ((uBytes xs.length).length ≤ 10) := hul
  have hn : (uBytes (xs.length : Int)).length + xs.length ≤ 140737488355328 := by have := HU.out; omega
  have hc1 : ∀ j u, (xs.map (Value.int .u8))[j]? = some u → w1.cell? (ad.add j) = some u := fun j u hj =>
    (hbel.cell (World.block_lt_of_cell? w _ (unhide HC j u hj))).trans (unhide HC j u hj)
  have HC1 := hide hc1
  clear hul hc1
  go_wp2_with (at_builtin; refine wpList_append_own _ rfl _ _ 23 rfl w.heap.size 5 i0 (.int .u8 0) 1 1 Tryd.underlying23 hi hz0 hz1 hz2 rfl (by decide) _ _ _ rfl hown ad xs.length cap (xs.map (Value.int .u8)) rfl (by simp) (unhide HC1) (u8_one xs) (by unfold maxLen; omega) (by omega) hsz ?_; intro v2 w2 hown2 hgrow hnil)
  go_ret
  refine ⟨_, rfl, ?_, hbel.grown hgrow hsz (fun k hk => (hown.lt k hk).1)⟩
  simpa [bB] using hown2

set_option maxHeartbeats 400000 in
theorem refBytes_nil (w : World) :
    Calls Tryd.prog 42 #[.slice none 0 0] w fun e w' => ∃ v, e = .returned v ∧
      w'.ownsRow w.heap.size 5 1 v (bB []).length ((bB []).map (Value.int .u8)) ∧ Below w.heap.size w w' := by
  obtain ⟨i0, hi, hz0, hz1, hz2⟩ := info_parts info8
  go_enter Tryd.func42, Tryd.ntmps42
  go_wp2_with fail
  refine (refUint_calls _ _ (by omega) (top9 (by omega))).mono ?_
  rintro e w1 ⟨v1, rfl, hown, hbel⟩
  go_wp2_with (at_builtin; refine wpList_append_own_none rfl _ _ 23 rfl w.heap.size 5 i0 1 Tryd.underlying23 hi _ _ _ rfl hown rfl ?_)
  go_ret
  exact ⟨_, rfl, by simpa [bB] using hown, hbel⟩

/-- The document's Bytes, of every slice. -/
theorem refBytes_calls {w : World} {v : Value} {xs : List Int} (h : IsB w v xs) (hl : xs.length ≤ 140737488351232) :
    Calls Tryd.prog 42 #[v] w fun e w' => ∃ v, e = .returned v ∧
      w'.ownsRow w.heap.size 5 1 v (bB xs).length ((bB xs).map (Value.int .u8)) ∧ Below w.heap.size w w' := by
  have h' := h
  obtain ⟨_, a, cap, rfl, _, _, hz, hc⟩ := h
  cases a with
  | none =>
    have h0 : xs = [] := by
      by_cases hp : 0 < xs.length
      · obtain ⟨b, off, ha, _⟩ := hc hp
        cases ha
      · exact List.eq_nil_of_length_eq_zero (by omega)
    subst h0
    rw [hz rfl]
    exact refBytes_nil w
  | some ad => exact refBytes_some ad cap xs w hl h'.cells
end Go.Proofs.YtmfpkoegpoboiabDoor
