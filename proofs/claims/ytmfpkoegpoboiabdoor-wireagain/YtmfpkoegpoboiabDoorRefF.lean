/- What the document's Fixed and ReadFixed answer: as wire's. -/
import Derived.Test.YtmfpkoegpoboiabDoorRefU
import Derived.Test.YtmfpkoegpoboiabDoorFixed
import Derived.Test.YtmfpkoegpoboiabDoorRFixed
namespace Go.Proofs.YtmfpkoegpoboiabDoor
open Go.RowKit

theorem fB_succ (V : Int) (n : Nat) : fB V (n + 1) = fB V n ++ [V / 2 ^ (8 * n) % 256] := by simp [fB, List.range_succ]
theorem div_step (V : Int) (k : Nat) : V / 2 ^ (8 * k) / 256 = V / 2 ^ (8 * (k + 1)) := by
  rw [Int.ediv_ediv_of_nonneg (by exact_mod_cast Nat.zero_le (2 ^ (8 * k))), pow8_succ, Int.mul_comm]
theorem leN_lt {ys : List Int} (h : ∀ x ∈ ys, 0 ≤ x ∧ x ≤ 255) : 0 ≤ leN ys ∧ leN ys < 2 ^ (8 * ys.length) := by
  induction ys with
  | nil => simp [leN]
  | cons c t ih =>
    have h1 := ih (fun x hx => h x (by simp [hx]))
    have h2 := h c (by simp)
    rw [List.length_cons, pow8_succ, leN]
    generalize (2 : Int) ^ (8 * t.length) = p at h1 ⊢
    omega

set_option maxHeartbeats 400000 in
theorem refFixed_arg (V n : Int) (w : World) (h : n < 1 ∨ 8 < n) :
    Calls Tryd.prog 39 #[.int .u64 V, .int .i64 n] w fun e w' => e = .returned (.tuple #[.slice none 0 0, .int .i64 1]) ∧ w' = w := by
  by_cases h1 : n < 1
  · clear h
    go_enter Tryd.func39, Tryd.ntmps39
    go_wp2
    go_ret2
    exact ⟨rfl, rfl⟩
  · have h2 : 8 < n := by omega
    clear h
    go_enter Tryd.func39, Tryd.ntmps39
    go_wp2
    go_ret2
    exact ⟨rfl, rfl⟩

set_option maxHeartbeats 1000000 in
theorem refFixed_in (V : Int) (n : Nat) (w : World) (h0 : 0 ≤ V) (hV : V ≤ 18446744073709551615) (h1 : 1 ≤ n) (h2 : n ≤ 8) :
    Calls Tryd.prog 39 #[.int .u64 V, .int .i64 n] w fun e w' => ((V / 2 ^ (8 * n) != 0) = true ∧ e = .returned (.tuple #[.slice none 0 0, .int .i64 12]) ∨ (V / 2 ^ (8 * n) != 0) = false ∧ ∃ v, e = .returned (.tuple #[v, .int .i64 0]) ∧
      w'.ownsRow w.heap.size 5 1 v n ((fB V n).map (Value.int .u8))) ∧ Below w.heap.size w w' := by
  obtain ⟨i0, hi, hz0, hz1, hz2⟩ := info_parts info8
  go_enter Tryd.func39, Tryd.ntmps39
  go_wp2
  go_loopw [0, 6, 7] (fun v l i wr => ∃ (k : Nat) (x : Int), k ≤ n ∧ i = .int .i64 (k : Int) ∧ v = .int .u64 x ∧ 0 ≤ x ∧ x ≤ 18446744073709551615 ∧ Hid (x = V / 2 ^ (8 * k)) ∧ wr.ownsRow w.heap.size 5 1 l k ((fB V k).map (Value.int .u8)) ∧ Below w.heap.size w wr) (fun _ _ i _ => n - (intOf i).toNat)
  case atStart => exact ⟨0, V, by omega, rfl, rfl, h0, hV, by show V = _; simp, World.ownsRow_nil _ _ _ _, Below.refl _ _⟩
  case round =>
    obtain ⟨k, x, hk, rfl, rfl, hx0, hx1, HX, hown, hnx⟩ := hrel
    have hsz := hnx.size
    by_cases hlt : k < n
    · have hdiv := u64_div (d := 256) hx0 hx1 (by decide)
      go_wp2_with (first
        | (at_builtin; refine wpList_append_own _ rfl _ _ 23 rfl w.heap.size 5 i0 (.int .u8 0) 1 1 Tryd.underlying23 hi hz0 hz1 hz2 rfl (by decide) _ _ _ rfl (hown.alloc _) ⟨wr.heap.size, 0, none⟩ 1 1 [.int .u8 _] rfl rfl (cell_one_new _ _ _) (one_u8 _) (by unfold maxLen; omega) (by omega) (by simp; omega) ?_; intro v' w3 hown' hgrow hnil))
      go_roundw
      case rel =>
        exact ⟨k + 1, x / 256, by omega, by go_num, by first | rfl | rw [hdiv], by omega, by omega, by show _ = _; rw [HX.out, div_step], by rw [fB_succ, ← HX.out]; simpa using hown',
          (hnx.alloc hsz _).grown hgrow (by simp; omega) (fun k hk => (hown.lt k hk).1)⟩
      case measure => simp [intOf]; omega
    · obtain rfl : k = n := by omega
      by_cases hp : 0 < x
      · go_wp2
        go_ret2
        exact ⟨Or.inl ⟨by rw [← HX.out]; exact bne_iff_ne.2 (by omega), rfl⟩, hnx⟩
      · go_wp2
        go_ret2
        exact ⟨Or.inr ⟨by rw [← HX.out, show x = 0 by omega], _, rfl, hown⟩, hnx⟩

set_option maxHeartbeats 400000 in
theorem refRFixed_out (a : Option Addr) (len cap : Nat) (at_ n : Int) (w : World) (h : at_ < 0 ∨ (len : Int) < at_) :
    Calls Tryd.prog 46 #[.slice a len cap, .int .i64 at_, .int .i64 n] w fun e w' => e = .returned (.tuple #[.int .u64 0, .int .i64 0, .int .i64 1]) ∧ w' = w := by
  have H : Hid (at_ < 0 ∨ (len : Int) < at_) := h
  clear h
  go_enter Tryd.func46, Tryd.ntmps46
  go_wp2_with (go_at_call 48; refine (refOutside_yes _ H.out).mono ?_; rintro e w' ⟨rfl, rfl⟩)
  go_ret3
  exact ⟨rfl, rfl⟩

set_option maxHeartbeats 400000 in
theorem refRFixed_arg (a : Option Addr) (len cap : Nat) (at_ n : Int) (w : World) (h : ¬ (at_ < 0 ∨ (len : Int) < at_)) (hn : n < 1 ∨ 8 < n) :
    Calls Tryd.prog 46 #[.slice a len cap, .int .i64 at_, .int .i64 n] w fun e w' => e = .returned (.tuple #[.int .u64 0, .int .i64 0, .int .i64 1]) ∧ w' = w := by
  have H : Hid (¬ (at_ < 0 ∨ (len : Int) < at_)) := h
  clear h
  by_cases h1 : n < 1
  · clear hn
    go_enter Tryd.func46, Tryd.ntmps46
    go_wp2_with (go_at_call 48; refine (refOutside_no _ H.out).mono ?_; rintro e w' ⟨rfl, rfl⟩)
    go_ret3
    exact ⟨rfl, rfl⟩
  · have h2 : 8 < n := by omega
    clear hn
    go_enter Tryd.func46, Tryd.ntmps46
    go_wp2_with (go_at_call 48; refine (refOutside_no _ H.out).mono ?_; rintro e w' ⟨rfl, rfl⟩)
    go_ret3
    exact ⟨rfl, rfl⟩

set_option maxHeartbeats 400000 in
theorem refRFixed_short (a : Option Addr) (len cap at_ n : Nat) (w : World) (_hl : len ≤ 9223372036854775807) (h : at_ ≤ len) (h1 : 1 ≤ n) (h8 : n ≤ 8) (hs : len < at_ + n) :
    Calls Tryd.prog 46 #[.slice a len cap, .int .i64 at_, .int .i64 n] w fun e w' => e = .returned (.tuple #[.int .u64 0, .int .i64 0, .int .i64 10]) ∧ w' = w := by
  go_enter Tryd.func46, Tryd.ntmps46
  go_wp2_with (go_at_call 48; refine (refOutside_no _ (by omega)).mono ?_; rintro e w' ⟨rfl, rfl⟩)
  go_ret3
  exact ⟨rfl, rfl⟩

set_option maxHeartbeats 1000000 in
theorem refRFixed_in (b off len cap at_ n : Nat) (xs : List Int) (w : World) (hn : len = xs.length) (hn1 : len ≤ cap) (hc : cap ≤ 9223372036854775807) (h1 : 1 ≤ n) (h8 : n ≤ 8) (hs : at_ + n ≤ len)
    (hcell : ∀ j, j < len → w.cell? ⟨b, off + j, none⟩ = some (.int .u8 (xs.getD j 0))) (hb : ∀ j : Nat, 0 ≤ xs[j]?.getD 0 ∧ xs[j]?.getD 0 ≤ 255) :
    Calls Tryd.prog 46 #[.slice (some ⟨b, off, none⟩) len cap, .int .i64 at_, .int .i64 n] w fun e w' =>
      e = .returned (.tuple #[.int .u64 (leN ((xs.drop at_).take n)), .int .i64 (at_ + n), .int .i64 0]) ∧ w' = w := by
  have HN : Hid (len = xs.length) := hn
  have HB := hide hb
  have HC := hide hcell
  clear hn hb hcell
  go_enter Tryd.func46, Tryd.ntmps46
  go_wp2_with (go_at_call 48; refine (refOutside_no _ (by omega)).mono ?_; rintro e w' ⟨rfl, rfl⟩)
  go_loop [9, 10] (fun v i => ∃ (j : Nat) (X : Int), j ≤ n ∧ i = .int .i64 ((j : Int) - 1) ∧ v = .int .u64 X ∧ 0 ≤ X ∧ Hid (X < 2 ^ (8 * (n - j))) ∧ Hid (X = leN ((xs.drop (at_ + j)).take (n - j)))) (fun _ i => (intOf i + 1).toNat)
  case atStart => exact ⟨n, 0, by omega, by go_num, rfl, by omega, by show (0 : Int) < _; simp, by show (0 : Int) = _; simp [leN]⟩
  case round =>
    obtain ⟨j, X, hj, rfl, rfl, hX, HX, HE⟩ := hrel
    cases j with
    | zero =>
      have H : Hid (leN ((xs.drop at_).take n) = X) := hide (by have := HE.out; simpa using this.symm)
      clear HE HX
      go_wp2
      go_ret3
      rw [H.out]
      exact ⟨rfl, rfl⟩
    | succ m =>
      rw [show ((m + 1 : Nat) : Int) - 1 = (m : Int) by omega]
      obtain ⟨c, hcv⟩ : ∃ c, c = xs[at_ + m]?.getD 0 := ⟨_, rfl⟩
      have hce : w'.cell? ⟨b, off + (at_ + m), none⟩ = some (.int .u8 c) := by
        rw [unhide HC (at_ + m) (by omega), hcv, List.getD_eq_getElem?_getD]
      have hbk := unhide HB (at_ + m)
      rw [← hcv] at hbk
      obtain ⟨hc0, hc1⟩ := hbk
      have hpow : (2 : Int) ^ (8 * (n - m)) = 256 * 2 ^ (8 * (n - (m + 1))) := by rw [← pow8_succ]; congr 2; omega
      have hp56 : (2 : Int) ^ (8 * (n - (m + 1))) ≤ 72057594037927936 := by
        have : (2 : Int) ^ (8 * (n - (m + 1))) ≤ 2 ^ 56 := by exact_mod_cast Nat.pow_le_pow_right (by decide : 0 < 2) (show 8 * (n - (m + 1)) ≤ 56 by omega)
        simpa using this
      have hXl : X < 72057594037927936 := by have := HX.out; omega
      have HR : Hid (256 * X + c = leN ((xs.drop (at_ + m)).take (n - m))) := by
        show _ = _
        rw [drop_at (show at_ + m < xs.length by rw [← HN.out]; omega), ← hcv, show n - m = (n - (m + 1)) + 1 by omega, List.take_succ_cons, leN, HE.out, Nat.add_assoc]
        omega
      have HL : Hid (256 * X + c < 2 ^ (8 * (n - m))) := by show _ < _; rw [hpow]; have := HX.out; omega
      clear HE HX hcv hpow hp56
      go_wp2
      go_round
      case rel => exact ⟨m, 256 * X + c, by omega, by go_num, by first | rfl | go_num, by omega, HL, HR⟩
      case measure => simp [intOf]

/-- The document's ReadFixed, of every slice, place and width. -/
theorem refRFixed_calls {w : World} {v : Value} {xs : List Int} (h : IsB w v xs) (at_ n : Int) :
    Calls Tryd.prog 46 #[v, .int .i64 at_, .int .i64 n] w fun e w' =>
      e = .returned (.tuple #[.int .u64 (rdF xs at_ n).1, .int .i64 (rdF xs at_ n).2.1, .int .i64 (rdF xs at_ n).2.2]) ∧ w' = w := by
  obtain ⟨hb, a, cap, rfl, hl, hm, _, hc⟩ := h
  by_cases ho : at_ < 0 ∨ (xs.length : Int) < at_
  · rw [rdF, if_pos ho]
    exact refRFixed_out a _ cap at_ n w ho
  · rw [rdF, if_neg ho]
    by_cases hn : n < 1 ∨ 8 < n
    · rw [if_pos hn]
      exact refRFixed_arg a _ cap at_ n w ho hn
    · rw [if_neg hn]
      obtain ⟨i, rfl⟩ := Int.eq_ofNat_of_zero_le (show 0 ≤ at_ by omega)
      obtain ⟨m, rfl⟩ := Int.eq_ofNat_of_zero_le (show 0 ≤ n by omega)
      by_cases hs : (xs.length : Int) - i < m
      · rw [if_pos hs]
        exact refRFixed_short a _ cap i m w (by omega) (by omega) (by omega) (by omega) (by omega)
      · rw [if_neg hs]
        obtain ⟨b, off, rfl, hcell⟩ := hc (by omega)
        exact refRFixed_in b off _ cap i m xs w rfl hl hm (by omega) (by omega) (by omega) hcell hb
end Go.Proofs.YtmfpkoegpoboiabDoor
