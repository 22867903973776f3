/- What wire.ReadFixed answers. -/
import Derived.Test.YtmfpkoegpoboiabDoorSame
namespace Go.Proofs.YtmfpkoegpoboiabDoor
open Go.RowKit

set_option maxHeartbeats 400000 in
theorem rfixed_out (a : Option Addr) (len cap : Nat) (at_ n : Int) (w : World) (h : at_ < 0 ∨ (len : Int) < at_) :
    Calls Tryd.prog 12 #[.slice a len cap, .int .i64 at_, .int .i64 n] w fun e w' => e = .returned (.tuple #[.int .u64 0, .int .i64 0, .int .i64 1]) ∧ w' = w := by
  have H : Hid (at_ < 0 ∨ (len : Int) < at_) := h
  clear h
  go_enter Tryd.func12, Tryd.ntmps12
  go_wp2_with (go_at_call 34; refine (outside_yes _ H.out).mono ?_; rintro e w' ⟨rfl, rfl⟩)
  go_ret3
  exact ⟨rfl, rfl⟩

set_option maxHeartbeats 400000 in
theorem rfixed_arg (a : Option Addr) (len cap : Nat) (at_ n : Int) (w : World) (h : ¬ (at_ < 0 ∨ (len : Int) < at_)) (hn : n < 1 ∨ 8 < n) :
    Calls Tryd.prog 12 #[.slice a len cap, .int .i64 at_, .int .i64 n] w fun e w' => e = .returned (.tuple #[.int .u64 0, .int .i64 0, .int .i64 1]) ∧ w' = w := by
  have H : Hid (¬ (at_ < 0 ∨ (len : Int) < at_)) := h
  clear h
  by_cases h1 : n < 1
  · clear hn
    go_enter Tryd.func12, Tryd.ntmps12
    go_wp2_with (go_at_call 34; refine (outside_no _ H.out).mono ?_; rintro e w' ⟨rfl, rfl⟩)
    go_ret3
    exact ⟨rfl, rfl⟩
  · have h2 : 8 < n := by omega
    clear hn
    go_enter Tryd.func12, Tryd.ntmps12
    go_wp2_with (go_at_call 34; refine (outside_no _ H.out).mono ?_; rintro e w' ⟨rfl, rfl⟩)
    go_ret3
    exact ⟨rfl, rfl⟩

set_option maxHeartbeats 400000 in
theorem rfixed_short (a : Option Addr) (len cap at_ n : Nat) (w : World) (_hl : len ≤ 9223372036854775807) (h : at_ ≤ len) (h1 : 1 ≤ n) (h8 : n ≤ 8) (hs : len < at_ + n) :
    Calls Tryd.prog 12 #[.slice a len cap, .int .i64 at_, .int .i64 n] w fun e w' => e = .returned (.tuple #[.int .u64 0, .int .i64 0, .int .i64 10]) ∧ w' = w := by
  go_enter Tryd.func12, Tryd.ntmps12
  go_wp2_with (go_at_call 34; refine (outside_no _ (by omega)).mono ?_; rintro e w' ⟨rfl, rfl⟩)
  go_ret3
  exact ⟨rfl, rfl⟩

set_option maxHeartbeats 400000 in
theorem rfixed_in (b off len cap at_ n : Nat) (xs : List Int) (w : World) (hn : len = xs.length) (hn1 : len ≤ cap) (hc : cap ≤ 9223372036854775807) (h1 : 1 ≤ n) (h8 : n ≤ 8) (hs : at_ + n ≤ len)
    (hcell : ∀ j, j < len → w.cell? ⟨b, off + j, none⟩ = some (.int .u8 (xs.getD j 0))) (hb : ∀ j : Nat, 0 ≤ xs[j]?.getD 0 ∧ xs[j]?.getD 0 ≤ 255) :
    Calls Tryd.prog 12 #[.slice (some ⟨b, off, none⟩) len cap, .int .i64 at_, .int .i64 n] w fun e w' =>
      e = .returned (.tuple #[.int .u64 (leN ((xs.drop at_).take n)), .int .i64 (at_ + n), .int .i64 0]) ∧ w' = w := by
  have hca : ¬ cap = at_ := by omega
  have HN : Hid (len = xs.length) := hn
  clear hn
  go_enter Tryd.func12, Tryd.ntmps12
  go_wp2_with (go_at_call 34; refine (outside_no _ (by omega)).mono ?_; rintro e w' ⟨rfl, rfl⟩)
  go_loop [9, 36] (fun v i => ∃ (k : Nat) (X : Int), k ≤ n ∧ i = .int .i64 k ∧ v = .int .u64 X ∧ 0 ≤ X ∧ Hid (X < 2 ^ (8 * k)) ∧ Hid (leN ((xs.drop at_).take n) = X + 2 ^ (8 * k) * leN ((xs.drop (at_ + k)).take (n - k)))) (fun _ i => n - (intOf i).toNat)
  case atStart => exact ⟨0, 0, by omega, rfl, rfl, by omega, (by decide : (0 : Int) < 2 ^ (8 * 0)), by show _ = _; simp⟩
  case round =>
    obtain ⟨k, X, hk, rfl, rfl, hX, HX, HE⟩ := hrel
    by_cases hlt : k < n
    · obtain ⟨c, hcv⟩ : ∃ c, c = xs[at_ + k]?.getD 0 := ⟨_, rfl⟩
      have hce : w'.cell? ⟨b, off + at_ + k, none⟩ = some (.int .u8 c) := by
        have := hcell (at_ + k) (by omega)
        rw [← Nat.add_assoc] at this
        rw [this, hcv, List.getD_eq_getElem?_getD]
      have hbk := hb (at_ + k)
      rw [← hcv] at hbk
      obtain ⟨hc0, hc1⟩ := hbk
      have HR := hide (leN_at (by rw [← HN.out]; exact hs) hlt HE.out hcv)
      have hor := or_byte hX HX.out hc0 hc1 (show k ≤ 7 by omega)
      have HPS := hide (byte_step hX HX.out hc0 hc1)
      clear hcell hb hcv HE
      go_wp2
      go_round
      case rel => exact ⟨k + 1, X + c * 2 ^ (8 * k), by omega, by go_num, rfl, (unhide HPS).1, (unhide HPS).2, unhide HR⟩
      case measure => simp [intOf]; omega
    · obtain rfl : k = n := by omega
      have H : Hid (leN ((xs.drop at_).take k) = X) := by have := HE.out; simp [leN] at this; exact this
      clear HE
      go_wp2
      go_ret3
      rw [H.out]
      exact ⟨rfl, rfl⟩

/-- wire.ReadFixed, of every slice, place and width. -/
theorem rfixed_calls {w : World} {v : Value} {xs : List Int} (h : IsB w v xs) (at_ n : Int) :
    Calls Tryd.prog 12 #[v, .int .i64 at_, .int .i64 n] w fun e w' =>
      e = .returned (.tuple #[.int .u64 (rdF xs at_ n).1, .int .i64 (rdF xs at_ n).2.1, .int .i64 (rdF xs at_ n).2.2]) ∧ w' = w := by
  obtain ⟨hb, a, cap, rfl, hl, hm, _, hc⟩ := h
  by_cases ho : at_ < 0 ∨ (xs.length : Int) < at_
  · rw [rdF, if_pos ho]
    exact rfixed_out a _ cap at_ n w ho
  · rw [rdF, if_neg ho]
    by_cases hn : n < 1 ∨ 8 < n
    · rw [if_pos hn]
      exact rfixed_arg a _ cap at_ n w ho hn
    · rw [if_neg hn]
      obtain ⟨i, rfl⟩ := Int.eq_ofNat_of_zero_le (show 0 ≤ at_ by omega)
      obtain ⟨m, rfl⟩ := Int.eq_ofNat_of_zero_le (show 0 ≤ n by omega)
      by_cases hs : (xs.length : Int) - i < m
      · rw [if_pos hs]
        exact rfixed_short a _ cap i m w (by omega) (by omega) (by omega) (by omega) (by omega)
      · rw [if_neg hs]
        obtain ⟨b, off, rfl, hcell⟩ := hc (by omega)
        exact rfixed_in b off _ cap i m xs w rfl hl hm (by omega) (by omega) (by omega) hcell hb
end Go.Proofs.YtmfpkoegpoboiabDoor
