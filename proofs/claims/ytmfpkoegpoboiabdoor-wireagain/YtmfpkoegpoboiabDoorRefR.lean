/- What the document's ReadUint answers: as wire's. -/
import Derived.Test.YtmfpkoegpoboiabDoorRefU
import Derived.Test.YtmfpkoegpoboiabDoorRUint
namespace Go.Proofs.YtmfpkoegpoboiabDoor
open Go.RowKit

theorem pow128_le {k : Nat} (h : k ≤ 9) : (1 : Int) ≤ 128 ^ k ∧ (128 : Int) ^ k ≤ 9223372036854775808 := by
  have h1 : (128 : Int) ^ k ≤ 128 ^ 9 := by exact_mod_cast Nat.pow_le_pow_right (by decide : 0 < 128) h
  have h2 : (1 : Int) ≤ 128 ^ k := by exact_mod_cast Nat.one_le_pow k 128 (by decide)
  have e : (128 : Int) ^ 9 = 9223372036854775808 := by decide +kernel
  omega

set_option maxHeartbeats 400000 in
theorem refRUint_out (a : Option Addr) (n cap : Nat) (at_ : Int) (w : World) (h : at_ < 0 ∨ (n : Int) < at_) :
    Calls Tryd.prog 45 #[.slice a n cap, .int .i64 at_] w fun e w' => e = .returned (.tuple #[.int .u64 0, .int .i64 0, .int .i64 1]) ∧ w' = w := by
  have H : Hid (at_ < 0 ∨ (n : Int) < at_) := h
  clear h
  go_enter Tryd.func45, Tryd.ntmps45
  go_wp2_with (go_at_call 48; refine (refOutside_yes _ H.out).mono ?_; rintro e w' ⟨rfl, rfl⟩)
  go_ret3
  exact ⟨rfl, rfl⟩

set_option maxHeartbeats 400000 in
/-- The place behind the last byte. -/
theorem refRUint_end (a : Option Addr) (n cap : Nat) (w : World) (hn : n ≤ 9223372036854775807) :
    Calls Tryd.prog 45 #[.slice a n cap, .int .i64 n] w fun e w' => e = .returned (.tuple #[.int .u64 0, .int .i64 0, .int .i64 10]) ∧ w' = w := by
  go_enter Tryd.func45, Tryd.ntmps45
  go_wp2_with (go_at_call 48; refine (refOutside_no _ (by omega)).mono ?_; rintro e w' ⟨rfl, rfl⟩)
  refine wp_loop_rounds 1 ?_
  rw [rounds_succ]
  go_wp2
  go_ret3
  exact ⟨rfl, rfl⟩

set_option maxHeartbeats 1000000 in
theorem refRUint_in (b off n cap at_ : Nat) (xs : List Int) (w : World) (hn : n = xs.length) (hn1 : n ≤ cap) (hc : cap ≤ 9223372036854775807) (hat : at_ < n)
    (hcell : ∀ j, j < n → w.cell? ⟨b, off + j, none⟩ = some (.int .u8 (xs.getD j 0))) (hb : ∀ j : Nat, 0 ≤ xs[j]?.getD 0 ∧ xs[j]?.getD 0 ≤ 255) :
    Calls Tryd.prog 45 #[.slice (some ⟨b, off, none⟩) n cap, .int .i64 at_] w fun e w' =>
      e = .returned (.tuple #[.int .u64 (rdU xs at_).1, .int .i64 (rdU xs at_).2.1, .int .i64 (rdU xs at_).2.2]) ∧ w' = w := by
  have HN : Hid (n = xs.length) := hn
  have HB := hide hb
  have HCE := hide hcell
  clear hn hb hcell
  go_enter Tryd.func45, Tryd.ntmps45
  go_wp2_with (go_at_call 48; refine (refOutside_no _ (by omega)).mono ?_; rintro e w' ⟨rfl, rfl⟩)
  go_loop [7, 8, 9] (fun v u i => ∃ (k : Nat) (X U : Int), at_ + k ≤ n ∧ k ≤ 9 ∧ i = .int .i64 k ∧ v = .int .u64 X ∧ u = .int .u64 U ∧ 0 ≤ X ∧ X < U ∧ 1 ≤ U ∧ U ≤ 9223372036854775808 ∧ Hid (U = 128 ^ k) ∧ Hid (rU 0 0 (xs.drop at_) = rU k X (xs.drop (at_ + k)))) (fun _ _ i => n - (intOf i).toNat)
  case atStart => exact ⟨0, 0, 1, by omega, by omega, rfl, rfl, rfl, by omega, by omega, by omega, by omega, (by decide : (1 : Int) = 128 ^ 0), rfl⟩
  case round =>
    obtain ⟨k, X, U, hk, hk9, rfl, rfl, rfl, hX, hXU, hU1, hU9, HU, HE⟩ := hrel
    by_cases hlt : at_ + k < n
    · obtain ⟨c, hcv⟩ : ∃ c, c = xs[at_ + k]?.getD 0 := ⟨_, rfl⟩
      have hce : w'.cell? ⟨b, off + (at_ + k), none⟩ = some (.int .u8 c) := by
        rw [unhide HCE (at_ + k) hlt, hcv, List.getD_eq_getElem?_getD]
      have hbk := unhide HB (at_ + k)
      rw [← hcv] at hbk
      obtain ⟨hc0, hc1⟩ := hbk
      have HC : Hid (c = xs[at_ + k]?.getD 0) := hcv
      clear hcv
      have HR : Hid (rU 0 0 (xs.drop at_) = _) := rU_at (HN.out ▸ hlt) HE.out HC.out
      clear HE
      have HD := fun r h => rdU_of (r := r) (show at_ ≤ xs.length by rw [← HN.out]; omega) (HR.out.trans h)
      have HF := hide HD
      clear HD
      by_cases hA : k = 9
      · subst hA
        have hU : U = 9223372036854775808 := by rw [HU.out]; decide +kernel
        subst hU
        by_cases hA1 : 1 < c
        · have H := hide (unhide HF _ (if_pos ⟨rfl, hA1⟩))
          clear HF HR
          go_wp2
          go_ret3
          rw [unhide H]
          exact ⟨rfl, rfl⟩
        · by_cases hz : c < 1
          · obtain rfl : c = 0 := by omega
            have H := hide (unhide HF (0, 0, 11) (by rw [if_neg (by omega), if_pos (by omega)]))
            clear HF HR
            go_wp2
            go_ret3
            rw [unhide H]
            exact ⟨rfl, rfl⟩
          · obtain rfl : c = 1 := by omega
            have H := hide (unhide HF (X + 1 * 128 ^ 9, 9 + 1, 0) (by rw [if_neg (by omega), if_neg (by omega), if_pos (by omega)]))
            have e9 : (128 : Int) ^ 9 = 9223372036854775808 := by decide +kernel
            have E9 := hide e9
            clear HF HR e9
            go_wp2
            go_ret3
            rw [unhide H, E9.out]
            exact ⟨ret3 (by omega) (by simp; omega) rfl, rfl⟩
      · have hU8 : U ≤ 72057594037927936 := by
          have : (128 : Int) ^ k ≤ 128 ^ 8 := by exact_mod_cast Nat.pow_le_pow_right (by decide : 0 < 128) (show k ≤ 8 by omega)
          have e : (128 : Int) ^ 8 = 72057594037927936 := by decide +kernel
          rw [HU.out]; omega
        obtain ⟨P, hP⟩ : ∃ P, P = U * (c % 128) := ⟨_, rfl⟩
        have hP0 : 0 ≤ P := by rw [hP]; exact Int.mul_nonneg (by omega) (by omega)
        have hP1 : P ≤ U * 127 := by rw [hP]; exact Int.mul_le_mul_of_nonneg_left (by omega) (by omega)
        have hw1 : IntKind.u64.wrap (U * (c % 128)) = P := by rw [← hP]; exact IntWalk.u64_in _ ⟨by omega, by omega⟩
        have hw2 : IntKind.u64.wrap (X + P) = X + P := IntWalk.u64_in _ ⟨by omega, by omega⟩
        have hw3 : IntKind.u64.wrap (U * 128) = U * 128 := IntWalk.u64_in _ ⟨by omega, by omega⟩
        have HP := hide hP
        clear hP
        by_cases hz : c < 1
        · obtain rfl : c = 0 := by omega
          by_cases hk0 : 0 < k
          · have H := hide (unhide HF (0, 0, 11) (by rw [if_neg (by omega), if_pos (by omega)]))
            clear HF HR
            go_wp2
            go_ret3
            rw [unhide H]
            exact ⟨rfl, rfl⟩
          · obtain rfl : k = 0 := by omega
            rw [Nat.add_zero] at hce
            have hU : U = 1 := by rw [HU.out]; decide
            subst hU
            have H := hide (unhide HF (X + 0 * 128 ^ 0, 0 + 1, 0) (by rw [if_neg (by omega), if_neg (by omega), if_pos (by omega)]))
            clear HF HR
            go_wp2
            go_ret3
            rw [unhide H]
            exact ⟨ret3 (by simp; try omega) (by simp; try omega) rfl, rfl⟩
        · by_cases h128 : c < 128
          · have H := hide (unhide HF (X + c * 128 ^ k, k + 1, 0) (by rw [if_neg (by omega), if_neg (by omega), if_pos (by omega)]))
            clear HF HR
            go_wp2
            go_ret3
            rw [unhide H]
            exact ⟨ret3 (by rw [HP.out, HU.out, show c % 128 = c by omega, Int.mul_comm c]) (by simp; omega) rfl, rfl⟩
          · have hps := pow_step hX (HU.out ▸ hXU) (show 128 ≤ c by omega) hc1
            have H2 := hide (HR.out.trans (show _ = rU (k + 1) (X + (c - 128) * 128 ^ k) (xs.drop (at_ + (k + 1))) by rw [if_neg (by omega), if_neg (by omega), if_neg (by omega)]))
            have HE2 : Hid (X + P = X + (c - 128) * 128 ^ k) := by show _ = _; rw [HP.out, HU.out, show c % 128 = c - 128 by omega, Int.mul_comm (c - 128)]
            have HU2 : Hid (U * 128 = 128 ^ (k + 1)) := by show _ = _; rw [HU.out, Int.pow_succ]
            clear HF HR hps
            go_wp2
            go_round
            case rel => exact ⟨k + 1, X + P, U * 128, by omega, by omega, by go_num, by first | rfl | go_num, by first | rfl | go_num, by omega, by omega, by omega, by omega, HU2, by show _ = _; rw [HE2.out]; exact unhide H2⟩
            case measure => simp [intOf]; omega
    · have H := hide (rdU_of (show at_ ≤ xs.length by rw [← HN.out]; omega) (show rU 0 0 (xs.drop at_) = (0, 0, 10) by rw [HE.out, List.drop_eq_nil_of_le (by rw [← HN.out]; omega), rU]))
      clear HE
      go_wp2
      go_ret3
      rw [unhide H]
      exact ⟨rfl, rfl⟩

/-- The document's ReadUint, of every slice and every place. -/
theorem refRUint_calls {w : World} {v : Value} {xs : List Int} (h : IsB w v xs) (at_ : Int) :
    Calls Tryd.prog 45 #[v, .int .i64 at_] w fun e w' =>
      e = .returned (.tuple #[.int .u64 (rdU xs at_).1, .int .i64 (rdU xs at_).2.1, .int .i64 (rdU xs at_).2.2]) ∧ w' = w := by
  obtain ⟨hb, a, cap, rfl, hl, hm, _, hc⟩ := h
  by_cases ho : at_ < 0 ∨ (xs.length : Int) < at_
  · rw [rdU, if_pos ho]
    exact refRUint_out a _ cap at_ w ho
  · obtain ⟨i, rfl⟩ := Int.eq_ofNat_of_zero_le (show 0 ≤ at_ by omega)
    by_cases hi : i < xs.length
    · obtain ⟨b, off, rfl, hcell⟩ := hc (by omega)
      exact refRUint_in b off _ cap i xs w rfl hl hm hi hcell hb
    · obtain rfl : i = xs.length := by omega
      rw [rdU_of (Nat.le_refl _) (show rU 0 0 (xs.drop xs.length) = (0, 0, 10) by simp [rU])]
      exact refRUint_end a _ cap w (by omega)
end Go.Proofs.YtmfpkoegpoboiabDoor
