/- What wire.ReadUint answers. -/
import Derived.Test.YtmfpkoegpoboiabDoorSame
namespace Go.Proofs.YtmfpkoegpoboiabDoor
open Go.RowKit

set_option maxHeartbeats 400000 in
/-- A place that is none. -/
theorem ruint_out (a : Option Addr) (n cap : Nat) (at_ : Int) (w : World) (h : at_ < 0 ∨ (n : Int) < at_) :
    Calls Tryd.prog 10 #[.slice a n cap, .int .i64 at_] w fun e w' => e = .returned (.tuple #[.int .u64 0, .int .i64 0, .int .i64 1]) ∧ w' = w := by
  have H : Hid (at_ < 0 ∨ (n : Int) < at_) := h
  clear h
  go_enter Tryd.func10, Tryd.ntmps10
  go_wp2_with (go_at_call 34; refine (outside_yes _ H.out).mono ?_; rintro e w' ⟨rfl, rfl⟩)
  go_ret3
  exact ⟨rfl, rfl⟩

set_option maxHeartbeats 400000 in
/-- The place behind the last byte. -/
theorem ruint_end (a : Option Addr) (n cap : Nat) (w : World) (hn : n ≤ cap) (hc : cap ≤ 9223372036854775807) :
    Calls Tryd.prog 10 #[.slice a n cap, .int .i64 n] w fun e w' => e = .returned (.tuple #[.int .u64 0, .int .i64 0, .int .i64 10]) ∧ w' = w := by
  have hc' : n ≤ 9223372036854775807 := by omega
  go_enter Tryd.func10, Tryd.ntmps10
  go_wp2_with (go_at_call 34; refine (outside_no _ (by omega)).mono ?_; rintro e w' ⟨rfl, rfl⟩)
  all_goals
    refine wp_loop_rounds 1 ?_
    rw [rounds_succ]
    go_wp2
    go_ret3
    exact ⟨rfl, rfl⟩

set_option maxHeartbeats 400000 in
theorem ruint_in (b off n cap at_ : Nat) (xs : List Int) (w : World) (hn : n = xs.length) (hn1 : n ≤ cap) (hc : cap ≤ 9223372036854775807) (hat : at_ < n)
    (hcell : ∀ j, j < n → w.cell? ⟨b, off + j, none⟩ = some (.int .u8 (xs.getD j 0))) (hb : ∀ j : Nat, 0 ≤ xs[j]?.getD 0 ∧ xs[j]?.getD 0 ≤ 255) :
    Calls Tryd.prog 10 #[.slice (some ⟨b, off, none⟩) n cap, .int .i64 at_] w fun e w' =>
      e = .returned (.tuple #[.int .u64 (rdU xs at_).1, .int .i64 (rdU xs at_).2.1, .int .i64 (rdU xs at_).2.2]) ∧ w' = w := by
  have hca : ¬ cap = at_ := by omega
  have HN : Hid (n = xs.length) := hn
  clear hn
  go_enter Tryd.func10, Tryd.ntmps10
  go_wp2_with (go_at_call 34; refine (outside_no _ (by omega)).mono ?_; rintro e w' ⟨rfl, rfl⟩)
  go_loop [7, 17] (fun v i => ∃ (k : Nat) (X : Int), at_ + k ≤ n ∧ k ≤ 9 ∧ i = .int .i64 k ∧ v = .int .u64 X ∧ 0 ≤ X ∧ Hid (X < 128 ^ k) ∧ Hid (rU 0 0 (xs.drop at_) = rU k X (xs.drop (at_ + k)))) (fun _ i => n - (intOf i).toNat)
  case atStart => exact ⟨0, 0, by omega, by omega, rfl, rfl, by omega, (by decide : (0 : Int) < 128 ^ 0), rfl⟩
  case round =>
    obtain ⟨k, X, hk, hk9, rfl, rfl, hX, HX, HE⟩ := hrel
    by_cases hlt : at_ + k < n
    · obtain ⟨c, hcv⟩ : ∃ c, c = xs[at_ + k]?.getD 0 := ⟨_, rfl⟩
      have hce : w'.cell? ⟨b, off + at_ + k, none⟩ = some (.int .u8 c) := by
        have := hcell (at_ + k) hlt
        rw [← Nat.add_assoc] at this
        rw [this, hcv, List.getD_eq_getElem?_getD]
      have hbk := hb (at_ + k)
      rw [← hcv] at hbk
      obtain ⟨hc0, hc1⟩ := hbk
      have hnot := not128 hc0 hc1
      have HC : Hid (c = xs[at_ + k]?.getD 0) := hcv
      clear hcell hb hcv
      have HR : Hid (rU 0 0 (xs.drop at_) = _) := rU_at (HN.out ▸ hlt) HE.out HC.out
      clear HE
      have HD := fun r h => rdU_of (r := r) (show at_ ≤ xs.length by rw [← HN.out]; omega) (HR.out.trans h)
      have HF := hide HD
      clear HD
      by_cases hA : k = 9
      · subst hA
        by_cases hA1 : 1 < c
        · have H := hide (unhide HF _ (if_pos ⟨rfl, hA1⟩))
          clear HF HR
          go_wp2
          go_ret3
          rw [unhide H]
          exact ⟨rfl, rfl⟩
        · by_cases hz : c < 1
          · have H := hide (unhide HF (0, 0, 11) (by rw [if_neg (by omega), if_pos (by omega)]))
            clear HF HR
            go_wp2
            go_ret3
            rw [unhide H]
            exact ⟨rfl, rfl⟩
          · have H := hide (unhide HF (X + c * 128 ^ 9, 9 + 1, 0) (by rw [if_neg (by omega), if_neg (by omega), if_pos (by omega)]))
            clear HF HR
            go_wp2
            go_ret3
            rw [unhide H]
            exact ⟨ret3 (or_last hX HX.out hc0 (by omega)) (by simp; omega) rfl, rfl⟩
      · by_cases hz : c < 1
        · by_cases hk0 : 0 < k
          · have H := hide (unhide HF (0, 0, 11) (by rw [if_neg (by omega), if_pos (by omega)]))
            clear HF HR
            go_wp2
            go_ret3
            rw [unhide H]
            exact ⟨rfl, rfl⟩
          · have H := hide (unhide HF (X + c * 128 ^ k, k + 1, 0) (by rw [if_neg (by omega), if_neg (by omega), if_pos (by omega)]))
            clear HF HR
            go_wp2
            go_ret3
            rw [unhide H]
            exact ⟨ret3 (or_first hX HX.out (by omega) (by omega)) (by simp; omega) rfl, rfl⟩
        · by_cases h128 : c < 128
          · have hor := or_group hX HX.out hc0 (Or.inl (show k ≤ 8 by omega))
            have H := hide (unhide HF (X + c * 128 ^ k, k + 1, 0) (by rw [if_neg (by omega), if_neg (by omega), if_pos (by omega)]))
            clear HF HR
            go_wp2
            go_ret3
            rw [unhide H]
            exact ⟨ret3 (by rw [show c % 128 = c by omega]) (by simp; omega) rfl, rfl⟩
          · have hor := or_group hX HX.out hc0 (Or.inl (show k ≤ 8 by omega))
            have hps := pow_step hX HX.out (show 128 ≤ c by omega) hc1
            have HP : Hid (c % 128 = c - 128) := by show _ = _; omega
            have H2 := hide (HR.out.trans (show _ = rU (k + 1) (X + (c - 128) * 128 ^ k) (xs.drop (at_ + (k + 1))) by rw [if_neg (by omega), if_neg (by omega), if_neg (by omega)]))
            have HPS := hide hps
            clear HF HR hps
            go_wp2
            go_round
            case rel => exact ⟨k + 1, X + c % 128 * 128 ^ k, by omega, by omega, by go_num, by go_num, by rw [HP.out]; exact (unhide HPS).1, by rw [HP.out]; exact (unhide HPS).2, by rw [HP.out]; exact unhide H2⟩
            case measure => simp [intOf]; omega
    · have H := hide (rdU_of (show at_ ≤ xs.length by rw [← HN.out]; omega) (show rU 0 0 (xs.drop at_) = (0, 0, 10) by rw [HE.out, List.drop_eq_nil_of_le (by rw [← HN.out]; omega), rU]))
      clear HE
      go_wp2
      go_ret3
      rw [unhide H]
      exact ⟨rfl, rfl⟩

/-- wire.ReadUint, of every slice and every place. -/
theorem ruint_calls {w : World} {v : Value} {xs : List Int} (h : IsB w v xs) (at_ : Int) :
    Calls Tryd.prog 10 #[v, .int .i64 at_] w fun e w' =>
      e = .returned (.tuple #[.int .u64 (rdU xs at_).1, .int .i64 (rdU xs at_).2.1, .int .i64 (rdU xs at_).2.2]) ∧ w' = w := by
  obtain ⟨hb, a, cap, rfl, hl, hm, _, hc⟩ := h
  by_cases ho : at_ < 0 ∨ (xs.length : Int) < at_
  · rw [rdU, if_pos ho]
    exact ruint_out a _ cap at_ w ho
  · obtain ⟨i, rfl⟩ := Int.eq_ofNat_of_zero_le (show 0 ≤ at_ by omega)
    by_cases hi : i < xs.length
    · obtain ⟨b, off, rfl, hcell⟩ := hc (by omega)
      exact ruint_in b off _ cap i xs w rfl hl hm hi hcell hb
    · obtain rfl : i = xs.length := by omega
      rw [rdU_of (Nat.le_refl _) (show rU 0 0 (xs.drop xs.length) = (0, 0, 10) by simp [rU])]
      exact ruint_end a _ cap w hl hm
end Go.Proofs.YtmfpkoegpoboiabDoor
