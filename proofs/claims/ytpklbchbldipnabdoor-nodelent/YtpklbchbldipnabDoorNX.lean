/- What wire.ReadUint answers. What wire.ReadBytes answers. What wire.ReadFixed answers. -/
import Derived.Test.YtpklbchbldipnabDoorNH
import Derived.Test.YtpklbchbldipnabDoorNA
namespace Go.Proofs.YtpklbchbldipnabDoor
open Go.RowKit

set_option maxHeartbeats 400000 in
/-- A place that is none. -/
theorem ruint_out (a : Option Addr) (n cap : Nat) (at_ : Int) (w : World) (h : at_ < 0 ∨ (n : Int) < at_) :
    Calls Tryd.prog 72 #[.slice a n cap, .int .i64 at_] w fun e w' => e = .returned (.tuple #[.int .u64 0, .int .i64 0, .int .i64 1]) ∧ w' = w := by
  have H : Hid (at_ < 0 ∨ (n : Int) < at_) := h
  clear h
  go_enter Tryd.func72, Tryd.ntmps72
  go_wp2_with (go_at_call 82; refine (outside_yes _ H.out).mono ?_; rintro e w' ⟨rfl, rfl⟩)
  go_ret3
  exact ⟨rfl, rfl⟩

set_option maxHeartbeats 400000 in
/-- The place behind the last byte. -/
theorem ruint_end (a : Option Addr) (n cap : Nat) (w : World) (hn : n ≤ cap) (hc : cap ≤ 9223372036854775807) :
    Calls Tryd.prog 72 #[.slice a n cap, .int .i64 n] w fun e w' => e = .returned (.tuple #[.int .u64 0, .int .i64 0, .int .i64 10]) ∧ w' = w := by
  have hc' : n ≤ 9223372036854775807 := by omega
  go_enter Tryd.func72, Tryd.ntmps72
  go_wp2_with (go_at_call 82; refine (outside_no _ (by omega)).mono ?_; rintro e w' ⟨rfl, rfl⟩)
  all_goals
    refine wp_loop_rounds 1 ?_
    rw [rounds_succ]
    go_wp2
    go_ret3
    exact ⟨rfl, rfl⟩

set_option maxHeartbeats 400000 in
theorem ruint_in (b off n cap at_ : Nat) (xs : List Int) (w : World) (hn : n = xs.length) (hn1 : n ≤ cap) (hc : cap ≤ 9223372036854775807) (hat : at_ < n)
    (hcell : ∀ j, j < n → w.cell? ⟨b, off + j, none⟩ = some (.int .u8 (xs.getD j 0))) (hb : ∀ j : Nat, 0 ≤ xs[j]?.getD 0 ∧ xs[j]?.getD 0 ≤ 255) :
    Calls Tryd.prog 72 #[.slice (some ⟨b, off, none⟩) n cap, .int .i64 at_] w fun e w' =>
      e = .returned (.tuple #[.int .u64 (rdU xs at_).1, .int .i64 (rdU xs at_).2.1, .int .i64 (rdU xs at_).2.2]) ∧ w' = w := by
  have hca : ¬ cap = at_ := by omega
  have HN : Hid (n = xs.length) := hn
  clear hn
  go_enter Tryd.func72, Tryd.ntmps72
  go_wp2_with (go_at_call 82; refine (outside_no _ (by omega)).mono ?_; rintro e w' ⟨rfl, rfl⟩)
  go_loop [7, 17] (fun v i => ∃ (k : Nat) (X : Int), at_ + k ≤ n ∧ k ≤ 9 ∧ i = .int .i64 k ∧ v = .int .u64 X ∧ 0 ≤ X ∧ Hid (X < 128 ^ k) ∧ Hid (rU 0 0 (xs.drop at_) = rU k X (xs.drop (at_ + k)))) (fun _ i => n - (intOf i).toNat)
  case atStart => exact ⟨0, 0, by omega, by omega, rfl, rfl, by omega, (by decide : (0 : Int) < 128 ^ 0), rfl⟩
  case round =>
    obtain ⟨k, X, hk, hk9, rfl, rfl, hX, HX, HE⟩ := hrel
    by_cases hlt : at_ + k < n
    · obtain ⟨c, hcv⟩ : ∃ c, c = xs[at_ + k]?.getD 0 := ⟨_, rfl⟩
      have hce : w'.cell? ⟨b, off + at_ + k, none⟩ = some (.int .u8 c) := by
        have := hcell (at_ + k) hlt
        rw [← Nat.add_assoc] at this
        rw [this, hcv, List.getD_eq_getElem?_getD]
      have hbk := hb (at_ + k)
      rw [← hcv] at hbk
      obtain ⟨hc0, hc1⟩ := hbk
      have hnot := not128 hc0 hc1
      have HC : Hid (c = xs[at_ + k]?.getD 0) := hcv
      clear hcell hb hcv
      have HR : Hid (rU 0 0 (xs.drop at_) = _) := rU_at (HN.out ▸ hlt) HE.out HC.out
      clear HE
      have HD := fun r h => rdU_of (r := r) (show at_ ≤ xs.length by rw [← HN.out]; omega) (HR.out.trans h)
      have HF := hide HD
      clear HD
      by_cases hA : k = 9
      · subst hA
        by_cases hA1 : 1 < c
        · have H := hide (unhide HF _ (if_pos ⟨rfl, hA1⟩))
          clear HF HR
          go_wp2
          go_ret3
          rw [unhide H]
          exact ⟨rfl, rfl⟩
        · by_cases hz : c < 1
          · have H := hide (unhide HF (0, 0, 11) (by rw [if_neg (by omega), if_pos (by omega)]))
            clear HF HR
            go_wp2
            go_ret3
            rw [unhide H]
            exact ⟨rfl, rfl⟩
          · have H := hide (unhide HF (X + c * 128 ^ 9, 9 + 1, 0) (by rw [if_neg (by omega), if_neg (by omega), if_pos (by omega)]))
            clear HF HR
            go_wp2
            go_ret3
            rw [unhide H]
            exact ⟨ret3 (or_last hX HX.out hc0 (by omega)) (by simp; omega) rfl, rfl⟩
      · by_cases hz : c < 1
        · by_cases hk0 : 0 < k
          · have H := hide (unhide HF (0, 0, 11) (by rw [if_neg (by omega), if_pos (by omega)]))
            clear HF HR
            go_wp2
            go_ret3
            rw [unhide H]
            exact ⟨rfl, rfl⟩
          · have H := hide (unhide HF (X + c * 128 ^ k, k + 1, 0) (by rw [if_neg (by omega), if_neg (by omega), if_pos (by omega)]))
            clear HF HR
            go_wp2
            go_ret3
            rw [unhide H]
            exact ⟨ret3 (or_first hX HX.out (by omega) (by omega)) (by simp; omega) rfl, rfl⟩
        · by_cases h128 : c < 128
          · have hor := or_group hX HX.out hc0 (Or.inl (show k ≤ 8 by omega))
            have H := hide (unhide HF (X + c * 128 ^ k, k + 1, 0) (by rw [if_neg (by omega), if_neg (by omega), if_pos (by omega)]))
            clear HF HR
            go_wp2
            go_ret3
            rw [unhide H]
            exact ⟨ret3 (by rw [show c % 128 = c by omega]) (by simp; omega) rfl, rfl⟩
          · have hor := or_group hX HX.out hc0 (Or.inl (show k ≤ 8 by omega))
            have hps := pow_step hX HX.out (show 128 ≤ c by omega) hc1
            have HP : Hid (c % 128 = c - 128) := by show _ = _; omega
            have H2 := hide (HR.out.trans (show _ = rU (k + 1) (X + (c - 128) * 128 ^ k) (xs.drop (at_ + (k + 1))) by rw [if_neg (by omega), if_neg (by omega), if_neg (by omega)]))
            have HPS := hide hps
            clear HF HR hps
            go_wp2
            go_round
            case rel => exact ⟨k + 1, X + c % 128 * 128 ^ k, by omega, by omega, by go_num, by go_num, by rw [HP.out]; exact (unhide HPS).1, by rw [HP.out]; exact (unhide HPS).2, by rw [HP.out]; exact unhide H2⟩
            case measure => simp [intOf]; omega
    · have H := hide (rdU_of (show at_ ≤ xs.length by rw [← HN.out]; omega) (show rU 0 0 (xs.drop at_) = (0, 0, 10) by rw [HE.out, List.drop_eq_nil_of_le (by rw [← HN.out]; omega), rU]))
      clear HE
      go_wp2
      go_ret3
      rw [unhide H]
      exact ⟨rfl, rfl⟩

/-- wire.ReadUint, of every slice and every place. -/
theorem ruint_calls {w : World} {v : Value} {xs : List Int} (h : IsB w v xs) (at_ : Int) :
    Calls Tryd.prog 72 #[v, .int .i64 at_] w fun e w' =>
      e = .returned (.tuple #[.int .u64 (rdU xs at_).1, .int .i64 (rdU xs at_).2.1, .int .i64 (rdU xs at_).2.2]) ∧ w' = w := by
  obtain ⟨hb, a, cap, rfl, hl, hm, _, hc⟩ := h
  by_cases ho : at_ < 0 ∨ (xs.length : Int) < at_
  · rw [rdU, if_pos ho]
    exact ruint_out a _ cap at_ w ho
  · obtain ⟨i, rfl⟩ := Int.eq_ofNat_of_zero_le (show 0 ≤ at_ by omega)
    by_cases hi : i < xs.length
    · obtain ⟨b, off, rfl, hcell⟩ := hc (by omega)
      exact ruint_in b off _ cap i xs w rfl hl hm hi hcell hb
    · obtain rfl : i = xs.length := by omega
      rw [rdU_of (Nat.le_refl _) (show rU 0 0 (xs.drop xs.length) = (0, 0, 10) by simp [rU])]
      exact ruint_end a _ cap w hl hm
end Go.Proofs.YtpklbchbldipnabDoor

namespace Go.Proofs.YtpklbchbldipnabDoor
open Go.RowKit

set_option maxHeartbeats 400000 in
theorem rbytes_out (a : Option Addr) (len cap : Nat) (at_ most : Int) (w : World) (h : at_ < 0 ∨ (len : Int) < at_) :
    Calls Tryd.prog 83 #[.slice a len cap, .int .i64 at_, .int .i64 most] w fun e w' => e = .returned (.tuple #[.slice none 0 0, .int .i64 0, .int .i64 1]) ∧ w' = w := by
  have H : Hid (at_ < 0 ∨ (len : Int) < at_) := h
  clear h
  go_enter Tryd.func83, Tryd.ntmps83
  go_wp2_with (go_at_call 82; refine (outside_yes _ H.out).mono ?_; rintro e w' ⟨rfl, rfl⟩)
  go_ret3
  exact ⟨rfl, rfl⟩

set_option maxHeartbeats 400000 in
theorem rbytes_neg (a : Option Addr) (len cap : Nat) (at_ most : Int) (w : World) (h : ¬ (at_ < 0 ∨ (len : Int) < at_)) (hm : most < 0) :
    Calls Tryd.prog 83 #[.slice a len cap, .int .i64 at_, .int .i64 most] w fun e w' => e = .returned (.tuple #[.slice none 0 0, .int .i64 0, .int .i64 1]) ∧ w' = w := by
  have H : Hid (¬ (at_ < 0 ∨ (len : Int) < at_)) := h
  clear h
  go_enter Tryd.func83, Tryd.ntmps83
  go_wp2_with (go_at_call 82; refine (outside_no _ H.out).mono ?_; rintro e w' ⟨rfl, rfl⟩)
  go_ret3
  exact ⟨rfl, rfl⟩

set_option maxHeartbeats 400000 in
theorem rbytes_err (a : Option Addr) (len cap : Nat) (at_ most : Int) (N p er : Int) (w : World) (h : ¬ (at_ < 0 ∨ (len : Int) < at_)) (hm : 0 ≤ most) (he : (er != 0) = true)
    (hU : Calls Tryd.prog 72 #[.slice a len cap, .int .i64 at_] w fun e w' => e = .returned (.tuple #[.int .u64 N, .int .i64 p, .int .i64 er]) ∧ w' = w) :
    Calls Tryd.prog 83 #[.slice a len cap, .int .i64 at_, .int .i64 most] w fun e w' => e = .returned (.tuple #[.slice none 0 0, .int .i64 0, .int .i64 er]) ∧ w' = w := by
  have H : Hid (¬ (at_ < 0 ∨ (len : Int) < at_)) := h
  have HU := hide hU
  clear h hU
  go_enter Tryd.func83, Tryd.ntmps83
  go_wp2_with fail
  refine (outside_no _ H.out).mono ?_
  rintro e w' ⟨rfl, hw'⟩
  obtain rfl := hw'.symm
  clear hw'
  go_wp2_with fail
  refine (unhide HU).mono ?_
  rintro e w' ⟨rfl, hw'⟩
  obtain rfl := hw'.symm
  clear hw'
  go_wp2
  go_ret3
  exact ⟨rfl, rfl⟩

set_option maxHeartbeats 400000 in
theorem rbytes_big (a : Option Addr) (len cap : Nat) (at_ most : Int) (N p : Int) (w : World) (h : ¬ (at_ < 0 ∨ (len : Int) < at_)) (hm : 0 ≤ most) (hm1 : most ≤ 9223372036854775807) (hN : most < N)
    (hU : Calls Tryd.prog 72 #[.slice a len cap, .int .i64 at_] w fun e w' => e = .returned (.tuple #[.int .u64 N, .int .i64 p, .int .i64 0]) ∧ w' = w) :
    Calls Tryd.prog 83 #[.slice a len cap, .int .i64 at_, .int .i64 most] w fun e w' => e = .returned (.tuple #[.slice none 0 0, .int .i64 0, .int .i64 13]) ∧ w' = w := by
  have H : Hid (¬ (at_ < 0 ∨ (len : Int) < at_)) := h
  have HU := hide hU
  clear h hU
  go_enter Tryd.func83, Tryd.ntmps83
  go_wp2_with fail
  refine (outside_no _ H.out).mono ?_
  rintro e w' ⟨rfl, hw'⟩
  obtain rfl := hw'.symm
  clear hw'
  go_wp2_with fail
  refine (unhide HU).mono ?_
  rintro e w' ⟨rfl, hw'⟩
  obtain rfl := hw'.symm
  clear hw'
  go_wp2
  go_ret3
  exact ⟨rfl, rfl⟩

set_option maxHeartbeats 400000 in
theorem rbytes_short (a : Option Addr) (len cap : Nat) (at_ most : Int) (N p : Int) (w : World) (_hl : len ≤ 9223372036854775807) (h : ¬ (at_ < 0 ∨ (len : Int) < at_)) (hm : 0 ≤ most) (hm1 : most ≤ 9223372036854775807) (hN : N ≤ most) (_hp0 : 0 ≤ p) (hp : p ≤ len)
    (hs : (len : Int) - p < N)
    (hU : Calls Tryd.prog 72 #[.slice a len cap, .int .i64 at_] w fun e w' => e = .returned (.tuple #[.int .u64 N, .int .i64 p, .int .i64 0]) ∧ w' = w) :
    Calls Tryd.prog 83 #[.slice a len cap, .int .i64 at_, .int .i64 most] w fun e w' => e = .returned (.tuple #[.slice none 0 0, .int .i64 0, .int .i64 10]) ∧ w' = w := by
  have H : Hid (¬ (at_ < 0 ∨ (len : Int) < at_)) := h
  have HU := hide hU
  clear h hU
  go_enter Tryd.func83, Tryd.ntmps83
  go_wp2_with fail
  refine (outside_no _ H.out).mono ?_
  rintro e w' ⟨rfl, hw'⟩
  obtain rfl := hw'.symm
  clear hw'
  go_wp2_with fail
  refine (unhide HU).mono ?_
  rintro e w' ⟨rfl, hw'⟩
  obtain rfl := hw'.symm
  clear hw'
  go_wp2
  go_ret3
  exact ⟨rfl, rfl⟩

set_option maxRecDepth 100000 in
set_option maxHeartbeats 400000 in
theorem rbytes_in (b off len cap : Nat) (at_ most : Int) (N p : Nat) (xs : List Int) (w : World) (hn : len = xs.length) (hl : len ≤ cap) (_hc : cap ≤ 9223372036854775807) (hr : len ≤ 140737488355328) (h : ¬ (at_ < 0 ∨ (len : Int) < at_)) (hm : 0 ≤ most) (hm1 : most ≤ 9223372036854775807) (hN : (N : Int) ≤ most) (hp : p + N ≤ len)
    (hcell : ∀ j, j < len → w.cell? ⟨b, off + j, none⟩ = some (.int .u8 (xs.getD j 0)))
    (hU : Calls Tryd.prog 72 #[.slice (some ⟨b, off, none⟩) len cap, .int .i64 at_] w fun e w' => e = .returned (.tuple #[.int .u64 (N : Int), .int .i64 (p : Int), .int .i64 0]) ∧ w' = w) :
    Calls Tryd.prog 83 #[.slice (some ⟨b, off, none⟩) len cap, .int .i64 at_, .int .i64 most] w fun e w' => ∃ v, e = .returned (.tuple #[v, .int .i64 ((p : Int) + N), .int .i64 0]) ∧
      w'.ownsRow w.heap.size 5 1 v N (((xs.drop p).take N).map (Value.int .u8)) ∧ Below w.heap.size w w' := by
  obtain ⟨i0, hi, hz0, hz1, hz2⟩ := info_parts info8
  have H : Hid (¬ (at_ < 0 ∨ (len : Int) < at_)) := h
  have HU := hide hU
  have hnews : ∀ j u, (((xs.drop p).take N).map (Value.int .u8))[j]? = some u → w.cell? ⟨b, off + p + j, none⟩ = some u := by
    intro j u hu
    simp only [List.getElem?_map, Option.map_eq_some_iff] at hu
    obtain ⟨x, hx, rfl⟩ := hu
    have hjl := (List.getElem?_eq_some_iff.1 hx).1
    rw [List.length_take, List.length_drop] at hjl
    rw [List.getElem?_take_of_lt (by omega), List.getElem?_drop] at hx
    rw [Nat.add_assoc, hcell (p + j) (by omega), List.getD_eq_getElem?_getD, hx]
    rfl
  have HNW := hide hnews
  have hlen : (((xs.drop p).take N).map (Value.int .u8)).length = N := by simp; omega
  have HL := hide hlen
  clear h hU hcell hn hnews hlen
  by_cases h0 : N = 0
  · subst h0
    by_cases hcp : cap = p
    · subst hcp
      go_enter Tryd.func83, Tryd.ntmps83
      go_wp2_with fail
      refine (outside_no _ H.out).mono ?_
      rintro e w' ⟨rfl, hw'⟩
      obtain rfl := hw'.symm
      clear hw'
      go_wp2_with fail
      refine (unhide HU).mono ?_
      rintro e w' ⟨rfl, hw'⟩
      obtain rfl := hw'.symm
      clear hw'
      go_wp2_with (at_builtin; refine wpList_append_own _ rfl _ _ 25 rfl w.heap.size 5 i0 (.int .u8 0) 1 1 Tryd.underlying25 hi hz0 hz1 hz2 rfl (by decide) (.slice none 0 0) 0 [] rfl (World.ownsRow_nil _ _ _ _) _ 0 _ [] rfl rfl (fun j u hj => by simp at hj) (fun u hu => by simp at hu) (by unfold maxLen; omega) (by omega) (Nat.le_refl _) ?_; intro v' w1 hown hgrow hnil)
      go_ret3
      exact ⟨v', by go_num, by simpa using hown, (Below.refl _ _).grown hgrow (Nat.le_refl _) (fun k hk => by simp [Value.ownBlock] at hk)⟩
    · go_enter Tryd.func83, Tryd.ntmps83
      go_wp2_with fail
      refine (outside_no _ H.out).mono ?_
      rintro e w' ⟨rfl, hw'⟩
      obtain rfl := hw'.symm
      clear hw'
      go_wp2_with fail
      refine (unhide HU).mono ?_
      rintro e w' ⟨rfl, hw'⟩
      obtain rfl := hw'.symm
      clear hw'
      go_wp2_with (at_builtin; refine wpList_append_own _ rfl _ _ 25 rfl w.heap.size 5 i0 (.int .u8 0) 1 1 Tryd.underlying25 hi hz0 hz1 hz2 rfl (by decide) (.slice none 0 0) 0 [] rfl (World.ownsRow_nil _ _ _ _) _ 0 _ [] rfl rfl (fun j u hj => by simp at hj) (fun u hu => by simp at hu) (by unfold maxLen; omega) (by omega) (Nat.le_refl _) ?_; intro v' w1 hown hgrow hnil)
      go_ret3
      exact ⟨v', by go_num, by simpa using hown, (Below.refl _ _).grown hgrow (Nat.le_refl _) (fun k hk => by simp [Value.ownBlock] at hk)⟩
  · have hcp : ¬ cap = p := by omega
    have hN0 : 0 < N := by omega
    have HPN : Hid (p + N - p = N) := by show _ = _; omega
    go_enter Tryd.func83, Tryd.ntmps83
    go_wp2_with fail
    refine (outside_no _ H.out).mono ?_
    rintro e w' ⟨rfl, hw'⟩
    obtain rfl := hw'.symm
    clear hw'
    go_wp2_with fail
    refine (unhide HU).mono ?_
    rintro e w' ⟨rfl, hw'⟩
    obtain rfl := hw'.symm
    clear hw'
    go_wp2_with (at_builtin; refine wpList_append_own _ rfl _ _ 25 rfl w.heap.size 5 i0 (.int .u8 0) 1 1 Tryd.underlying25 hi hz0 hz1 hz2 rfl (by decide) (.slice none 0 0) 0 [] rfl (World.ownsRow_nil _ _ _ _) ⟨b, off + p, none⟩ (p + N - p) _ (((xs.drop p).take N).map (Value.int .u8)) rfl (by rw [HL.out]; omega) (fun j u hj => by rw [Addr.add_lit]; exact unhide HNW j u hj) (u8_one _) (by unfold maxLen; omega) (by omega) (Nat.le_refl _) ?_; intro v' w1 hown hgrow hnil)
    go_ret3
    rw [HPN.out, Nat.zero_add] at hown
    exact ⟨v', by go_num, by simpa using hown, (Below.refl _ _).grown hgrow (Nat.le_refl _) (fun k hk => by simp [Value.ownBlock] at hk)⟩

/-- wire.ReadBytes, of every slice, place and bound. -/
theorem rbytes_calls {w : World} {v : Value} {xs : List Int} (h : IsB w v xs) (hr : xs.length ≤ 140737488355328) (at_ most : Int) (hm1 : most ≤ 9223372036854775807) :
    Calls Tryd.prog 83 #[v, .int .i64 at_, .int .i64 most] w fun e w' => ∃ u, e = .returned (.tuple #[u, .int .i64 (rdB xs at_ most).2.1, .int .i64 (rdB xs at_ most).2.2]) ∧
      w'.ownsRow w.heap.size 5 1 u (rdB xs at_ most).1.length ((rdB xs at_ most).1.map (Value.int .u8)) ∧ Below w.heap.size w w' := by
  have hU := ruint_calls h at_
  have hok := fun hh => rdU_ok (at_ := at_) h.mem hh
  obtain ⟨hb, a, cap, rfl, hl, hm, _, hc⟩ := h
  have nil : ∀ (p er : Int) (e : Ending) (w' : World), (e = .returned (.tuple #[.slice none 0 0, .int .i64 p, .int .i64 er]) ∧ w' = w) →
      ∃ u, e = .returned (.tuple #[u, .int .i64 p, .int .i64 er]) ∧ w'.ownsRow w.heap.size 5 1 u ([] : List Int).length (([] : List Int).map (Value.int .u8)) ∧ Below w.heap.size w w' := by
    rintro p er e w' ⟨rfl, rfl⟩
    exact ⟨_, rfl, World.ownsRow_nil _ _ _ _, Below.refl _ _⟩
  unfold rdB
  by_cases ho : at_ < 0 ∨ (xs.length : Int) < at_
  · rw [if_pos ho]
    exact (rbytes_out a _ cap at_ most w ho).mono (nil 0 1)
  rw [if_neg ho]
  by_cases hn : most < 0
  · rw [if_pos hn]
    exact (rbytes_neg a _ cap at_ most w ho hn).mono (nil 0 1)
  rw [if_neg hn]
  by_cases he : (rdU xs at_).2.2 ≠ 0
  · rw [if_pos he]
    exact (rbytes_err a _ cap at_ most _ _ _ w ho (by omega) (by simpa using he) hU).mono (nil 0 _)
  rw [if_neg he]
  have he0 : (rdU xs at_).2.2 = 0 := by simpa using he
  have hk := hok he0
  rw [he0] at hU
  generalize hN : (rdU xs at_).1 = N at *
  generalize hp : (rdU xs at_).2.1 = p at *
  by_cases hbig : most < N
  · rw [if_pos hbig]
    exact (rbytes_big a _ cap at_ most N p w ho (by omega) hm1 hbig hU).mono (nil 0 13)
  rw [if_neg hbig]
  by_cases hs : (xs.length : Int) - p < N
  · rw [if_pos hs]
    exact (rbytes_short a _ cap at_ most N p w (by omega) ho (by omega) hm1 (by omega) (by omega) (by omega) hs hU).mono (nil 0 10)
  rw [if_neg hs]
  obtain ⟨n, rfl⟩ := Int.eq_ofNat_of_zero_le hk.1
  obtain ⟨q, rfl⟩ := Int.eq_ofNat_of_zero_le (show 0 ≤ p by omega)
  obtain ⟨b, off, rfl, hcell⟩ := hc (by omega)
  simp only [Int.toNat_natCast]
  have hlen : ((xs.drop q).take n).length = n := by simp; omega
  rw [hlen]
  exact rbytes_in b off _ cap at_ most n q xs w rfl hl hm hr ho (by omega) hm1 (by omega) (by omega) hcell hU
end Go.Proofs.YtpklbchbldipnabDoor

namespace Go.Proofs.YtpklbchbldipnabDoor
open Go.RowKit

set_option maxRecDepth 100000 in
set_option maxHeartbeats 400000 in
theorem rfixed_out (a : Option Addr) (len cap : Nat) (at_ n : Int) (w : World) (h : at_ < 0 ∨ (len : Int) < at_) :
    Calls Tryd.prog 71 #[.slice a len cap, .int .i64 at_, .int .i64 n] w fun e w' => e = .returned (.tuple #[.int .u64 0, .int .i64 0, .int .i64 1]) ∧ w' = w := by
  have H : Hid (at_ < 0 ∨ (len : Int) < at_) := h
  clear h
  go_enter Tryd.func71, Tryd.ntmps71
  go_wp2_with (go_at_call 82; refine (outside_yes _ H.out).mono ?_; rintro e w' ⟨rfl, rfl⟩)
  go_ret3
  exact ⟨rfl, rfl⟩

set_option maxRecDepth 100000 in
set_option maxHeartbeats 400000 in
theorem rfixed_arg (a : Option Addr) (len cap : Nat) (at_ n : Int) (w : World) (h : ¬ (at_ < 0 ∨ (len : Int) < at_)) (hn : n < 1 ∨ 8 < n) :
    Calls Tryd.prog 71 #[.slice a len cap, .int .i64 at_, .int .i64 n] w fun e w' => e = .returned (.tuple #[.int .u64 0, .int .i64 0, .int .i64 1]) ∧ w' = w := by
  have H : Hid (¬ (at_ < 0 ∨ (len : Int) < at_)) := h
  clear h
  by_cases h1 : n < 1
  · clear hn
    go_enter Tryd.func71, Tryd.ntmps71
    go_wp2_with (go_at_call 82; refine (outside_no _ H.out).mono ?_; rintro e w' ⟨rfl, rfl⟩)
    go_ret3
    exact ⟨rfl, rfl⟩
  · have h2 : 8 < n := by omega
    clear hn
    go_enter Tryd.func71, Tryd.ntmps71
    go_wp2_with (go_at_call 82; refine (outside_no _ H.out).mono ?_; rintro e w' ⟨rfl, rfl⟩)
    go_ret3
    exact ⟨rfl, rfl⟩

set_option maxRecDepth 100000 in
set_option maxHeartbeats 400000 in
theorem rfixed_short (a : Option Addr) (len cap at_ n : Nat) (w : World) (_hl : len ≤ 9223372036854775807) (h : at_ ≤ len) (h1 : 1 ≤ n) (h8 : n ≤ 8) (hs : len < at_ + n) :
    Calls Tryd.prog 71 #[.slice a len cap, .int .i64 at_, .int .i64 n] w fun e w' => e = .returned (.tuple #[.int .u64 0, .int .i64 0, .int .i64 10]) ∧ w' = w := by
  go_enter Tryd.func71, Tryd.ntmps71
  go_wp2_with (go_at_call 82; refine (outside_no _ (by omega)).mono ?_; rintro e w' ⟨rfl, rfl⟩)
  go_ret3
  exact ⟨rfl, rfl⟩

set_option maxRecDepth 100000 in
set_option maxHeartbeats 400000 in
theorem rfixed_in (b off len cap at_ n : Nat) (xs : List Int) (w : World) (hn : len = xs.length) (hn1 : len ≤ cap) (hc : cap ≤ 9223372036854775807) (h1 : 1 ≤ n) (h8 : n ≤ 8) (hs : at_ + n ≤ len)
    (hcell : ∀ j, j < len → w.cell? ⟨b, off + j, none⟩ = some (.int .u8 (xs.getD j 0))) (hb : ∀ j : Nat, 0 ≤ xs[j]?.getD 0 ∧ xs[j]?.getD 0 ≤ 255) :
    Calls Tryd.prog 71 #[.slice (some ⟨b, off, none⟩) len cap, .int .i64 at_, .int .i64 n] w fun e w' =>
      e = .returned (.tuple #[.int .u64 (leN ((xs.drop at_).take n)), .int .i64 (at_ + n), .int .i64 0]) ∧ w' = w := by
  have hca : ¬ cap = at_ := by omega
  have HN : Hid (len = xs.length) := hn
  clear hn
  go_enter Tryd.func71, Tryd.ntmps71
  go_wp2_with (go_at_call 82; refine (outside_no _ (by omega)).mono ?_; rintro e w' ⟨rfl, rfl⟩)
  go_loop [9, 36] (fun v i => ∃ (k : Nat) (X : Int), k ≤ n ∧ i = .int .i64 k ∧ v = .int .u64 X ∧ 0 ≤ X ∧ Hid (X < 2 ^ (8 * k)) ∧ Hid (leN ((xs.drop at_).take n) = X + 2 ^ (8 * k) * leN ((xs.drop (at_ + k)).take (n - k)))) (fun _ i => n - (intOf i).toNat)
  case atStart => exact ⟨0, 0, by omega, rfl, rfl, by omega, (by decide : (0 : Int) < 2 ^ (8 * 0)), by show _ = _; simp⟩
  case round =>
    obtain ⟨k, X, hk, rfl, rfl, hX, HX, HE⟩ := hrel
    by_cases hlt : k < n
    · obtain ⟨c, hcv⟩ : ∃ c, c = xs[at_ + k]?.getD 0 := ⟨_, rfl⟩
      have hce : w'.cell? ⟨b, off + at_ + k, none⟩ = some (.int .u8 c) := by
        have := hcell (at_ + k) (by omega)
        rw [← Nat.add_assoc] at this
        rw [this, hcv, List.getD_eq_getElem?_getD]
      have hbk := hb (at_ + k)
      rw [← hcv] at hbk
      obtain ⟨hc0, hc1⟩ := hbk
      have HR := hide (leN_at (by rw [← HN.out]; exact hs) hlt HE.out hcv)
      have hor := or_byte hX HX.out hc0 hc1 (show k ≤ 7 by omega)
      have HPS := hide (byte_step hX HX.out hc0 hc1)
      clear hcell hb hcv HE
      go_wp2
      go_round
      case rel => exact ⟨k + 1, X + c * 2 ^ (8 * k), by omega, by go_num, rfl, (unhide HPS).1, (unhide HPS).2, unhide HR⟩
      case measure => simp [intOf]; omega
    · obtain rfl : k = n := by omega
      have H : Hid (leN ((xs.drop at_).take k) = X) := by have := HE.out; simp [leN] at this; exact this
      clear HE
      go_wp2
      go_ret3
      rw [H.out]
      exact ⟨rfl, rfl⟩

/-- wire.ReadFixed, of every slice, place and width. -/
theorem rfixed_calls {w : World} {v : Value} {xs : List Int} (h : IsB w v xs) (at_ n : Int) :
    Calls Tryd.prog 71 #[v, .int .i64 at_, .int .i64 n] w fun e w' =>
      e = .returned (.tuple #[.int .u64 (rdF xs at_ n).1, .int .i64 (rdF xs at_ n).2.1, .int .i64 (rdF xs at_ n).2.2]) ∧ w' = w := by
  obtain ⟨hb, a, cap, rfl, hl, hm, _, hc⟩ := h
  by_cases ho : at_ < 0 ∨ (xs.length : Int) < at_
  · rw [rdF, if_pos ho]
    exact rfixed_out a _ cap at_ n w ho
  · rw [rdF, if_neg ho]
    by_cases hn : n < 1 ∨ 8 < n
    · rw [if_pos hn]
      exact rfixed_arg a _ cap at_ n w ho hn
    · rw [if_neg hn]
      obtain ⟨i, rfl⟩ := Int.eq_ofNat_of_zero_le (show 0 ≤ at_ by omega)
      obtain ⟨m, rfl⟩ := Int.eq_ofNat_of_zero_le (show 0 ≤ n by omega)
      by_cases hs : (xs.length : Int) - i < m
      · rw [if_pos hs]
        exact rfixed_short a _ cap i m w (by omega) (by omega) (by omega) (by omega) (by omega)
      · rw [if_neg hs]
        obtain ⟨b, off, rfl, hcell⟩ := hc (by omega)
        exact rfixed_in b off _ cap i m xs w rfl hl hm (by omega) (by omega) (by omega) hcell hb
end Go.Proofs.YtpklbchbldipnabDoor
