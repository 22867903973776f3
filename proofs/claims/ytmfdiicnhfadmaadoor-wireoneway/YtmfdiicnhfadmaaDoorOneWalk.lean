/- WireOneWay's walk. -/
import Derived.Test.YtmfdiicnhfadmaaDoorIsb
import Derived.Test.YtmfdiicnhfadmaaDoorReads
import Derived.Test.YtmfdiicnhfadmaaDoorOneWay
import Derived.Deep.RegionHeld3
import Derived.Deep.DrawnRows
import Derived.Deep.QuietTactic
import Derived.BigQuiet
namespace Go.Proofs.YtmfdiicnhfadmaaDoor
open Go.RowKit
attribute [local go_sem ↓] Go.wp_at_zero Go.wp_at_succ

theorem below_step {w a b : World} (h1 : Below w.heap.size w a) (h2 : Below a.heap.size a b) : Below w.heap.size w b := h1.trans (h2.mono h1.size)
theorem below_drewN (w : World) (n : Nat) : Below w.heap.size w (w.drewN n) := by
  induction n with
  | zero => exact Below.refl _ _
  | succ k ih => exact ih.drew

set_option maxRecDepth 100000 in
set_option maxHeartbeats 8000000 in
theorem oneway_in (i : Nat) {w : World} {b off m cap : Nat} {xs : List Int} (hm : m = xs.length) (hi : i < m) (hmc : m ≤ cap) (_hcm : cap ≤ 9223372036854775807) (hb : IsB w (.slice (some ⟨b, off, none⟩) m cap) xs) (hl : m ≤ 140737488351232) (ht : Tab w) :
    Calls Tryd.prog 8 #[.slice (some ⟨b, off, none⟩) m cap, .int .i64 (i : Int)] w fun e w' => e = .returned (.bool true) ∧ Below w.heap.size w w' := by
  have HT := hide ht
  have HM := hide hm
  have HB := hide hb
  clear ht hm hb
  have hil : i ≤ xs.length := by rw [← HM.out]; omega
  have HIL := hide hil
  clear hil
  by_cases hok : (rdU xs i).2.2 = 0
  obtain ⟨V, rest, hV0, hV1, hru, hdr⟩ := rdU_one (unhide HB).mem (unhide HIL) hok
  obtain ⟨P, hP⟩ : ∃ P, P = i + (uBytes V).length := ⟨_, rfl⟩
  rw [← hP] at hru
  have hup := uBytes_pos V
  have hPl : P ≤ m := by
    have := congrArg List.length hdr
    rw [List.length_drop, List.length_append, ← HM.out] at this
    omega
  have hiP : i < P := by omega
  have hI0 : (0 : Int) ≤ (i : Int) := by omega
  have hI1 : (i : Int) ≤ (P : Int) := by omega
  have hI2 : (P : Int) ≤ (m : Int) := by omega
  have hI3 : (P : Int) ≤ (cap : Int) := by omega
  have hg1 : decide ((i : Int) < 0) = false := by simp
  have hg2 : decide ((m : Int) < (P : Int)) = false := by simp; omega
  have hg3 : decide ((P : Int) ≤ (i : Int)) = false := by simp; omega
  have hg4 : decide (m < P) = false := by simp; omega
  have hg5 : decide (P ≤ i) = false := by simp; omega
  have hcp : ¬ cap = i := by omega
  have hmid := (unhide HB).mid (l := i) (h := P) (by omega) hPl (by omega)
  have hPi : P - i = (uBytes V).length := by omega
  rw [show (xs.drop i).take (P - i) = uBytes V by rw [hPi]; exact take_of_append hdr] at hmid
  have HI := hide hmid
  have HV1 := hide hV1
  have HRU := hide hru
  clear hV1 hru hdr hP hup hok hmid hPi
  go_enter Tryd.func8, Tryd.ntmps8
  go_wp2_with fail
  refine (ruint_e (unhide HB) (unhide HRU)).mono ?_
  rintro e w1 ⟨rfl, hw1⟩
  obtain rfl := hw1.symm
  clear hw1
  go_wp2_with fail
  focus (go_region_held3 (fun w' => Below w.heap.size w w') (first | assumption | exact Below.refl _ _ | (refine Below.drew ?_; first | assumption | exact Below.refl _ _) | exact below_step (by assumption) (by assumption)) (first
    | (go_at_call 20; refine (num_calls _ _).mono ?_; rintro e w' ⟨rfl, hw'⟩; obtain rfl := hw'.symm)
    | (go_at_call 22; refine (uint_own _ hV0 (unhide HV1)).mono ?_; rintro e w1 ⟨a1, n1, c1, rfl, hO1, hb1⟩)
    | (go_at_call 21; refine (same_yes (Own8.isB (by assumption)) (IsB.below (unhide HI) (below_drew (by assumption)))).mono ?_; rintro e w2 ⟨rfl, hw2⟩; obtain rfl := hw2.symm)))
  have hB1 := below_drew hb1
  clear hI0 hI1 hI2 hI3 hg1 hg2 hg3 hg4 hg5 hcp HI HV1 HRU hV0 hPl hiP hO1 hb1
  go_wp2_with fail
  rotate_left
  obtain ⟨V, P, E, hE⟩ : ∃ A P E, rdU xs i = (A, P, E) := ⟨_, _, _, rfl⟩
  have hEne : (E == 0) = false := by rw [hE] at hok; simpa using hok
  have HE := hide hE
  clear hE hok
  go_enter Tryd.func8, Tryd.ntmps8
  go_wp2_with fail
  refine (ruint_e (unhide HB) (unhide HE)).mono ?_
  rintro e w1 ⟨rfl, hw1⟩
  obtain rfl := hw1.symm
  clear hw1
  go_wp2_with fail
  focus go_quiet ((go_at_call 20; exact Calls.quiet_of_same (num_calls _ _)))
  go_wp2_with fail
  have hB1 := below_drewN w nq
  generalize w.drewN nq = w1 at hB1 ⊢
  clear hEne HE
  all_goals
    by_cases hok2 : (rdB xs i m).2.2 = 0
    obtain ⟨ys, rest, hrb, hdr, hyb, hyl⟩ := rdB_one (unhide HB).mem (unhide HIL) hok2
    obtain ⟨P2, hP⟩ : ∃ P, P = i + (bB ys).length := ⟨_, rfl⟩
    rw [← hP] at hrb
    have hup := bB_pos ys
    have hPl : P2 ≤ m := by
      have := congrArg List.length hdr
      rw [List.length_drop, List.length_append, ← HM.out] at this
      omega
    have hiP : i < P2 := by omega
    have hI0 : (0 : Int) ≤ (i : Int) := by omega
    have hI1 : (i : Int) ≤ (P2 : Int) := by omega
    have hI2 : (P2 : Int) ≤ (m : Int) := by omega
    have hI3 : (P2 : Int) ≤ (cap : Int) := by omega
    have hg1 : decide ((i : Int) < 0) = false := by simp
    have hg2 : decide ((m : Int) < (P2 : Int)) = false := by simp; omega
    have hg3 : decide ((P2 : Int) ≤ (i : Int)) = false := by simp; omega
    have hg4 : decide (m < P2) = false := by simp; omega
    have hg5 : decide (P2 ≤ i) = false := by simp; omega
    have hcp : ¬ cap = i := by omega
    have hmid := ((unhide HB).below hB1).mid (l := i) (h := P2) (by omega) hPl (by omega)
    have hPi : P2 - i = (bB ys).length := by omega
    rw [show (xs.drop i).take (P2 - i) = bB ys by rw [hPi]; exact take_of_append hdr] at hmid
    have HI := hide hmid
    have HRB := hide hrb
    have HYB := hide hyb
    have hyl2 : ys.length ≤ 140737488351232 := by rw [← HM.out] at hyl; omega
    have HYL := hide hyl2
    clear hrb hdr hP hup hok2 hmid hPi hyb hyl hyl2
    refine (rbytes_e ((unhide HB).below hB1) (by rw [← HM.out]; omega) (by omega) (unhide HRB)).mono ?_
    rintro e w2 ⟨a2, n2, c2, rfl, hown2, hb2⟩
    have hs2 : IsB w2 (.slice a2 n2 c2) ys := isB_owns hown2 (unhide HYB)
    have HS2 := hide hs2
    have hI2' := (unhide HI).below hb2
    have HI2 := hide hI2'
    have hB2 := below_step hB1 hb2
    clear hown2 hs2 hI2' hb2 HI HRB HYB
    go_wp2_with fail
    focus (go_region_held3 (fun w' => Below w2.heap.size w2 w') (first | assumption | exact Below.refl _ _ | (refine Below.drew ?_; first | assumption | exact Below.refl _ _) | exact below_step (by assumption) (by assumption)) (first
      | (go_at_call 20; refine (num_calls _ _).mono ?_; rintro e w' ⟨rfl, hw'⟩; obtain rfl := hw'.symm)
      | (go_at_call 24; refine (bytes_own (IsB.below (unhide HS2) ?_) (unhide HYL)).mono ?_; exact (Below.refl _ _).drew; rintro e w3 ⟨a3, n3, c3, rfl, hO3, hb3⟩)
      | (go_at_call 21; refine (same_yes (Own8.isB (by assumption)) (IsB.below (unhide HI2) (below_drew (by assumption)))).mono ?_; rintro e w2 ⟨rfl, hw2⟩; obtain rfl := hw2.symm)))
    have hB3 := below_step hB2 (below_drew hb3)
    clear hI0 hI1 hI2 hI3 hg1 hg2 hg3 hg4 hg5 hcp HI2 HS2 HYL hPl hiP hO3 hb3 hB2 hB1
    go_wp2_with fail
    rotate_left
    obtain ⟨ys, P2, E2, hE⟩ : ∃ A P E, rdB xs i m = (A, P, E) := ⟨_, _, _, rfl⟩
    have hEne : (E2 == 0) = false := by rw [hE] at hok2; simpa using hok2
    have HE := hide hE
    clear hE hok2
    refine (rbytes_e ((unhide HB).below hB1) (by rw [← HM.out]; omega) (by omega) (unhide HE)).mono ?_
    rintro e w2 ⟨a2, n2, c2, rfl, -, hb2⟩
    have hB2 := below_step hB1 hb2
    clear hb2
    go_wp2_with fail
    focus go_quiet ((go_at_call 20; exact Calls.quiet_of_same (num_calls _ _)))
    go_wp2_with fail
    have hB3 := below_step hB2 (below_drewN w2 nq)
    generalize w2.drewN nq = w3 at hB3 ⊢
    clear hEne HE hB1 hB2
  all_goals
    go_loopw [9] (fun x wr => ∃ k : Nat, k ≤ 8 ∧ x = .int .i64 ((k + 1 : Nat) : Int) ∧ Below w3.heap.size w3 wr) (fun x _ => 10 - (intOf x).toNat)
    case atStart => exact ⟨0, by omega, rfl, Below.refl _ _⟩
    case round =>
      obtain ⟨k, hk, rfl, hnx⟩ := hrel
      have hBr := below_step hB3 hnx
      have hsz := hnx.size
      by_cases hlt : k < 8
      · by_cases hs : i + (k + 1) ≤ m
        · obtain ⟨l, hl'⟩ : ∃ l, l = (xs.drop i).take (k + 1) := ⟨_, rfl⟩
          have hll : l.length = k + 1 := by rw [hl']; have := HM.out; simp; omega
          have hlb : ∀ x ∈ l, 0 ≤ x ∧ x ≤ 255 := fun x hx => (unhide HB).mem x (List.mem_of_mem_drop (List.mem_of_mem_take (by rw [hl'] at hx; exact hx)))
          obtain ⟨hf1, hf2, hf3⟩ := fB_leN hlb
          rw [hll] at hf1 hf3
          obtain ⟨N, hN⟩ : ∃ N, N = leN l := ⟨_, rfl⟩
          obtain ⟨Q, hQ⟩ : ∃ Q, Q = i + (k + 1) := ⟨_, rfl⟩
          rw [← hN] at hf1 hf2 hf3
          have hrf : rdF xs (i : Int) ((k : Int) + 1) = (N, (Q : Int), 0) := by
            unfold rdF
            have := HM.out
            rw [if_neg (by omega), if_neg (by omega), if_neg (by omega), Int.toNat_natCast, show ((k : Int) + 1).toNat = k + 1 by omega, ← hl', ← hN, hQ]
            simp only [Prod.mk.injEq, true_and, and_true]
            omega
          have hQm : Q ≤ m := by omega
          have hiQ : i < Q := by omega
          have hne : ((Q : Int) != (i : Int) + ((k : Int) + 1)) = false := by simp; omega
          have hg2 : decide ((m : Int) < (Q : Int)) = false := by simp; omega
          have hg4 : decide (m < Q) = false := by simp; omega
          have hcp : ¬ cap = i := by omega
          have hfit : (N / 2 ^ (8 * (k + 1)) != 0) = false := by rw [Int.ediv_eq_zero_of_lt hf2 hf3]; rfl
          have hmid := ((unhide HB).below hBr).mid (l := i) (h := Q) (by omega) hQm (by omega)
          rw [show (xs.drop i).take (Q - i) = fB N (k + 1) by rw [show Q - i = k + 1 by omega, ← hl', hf1]] at hmid
          have HRF := hide hrf
          have HFIT := hide hfit
          have HI := hide hmid
          clear hl' hll hlb hf1 hf3 hN hQ hrf hfit hmid
          go_wp2_with fail
          refine (rfixed_e ((unhide HB).below hBr) (unhide HRF)).mono ?_
          rintro e w5 ⟨rfl, hw5⟩
          obtain rfl := hw5.symm
          clear hw5
          go_wp2_with (go_at_call 20; refine (num_calls _ _).mono ?_; rintro e w' ⟨rfl, hw'⟩; obtain rfl := hw'.symm)
          refine (fixed_own (k + 1) (by omega) _ hf2 (by omega) (by omega) (unhide HFIT)).mono ?_
          rintro e w6 ⟨a6, n6, c6, rfl, hO6, hb6⟩
          have hI6 := (unhide HI).below hb6
          have HI6 := hide hI6
          have HO6 := hide hO6.isB
          clear hI6 hO6
          go_wp2_with (go_at_call 20; refine (num_calls _ _).mono ?_; rintro e w' ⟨rfl, hw'⟩; obtain rfl := hw'.symm)
          refine (same_yes (unhide HO6) (unhide HI6)).mono ?_
          rintro e w7 ⟨rfl, hw7⟩
          obtain rfl := hw7.symm
          clear hw7
          go_wp2
          go_roundw
          case rel => exact ⟨k + 1, by omega, by go_num, below_step hnx hb6⟩
          case measure => simp [intOf]; omega
        · have hrf : rdF xs (i : Int) ((k : Int) + 1) = (0, 0, 10) := by
            unfold rdF
            have := HM.out
            rw [if_neg (by omega), if_neg (by omega), if_pos (by omega)]
          have HRF := hide hrf
          clear hrf
          go_wp2_with fail
          refine (rfixed_e ((unhide HB).below hBr) (unhide HRF)).mono ?_
          rintro e w5 ⟨rfl, hw5⟩
          obtain rfl := hw5.symm
          clear hw5
          go_wp2_with (go_at_call 20; refine (num_calls _ _).mono ?_; rintro e w' ⟨rfl, hw'⟩; obtain rfl := hw'.symm)
          go_roundw
          case rel => exact ⟨k + 1, by omega, by go_num, hnx⟩
          case measure => simp [intOf]; omega
      · go_wp2_with fail
        refine (started_calls _ ((unhide HT).below hBr)).mono ?_
        rintro e w5 ⟨rfl, hb5⟩
        go_wp2
        go_ret
        exact ⟨rfl, below_step hBr hb5⟩

theorem rd_out {xs : List Int} {at_ : Int} (h : ¬ (0 ≤ at_ ∧ at_ < xs.length)) : (rdU xs at_).2.2 ≠ 0 ∧ (∀ most, (rdB xs at_ most).2.2 ≠ 0) ∧ ∀ n, (rdF xs at_ n).2.2 ≠ 0 := by
  by_cases ho : at_ < 0 ∨ (xs.length : Int) < at_
  · refine ⟨by rw [rdU, if_pos ho]; decide, fun most => by rw [rdB, if_pos ho]; decide, fun n => by rw [rdF, if_pos ho]; decide⟩
  · have e : at_ = (xs.length : Int) := by omega
    subst e
    have hu : rdU xs xs.length = (0, 0, 10) := by
      have := rdU_of (Nat.le_refl xs.length) (show rU 0 0 (xs.drop xs.length) = (0, 0, 10) by simp [rU])
      simpa using this
    refine ⟨by rw [hu]; decide, fun most => ?_, fun n => ?_⟩
    · rw [rdB, if_neg ho]
      by_cases hm : most < 0
      · rw [if_pos hm]; decide
      · rw [if_neg hm, hu, if_pos (by decide)]; decide
    · rw [rdF, if_neg ho]
      by_cases hn : n < 1 ∨ 8 < n
      · rw [if_pos hn]; decide
      · rw [if_neg hn, if_pos (by omega)]; decide

set_option maxRecDepth 100000 in
set_option maxHeartbeats 2000000 in
theorem oneway_out (at_ : Int) {w : World} {a : Option Addr} {m cap : Nat} {xs : List Int} (hm : m = xs.length) (ho : ¬ (0 ≤ at_ ∧ at_ < xs.length)) (hb : IsB w (.slice a m cap) xs) (hl : m ≤ 140737488351232) (ht : Tab w) :
    Calls Tryd.prog 8 #[.slice a m cap, .int .i64 at_] w fun e w' => e = .returned (.bool true) ∧ Below w.heap.size w w' := by
  have HT := hide ht
  have HM := hide hm
  have HB := hide hb
  have HO := hide (rd_out ho)
  clear ht hm hb ho
  obtain ⟨V, P, E, hE⟩ : ∃ A P E, rdU xs at_ = (A, P, E) := ⟨_, _, _, rfl⟩
  have hEne : (E == 0) = false := by have := (unhide HO).1; rw [hE] at this; simpa using this
  have HE := hide hE
  clear hE
  go_enter Tryd.func8, Tryd.ntmps8
  go_wp2_with fail
  refine (ruint_e (unhide HB) (unhide HE)).mono ?_
  rintro e w1 ⟨rfl, hw1⟩
  obtain rfl := hw1.symm
  clear hw1
  go_wp2_with fail
  go_quiet ((go_at_call 20; exact Calls.quiet_of_same (num_calls _ _)))
  go_wp2_with fail
  have hB1 := below_drewN w nq
  generalize w.drewN nq = w1 at hB1 ⊢
  clear hEne HE
  obtain ⟨ys, P2, E2, hE⟩ : ∃ A P E, rdB xs at_ m = (A, P, E) := ⟨_, _, _, rfl⟩
  have hEne : (E2 == 0) = false := by have := (unhide HO).2.1 m; rw [hE] at this; simpa using this
  have HE := hide hE
  clear hE
  refine (rbytes_e ((unhide HB).below hB1) (by rw [← HM.out]; omega) (by omega) (unhide HE)).mono ?_
  rintro e w2 ⟨a2, n2, c2, rfl, -, hb2⟩
  have hB2 := below_step hB1 hb2
  clear hb2
  go_wp2_with fail
  go_quiet ((go_at_call 20; exact Calls.quiet_of_same (num_calls _ _)))
  go_wp2_with fail
  have hB3 := below_step hB2 (below_drewN w2 nq)
  generalize w2.drewN nq = w3 at hB3 ⊢
  clear hEne HE hB1 hB2
  go_loopw [9] (fun x wr => ∃ k : Nat, k ≤ 8 ∧ x = .int .i64 ((k + 1 : Nat) : Int) ∧ Below w3.heap.size w3 wr) (fun x _ => 10 - (intOf x).toNat)
  case atStart => exact ⟨0, by omega, rfl, Below.refl _ _⟩
  case round =>
    obtain ⟨k, hk, rfl, hnx⟩ := hrel
    have hBr := below_step hB3 hnx
    by_cases hlt : k < 8
    · obtain ⟨F1, F2, F3, hF⟩ : ∃ A P E, rdF xs at_ ((k : Int) + 1) = (A, P, E) := ⟨_, _, _, rfl⟩
      have hFne : (F3 != 0) = true := by have := (unhide HO).2.2 ((k : Int) + 1); rw [hF] at this; simpa using this
      have HF := hide hF
      clear hF
      go_wp2_with fail
      refine (rfixed_e ((unhide HB).below hBr) (unhide HF)).mono ?_
      rintro e w5 ⟨rfl, hw5⟩
      obtain rfl := hw5.symm
      clear hw5
      go_wp2_with (go_at_call 20; refine (num_calls _ _).mono ?_; rintro e w' ⟨rfl, hw'⟩; obtain rfl := hw'.symm)
      go_roundw
      case rel => exact ⟨k + 1, by omega, by go_num, hnx⟩
      case measure => simp [intOf]; omega
    · go_wp2_with fail
      refine (started_calls _ ((unhide HT).below hBr)).mono ?_
      rintro e w5 ⟨rfl, hb5⟩
      go_wp2
      go_ret
      exact ⟨rfl, below_step hBr hb5⟩

/-- WireOneWay, for every input. -/
theorem oneway_walk (at_ : Int) {w : World} {vb : Value} {xs : List Int} (hb : IsB w vb xs) (hl : xs.length ≤ 140737488351232) (ht : Tab w) :
    Calls Tryd.prog 8 #[vb, .int .i64 at_] w fun e w' => e = .returned (.bool true) ∧ Below w.heap.size w w' := by
  obtain ⟨a, m, cap, rfl⟩ := hb.shape
  have hm := hb.lenEq
  by_cases ho : 0 ≤ at_ ∧ at_ < xs.length
  · obtain ⟨i, rfl⟩ := Int.eq_ofNat_of_zero_le ho.1
    have hb' := hb
    obtain ⟨_, a', c', hv, hl', hm', _, hc'⟩ := hb'
    injection hv with e1 e2 e3
    subst e1 e3
    obtain ⟨b, off, rfl, _⟩ := hc' (by omega)
    exact oneway_in i hm (by omega) (by omega) hm' hb (by omega) ht
  · exact oneway_out at_ hm ho hb (by omega) ht
end Go.Proofs.YtmfdiicnhfadmaaDoor
