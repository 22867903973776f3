/- The document's hex, escape, literal. -/
import Derived.Test.YtcdilcjgmcamcabTkL
namespace Go.Proofs.Ytcdilcjgmcamcab
open Go.RowKit Go.Maps

def digS : ByteArray := ⟨#[48, 49, 50, 51, 52, 53, 54, 55, 56, 57, 97, 98, 99, 100, 101, 102]⟩
theorem digS_at : ∀ i : Fin 16, (lk digS i.val).toNat = (hexd i.val).toNat := by decide
theorem dig_index (i : Nat) (hi : i < 16) (W : World) : (Instr.index 9 (.string ⟨#[48, 49, 50, 51, 52, 53, 54, 55, 56, 57, 97, 98, 99, 100, 101, 102]⟩) (.int .i64 (i : Int))).run Try.prog W = .ok (.int .u8 ((hexd i).toNat : Int)) W := by
  have h := index_str digS i hi W
  rw [digS_at ⟨i, hi⟩] at h
  exact h
def dgV (c : UInt8) : Int := match dg c with | some h => (h : Int) | none => -1
theorem dg_of {c : UInt8} {i : Nat} (hi : i < 16) (h : (hexd i).toNat = c.toNat) : dg c = some i := by
  have : hexd i = c := UInt8.toNat_inj.1 h
  rw [← this]; exact dg_hexd hi
theorem hexd_dg {c : UInt8} {h : Nat} (e : dg c = some h) : (hexd h).toNat = c.toNat := by
  have hlt := dg_lt e
  rw [hexd_nat hlt]
  unfold dg at e
  split at e
  · injection e with e; rw [if_pos (by omega)]; omega
  · split at e
    · injection e with e; rw [if_neg (by omega)]; omega
    · cases e
theorem dg_none {c : UInt8} (h : ∀ i, i < 16 → (hexd i).toNat ≠ c.toNat) : dg c = none := by
  cases e : dg c with
  | none => rfl
  | some d => exact absurd (hexd_dg e) (h d (dg_lt e))
set_option maxRecDepth 100000 in
set_option maxHeartbeats 2000000 in
theorem hex_calls (c : UInt8) (w : World) : Calls Try.prog 60 #[.int .u8 (c.toNat : Int)] w fun e w' => e = .returned (.int .i64 (dgV c)) ∧ w' = w := by
  obtain ⟨q, hq⟩ : ∃ q, q = dgV c := ⟨_, rfl⟩
  rw [← hq]
  have HQ := hide hq
  clear hq
  go_enter Try.func60, Try.ntmps60
  go_wp2_with fail
  go_loop [3] (fun iv => ∃ i : Nat, i ≤ 16 ∧ iv = .int .i64 (i : Int) ∧ Hid (∀ k, k < i → (hexd k).toNat ≠ c.toNat)) (fun i => 16 - (intOf i).toNat)
  case atStart => exact ⟨0, by omega, rfl, fun k hk => absurd hk (by omega)⟩
  case round =>
    obtain ⟨i, hi, rfl, HI⟩ := hrel
    by_cases hlt : i < 16
    · have hidx := dig_index i hlt
      have hiI : (i : Int) < 16 := by omega
      by_cases he : (hexd i).toNat = c.toNat
      · have HV : Hid (q = (i : Int)) := by show _ = _; rw [HQ.out]; unfold dgV; rw [dg_of hlt he]
        have be : (((hexd i).toNat : Int) == (c.toNat : Int)) = true := by rw [he]; simp
        generalize hexd i = x at *
        clear he
        go_wp2
        try rw [Exit.noGoto_ret]
        go_ret
        exact ⟨by rw [HV.out]; rfl, rfl⟩
      · have be : (((hexd i).toNat : Int) == (c.toNat : Int)) = false := by simp; omega
        have HI2 : Hid (∀ k, k < i + 1 → (hexd k).toNat ≠ c.toNat) := fun k hk => by
          by_cases e : k = i
          · subst e; exact he
          · exact unhide HI k (by omega)
        generalize hexd i = x at *
        clear he
        go_wp2
        go_round
        case rel => exact ⟨i + 1, by omega, by go_num, HI2⟩
        case measure => simp [intOf]; omega
    · have HV : Hid (q = -1) := by
        show _ = _
        rw [HQ.out]; unfold dgV; rw [dg_none fun k hk => unhide HI k (by omega)]
      have hiI : ¬ (i : Int) < 16 := by omega
      go_wp2
      try rw [Exit.noGoto_ret]
      go_ret
      exact ⟨by rw [HV.out]; rfl, rfl⟩
theorem ix {s : ByteArray} {a k : Nat} (h : a + k < s.size) (W : World) : (Instr.index 9 (.string s) (.int .i64 ((a : Int) + (k : Int)))).run Try.prog W = .ok (.int .u8 ((lk s (a + k)).toNat : Int)) W := by
  have := index_str s (a + k) h W
  rw [Int.natCast_add] at this
  exact this
set_option maxRecDepth 100000 in
set_option maxHeartbeats 4000000 in
theorem rescape_calls (s : ByteArray) (a : Nat) (ha : a ≤ 1000000) (w : World) : Calls Try.prog 57 #[.string s, .int .i64 (a : Int)] w fun e w' => e = .returned (.tuple #[.int .u8 ((escP (lk s (a + 1)) (lk s (a + 2)) (lk s (a + 3))).1.toNat : Int), .int .i64 ((escP (lk s (a + 1)) (lk s (a + 2)) (lk s (a + 3))).2 : Int)]) ∧ Below w.heap.size w w' := by
  obtain ⟨E, hE⟩ : ∃ E, E = escP (lk s (a + 1)) (lk s (a + 2)) (lk s (a + 3)) := ⟨_, rfl⟩
  rw [← hE]
  have HE := hide hE
  clear hE
  by_cases h1 : a + 1 < s.size
  · have i1 : ¬ (s.size : Int) ≤ (a : Int) + 1 := by omega
    have x1 : ∀ W, (Instr.index 9 (.string s) (.int .i64 ((a : Int) + 1))).run Try.prog W = .ok (.int .u8 ((lk s (a + 1)).toNat : Int)) W := ix (k := 1) h1
    have HH : Hid (∀ (c : UInt8) (W : World), Calls Try.prog 60 #[.int .u8 (c.toNat : Int)] W fun e w' => e = .returned (.int .i64 (dgV c)) ∧ w' = W) := fun c W => hex_calls c W
    by_cases c34 : (lk s (a + 1)).toNat = 34
    · have HV : Hid (E = (lk s (a + 1), 2)) := by show _ = _; rw [HE.out]; unfold escP; rw [if_pos (Or.inl c34)]
      have b34 : (((lk s (a + 1)).toNat : Int) == 34) = true := by rw [c34]; rfl
      generalize lk s (a + 1) = c1 at *
      clear c34 HE
      go_enter Try.func57, Try.ntmps57
      go_wp2
      go_ret2
      exact ⟨by rw [HV.out]; rfl, Below.refl _ _⟩
    · have b34 : (((lk s (a + 1)).toNat : Int) == 34) = false := by simp; omega
      by_cases c92 : (lk s (a + 1)).toNat = 92
      · have HV : Hid (E = (lk s (a + 1), 2)) := by show _ = _; rw [HE.out]; unfold escP; rw [if_pos (Or.inr c92)]
        have b92 : (((lk s (a + 1)).toNat : Int) == 92) = true := by rw [c92]; rfl
        generalize lk s (a + 1) = c1 at *
        clear c34 c92 HE
        go_enter Try.func57, Try.ntmps57
        go_wp2
        go_ret2
        exact ⟨by rw [HV.out]; rfl, Below.refl _ _⟩
      · have b92 : (((lk s (a + 1)).toNat : Int) == 92) = false := by simp; omega
        by_cases c110 : (lk s (a + 1)).toNat = 110
        · have HV : Hid (E = (10, 2)) := by show _ = _; rw [HE.out]; unfold escP; rw [if_neg (by omega), if_pos c110]
          have b110 : (((lk s (a + 1)).toNat : Int) == 110) = true := by rw [c110]; rfl
          generalize lk s (a + 1) = c1 at *
          clear c34 c92 c110 HE
          go_enter Try.func57, Try.ntmps57
          go_wp2
          go_ret2
          exact ⟨by rw [HV.out]; rfl, Below.refl _ _⟩
        · have b110 : (((lk s (a + 1)).toNat : Int) == 110) = false := by simp; omega
          by_cases c120 : (lk s (a + 1)).toNat = 120
          · have b120 : (((lk s (a + 1)).toNat : Int) == 120) = true := by rw [c120]; rfl
            have HE4 : Hid (E = (match dg (lk s (a + 2)), dg (lk s (a + 3)) with | some h, some l => (UInt8.ofNat (16 * h + l), 4) | _, _ => (0, 0))) := by show _ = _; rw [HE.out]; unfold escP; rw [if_neg (by omega), if_neg c110, if_pos c120]; rfl
            clear HE
            by_cases h3 : a + 3 < s.size
            · have i3 : (a : Int) + 3 < (s.size : Int) := by omega
              have x2 : ∀ W, (Instr.index 9 (.string s) (.int .i64 ((a : Int) + 2))).run Try.prog W = .ok (.int .u8 ((lk s (a + 2)).toNat : Int)) W := ix (k := 2) (by omega)
              have x3 : ∀ W, (Instr.index 9 (.string s) (.int .i64 ((a : Int) + 3))).run Try.prog W = .ok (.int .u8 ((lk s (a + 3)).toNat : Int)) W := ix (k := 3) h3
              have H2 := hide (fun W => unhide HH (lk s (a + 2)) W)
              have H3 := hide (fun W => unhide HH (lk s (a + 3)) W)
              unfold dgV at H2 H3
              generalize lk s (a + 1) = c1 at *
              generalize lk s (a + 2) = c2 at *
              generalize lk s (a + 3) = c3 at *
              clear c34 c92 c110 c120 HH
              cases hd2 : dg c2 with
              | none =>
                rw [hd2] at H2 HE4
                have HV : Hid (E = (0, 0)) := by show _ = _; rw [HE4.out]
                clear HE4 hd2 H3
                go_enter Try.func57, Try.ntmps57
                go_wp2_with fail
                refine (unhide H2 w).mono ?_
                rintro e w1 ⟨rfl, hw1⟩
                obtain rfl := hw1.symm
                clear hw1
                go_wp2
                go_ret2
                exact ⟨by rw [HV.out]; rfl, Below.refl _ _⟩
              | some h =>
                rw [hd2] at H2 HE4
                have hh := dg_lt hd2
                cases hd3 : dg c3 with
                | none =>
                  rw [hd3] at H3 HE4
                  have HV : Hid (E = (0, 0)) := by show _ = _; rw [HE4.out]
                  clear HE4 hd2 hd3
                  go_enter Try.func57, Try.ntmps57
                  go_wp2_with fail
                  refine (unhide H2 w).mono ?_
                  rintro e w1 ⟨rfl, hw1⟩
                  obtain rfl := hw1.symm
                  clear hw1
                  go_wp2_with fail
                  refine (unhide H3 w).mono ?_
                  rintro e w1 ⟨rfl, hw1⟩
                  obtain rfl := hw1.symm
                  clear hw1
                  go_wp2
                  go_ret2
                  exact ⟨by rw [HV.out]; rfl, Below.refl _ _⟩
                | some l =>
                  rw [hd3] at H3 HE4
                  have hl := dg_lt hd3
                  have HV : Hid (E = (UInt8.ofNat (16 * h + l), 4)) := by show _ = _; rw [HE4.out]
                  clear HE4 hd2 hd3
                  go_enter Try.func57, Try.ntmps57
                  go_wp2_with fail
                  refine (unhide H2 w).mono ?_
                  rintro e w1 ⟨rfl, hw1⟩
                  obtain rfl := hw1.symm
                  clear hw1
                  go_wp2_with fail
                  refine (unhide H3 w).mono ?_
                  rintro e w1 ⟨rfl, hw1⟩
                  obtain rfl := hw1.symm
                  clear hw1
                  go_wp2_with fail
                  go_quiet (first | (go_at_call 60; with_reducible exact Calls.quiet_of_same (unhide H2 _)) | (go_at_call 60; with_reducible exact Calls.quiet_of_same (unhide H3 _)))
                  go_wp2
                  go_ret2
                  refine ⟨?_, drewn_b _ _ _⟩
                  rw [HV.out]
                  show Ending.returned (.tuple #[.int .u8 (16 * (h : Int) + (l : Int)), .int .i64 4]) = Ending.returned (.tuple #[.int .u8 ((UInt8.ofNat (16 * h + l)).toNat : Int), .int .i64 4])
                  rw [show (UInt8.ofNat (16 * h + l)).toNat = 16 * h + l by simp [UInt8.toNat_ofNat']; omega]
                  rfl
            · have i3 : ¬ (a : Int) + 3 < (s.size : Int) := by omega
              have HV : Hid (E = (0, 0)) := by
                show _ = _
                rw [HE4.out, lk_out (s := s) (i := a + 3) (by omega)]
                have : dg 10 = none := by decide
                rw [this]
                cases dg (lk s (a + 2)) <;> rfl
              generalize lk s (a + 1) = c1 at *
              clear c34 c92 c110 c120 HE4 HH
              go_enter Try.func57, Try.ntmps57
              go_wp2
              go_ret2
              exact ⟨by rw [HV.out]; rfl, Below.refl _ _⟩
          · have b120 : (((lk s (a + 1)).toNat : Int) == 120) = false := by simp; omega
            have HV : Hid (E = (0, 0)) := by show _ = _; rw [HE.out]; unfold escP; rw [if_neg (by omega), if_neg c110, if_neg c120]
            generalize lk s (a + 1) = c1 at *
            clear c34 c92 c110 c120 HE HH
            go_enter Try.func57, Try.ntmps57
            go_wp2
            go_ret2
            exact ⟨by rw [HV.out]; rfl, Below.refl _ _⟩
  · have i1 : (s.size : Int) ≤ (a : Int) + 1 := by omega
    have HV : Hid (E = (0, 0)) := by
      show _ = _
      rw [HE.out, lk_out (s := s) (i := a + 1) (by omega)]
      rfl
    clear HE
    go_enter Try.func57, Try.ntmps57
    go_wp2
    go_ret2
    exact ⟨by rw [HV.out]; rfl, Below.refl _ _⟩
end Go.Proofs.Ytcdilcjgmcamcab
