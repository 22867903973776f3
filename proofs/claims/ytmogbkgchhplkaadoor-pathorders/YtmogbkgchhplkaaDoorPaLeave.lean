/- leave. -/
import Derived.Test.YtmogbkgchhplkaaDoorPaName
namespace Go.Proofs.YtmogbkgchhplkaaDoor
open Go.RowKit

/-- Does reading end at this byte? -/
def lvStop (s : ByteArray) (p fr ah : Nat) : Bool :=
  decide (p = 255) || (if byt s p = 47 then (decide (p = fr) || decide (ah = 15)) else (!(inN (byt s p)) || decide (p - fr = 64) || (decide (p = fr) && dotsB (s.extract p s.size))))
/-- Where reading ends, and where the last part begins. -/
def lvF (s : ByteArray) : Nat → Nat → Nat → Nat → Nat × Nat
  | 0, p, fr, _ => (p, fr)
  | n + 1, p, fr, ah => if lvStop s p fr ah = true then (p, fr) else if byt s p = 47 then lvF s n (p + 1) (p + 1) (ah + 1) else lvF s n (p + 1) fr ah
def lvS (s : ByteArray) : Nat × Nat := lvF s s.size 0 0 0
set_option maxRecDepth 100000 in
set_option maxHeartbeats 4000000 in
theorem leave_calls (s : ByteArray) (hs : s.size ≤ 140737488360000) (w : World) : Calls Tryd.prog 25 #[.string s] w fun e w' => e = .returned (.tuple #[.int .i64 (((lvS s).1 : Nat) : Int), .bool (decide ((lvS s).1 < s.size ∨ (lvS s).1 = (lvS s).2))]) ∧ Below w.heap.size w w' := by
  go_enter Tryd.func25, Tryd.ntmps25
  go_wp2_with fail
  go_step3
  go_wp2_with fail
  go_step3
  go_wp2_with fail
  go_loop [4, 5, 6] (fun pv fv hv => ∃ (p fr ah : Nat), p ≤ s.size ∧ fr ≤ p ∧ ah ≤ p ∧ pv = .int .i64 (p : Int) ∧ fv = .int .i64 (fr : Int) ∧ hv = .int .i64 (ah : Int) ∧ Hid (lvS s = lvF s (s.size - p) p fr ah)) (fun p _ _ => s.size - (intOf p).toNat)
  case atStart => exact ⟨0, 0, 0, by omega, by omega, by omega, rfl, rfl, rfl, by show _ = _; unfold lvS; rw [Nat.sub_zero]⟩
  case round =>
    obtain ⟨p, fr, ah, hp, hfr, hah, rfl, rfl, rfl, HO⟩ := hrel
    by_cases hlt : p < s.size
    · have hidx := index_str s p hlt
      have hstep : lvF s (s.size - p) p fr ah = if lvStop s p fr ah = true then (p, fr) else if byt s p = 47 then lvF s (s.size - (p + 1)) (p + 1) (p + 1) (ah + 1) else lvF s (s.size - (p + 1)) (p + 1) fr ah := by
        rw [show s.size - p = (s.size - (p + 1)) + 1 by omega]; rfl
      have HST : Hid (lvS s = _) := (HO.out).trans hstep
      have HD : Hid (lvStop s p fr ah = (decide (p = 255) || (if byt s p = 47 then (decide (p = fr) || decide (ah = 15)) else (!(inN (byt s p)) || decide (p - fr = 64) || (decide (p = fr) && dotsB (s.extract p s.size)))))) := rfl
      have HIN := hide (inName_calls (byt s p) w)
      have HDO := hide (dots_calls (s.extract p s.size) w)
      generalize byt s p = x at *
      generalize dotsB (s.extract p s.size) = bd at *
      clear hstep HO
      have hltI : (p : Int) < (s.size : Int) := by omega
      by_cases h255 : p = 255
      · have HF : Hid (lvS s = (p, fr)) := by show _ = _; rw [HST.out, HD.out, decide_eq_true h255, Bool.true_or, if_pos rfl]
        have b255 : ((p : Int) == 255) = true := by rw [h255]; rfl
        clear HST HD h255
        go_wp2
        try rw [Exit.noGoto_ret]
        go_ret2
        exact ⟨by rw [HF.out, decide_eq_true (Or.inl hlt)]; rfl, Below.refl _ _⟩
      · have b255 : ((p : Int) == 255) = false := by simp; omega
        by_cases hx : x = 47
        · subst hx
          by_cases hpf : p = fr
          · have HF : Hid (lvS s = (p, fr)) := by show _ = _; rw [HST.out, HD.out, decide_eq_false h255, if_pos rfl, decide_eq_true hpf, Bool.true_or, Bool.false_or, if_pos rfl]
            have bpf : ((p : Int) == (fr : Int)) = true := by rw [hpf]; simp
            clear HST HD h255 hpf
            go_wp2
            try rw [Exit.noGoto_ret]
            go_ret2
            exact ⟨by rw [HF.out, decide_eq_true (Or.inl hlt)]; rfl, Below.refl _ _⟩
          · have bpf : ((p : Int) == (fr : Int)) = false := by simp; omega
            by_cases h15 : ah = 15
            · have HF : Hid (lvS s = (p, fr)) := by show _ = _; rw [HST.out, HD.out, decide_eq_false h255, if_pos rfl, decide_eq_true h15, Bool.or_true, Bool.or_true, if_pos rfl]
              have b15 : ((ah : Int) == 15) = true := by rw [h15]; rfl
              clear HST HD h255 hpf h15
              go_wp2
              try rw [Exit.noGoto_ret]
              go_ret2
              exact ⟨by rw [HF.out, decide_eq_true (Or.inl hlt)]; rfl, Below.refl _ _⟩
            · have HF : Hid (lvS s = lvF s (s.size - (p + 1)) (p + 1) (p + 1) (ah + 1)) := by show _ = _; rw [HST.out, HD.out, decide_eq_false h255, if_pos rfl, decide_eq_false hpf, decide_eq_false h15, if_neg (by decide), if_pos rfl]
              have b15 : ((ah : Int) == 15) = false := by simp; omega
              clear HST HD h255 hpf h15
              go_wp2
              go_roundw
              case rel => exact ⟨p + 1, p + 1, ah + 1, by omega, by omega, by omega, by go_num, by go_num, by go_num, HF⟩
              case measure => simp [intOf]; omega
        · have b47 : (x == 47) = false := by simpa using hx
          rw [if_neg hx] at HST HD
          cases hin : inN x with
          | false =>
            rw [hin] at HIN HD
            have HF : Hid (lvS s = (p, fr)) := by show _ = _; rw [HST.out, HD.out, Bool.not_false, Bool.true_or, Bool.true_or, Bool.or_true, if_pos rfl]
            clear HST HD h255 hx hin
            go_wp2_with fail
            refine (unhide HIN).mono ?_
            rintro e w1 ⟨rfl, hw1⟩
            obtain rfl := hw1.symm
            clear hw1
            go_wp2
            try rw [Exit.noGoto_ret]
            go_ret2
            exact ⟨by rw [HF.out, decide_eq_true (Or.inl hlt)]; rfl, Below.refl _ _⟩
          | true =>
            rw [hin] at HIN HD
            rw [decide_eq_false h255, Bool.not_true, Bool.false_or, Bool.false_or] at HD
            by_cases h64 : p - fr = 64
            · have HF : Hid (lvS s = (p, fr)) := by show _ = _; rw [HST.out, HD.out, decide_eq_true h64, Bool.true_or, if_pos rfl]
              have b64 : (((p : Int) - (fr : Int)) == 64) = true := by simp; omega
              clear HST HD h255 hx hin h64
              go_wp2_with fail
              refine (unhide HIN).mono ?_
              rintro e w1 ⟨rfl, hw1⟩
              obtain rfl := hw1.symm
              clear hw1
              go_wp2
              try rw [Exit.noGoto_ret]
              go_ret2
              exact ⟨by rw [HF.out, decide_eq_true (Or.inl hlt)]; rfl, Below.refl _ _⟩
            · have b64 : (((p : Int) - (fr : Int)) == 64) = false := by simp; omega
              rw [decide_eq_false h64, Bool.false_or] at HD
              by_cases hpf : p = fr
              · have bpf : ((p : Int) == (fr : Int)) = true := by rw [hpf]; simp
                rw [decide_eq_true hpf, Bool.true_and] at HD
                cases bd with
                | true =>
                  have HF : Hid (lvS s = (p, fr)) := by show _ = _; rw [HST.out, HD.out, if_pos rfl]
                  clear HST HD h255 hx hin h64 hpf
                  go_wp2_with fail
                  refine (unhide HIN).mono ?_
                  rintro e w1 ⟨rfl, hw1⟩
                  obtain rfl := hw1.symm
                  clear hw1
                  go_wp2_with fail
                  refine (unhide HDO).mono ?_
                  rintro e w1 ⟨rfl, hw1⟩
                  obtain rfl := hw1.symm
                  clear hw1
                  go_wp2
                  try rw [Exit.noGoto_ret]
                  go_ret2
                  exact ⟨by rw [HF.out, decide_eq_true (Or.inl hlt)]; rfl, Below.refl _ _⟩
                | false =>
                  have HF : Hid (lvS s = lvF s (s.size - (p + 1)) (p + 1) fr ah) := by show _ = _; rw [HST.out, HD.out, if_neg (by decide)]
                  clear HST HD h255 hx hin h64 hpf
                  go_wp2_with fail
                  refine (unhide HIN).mono ?_
                  rintro e w1 ⟨rfl, hw1⟩
                  obtain rfl := hw1.symm
                  clear hw1
                  go_wp2_with fail
                  refine (unhide HDO).mono ?_
                  rintro e w1 ⟨rfl, hw1⟩
                  obtain rfl := hw1.symm
                  clear hw1
                  go_wp2
                  go_roundw
                  case rel => exact ⟨p + 1, fr, ah, by omega, by omega, by omega, by go_num, by go_num, by go_num, HF⟩
                  case measure => simp [intOf]; omega
              · have bpf : ((p : Int) == (fr : Int)) = false := by simp; omega
                have HF : Hid (lvS s = lvF s (s.size - (p + 1)) (p + 1) fr ah) := by show _ = _; rw [HST.out, HD.out, decide_eq_false hpf, Bool.false_and, if_neg (by decide)]
                clear HST HD h255 hx hin h64 hpf
                go_wp2_with fail
                refine (unhide HIN).mono ?_
                rintro e w1 ⟨rfl, hw1⟩
                obtain rfl := hw1.symm
                clear hw1
                go_wp2
                go_roundw
                case rel => exact ⟨p + 1, fr, ah, by omega, by omega, by omega, by go_num, by go_num, by go_num, HF⟩
                case measure => simp [intOf]; omega
    · have hpe : p = s.size := by omega
      have HF : Hid (lvS s = (s.size, fr)) := by show _ = _; rw [HO.out, hpe, Nat.sub_self]; rfl
      clear HO
      go_wp2
      try rw [Exit.noGoto_ret]
      have hd : ((s.size : Int) == (fr : Int)) = decide (s.size < s.size ∨ s.size = fr) := by
        by_cases e : s.size = fr
        · rw [decide_eq_true (Or.inr e), e]; simp
        · rw [decide_eq_false (fun h => h.elim (fun h => absurd h (Nat.lt_irrefl _)) e)]
          simp; omega
      rw [hd]
      go_ret2
      exact ⟨by rw [HF.out]; rfl, Below.refl _ _⟩
end Go.Proofs.YtmogbkgchhplkaaDoor
