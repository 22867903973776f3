/- The document's wrong. -/
import Derived.Test.YtmogbkgchhplkaaDoorPaIsS
namespace Go.Proofs.YtmogbkgchhplkaaDoor
open Go.RowKit

/-- The place in a part that can't be, counted from where the part begins; or -1. -/
def wrI (part : ByteArray) (x : Nat) : Int := match dpL (toL part) with
  | some k => ((x + k : Nat) : Int)
  | none => -1
theorem wrL_step (s : ByteArray) {i : Nat} (h : i < s.size) : wrL ((toL s).drop i) i = if inN (byt s i) = false ∨ i = 64 then some i else wrL ((toL s).drop (i + 1)) (i + 1) := by
  rw [toL_at s h, wrL]
  rfl
set_option maxRecDepth 100000 in
set_option maxHeartbeats 4000000 in
theorem wrong_calls (s : ByteArray) (x : Nat) (hs : s.size ≤ 1000000) (hx : x ≤ 10000000) (w : World) : Calls Tryd.prog 38 #[.string s, .int .i64 (x : Int)] w fun e w' => e = .returned (.int .i64 (wrI s x)) ∧ w' = w := by
  have e1 : (s.toList == [46]) = decide (s = dot1) := by rw [← str_eq, ByteArray.toList_eq dot1]; rfl
  have e2 : (s.toList == [46, 46]) = decide (s = dot2) := by rw [← str_eq, ByteArray.toList_eq dot2]; rfl
  have d1 : s = dot1 ↔ toL s = [46] := by rw [← toL_iff]; rfl
  have d2 : s = dot2 ↔ toL s = [46, 46] := by rw [← toL_iff]; rfl
  have HD : Hid (wrI s x = match dpL (toL s) with | some k => ((x + k : Nat) : Int) | none => -1) := rfl
  by_cases h1 : s = dot1
  · rw [decide_eq_true h1] at e1
    have HV : Hid (wrI s x = (x : Int)) := by show _ = _; rw [HD.out, dpL, if_pos (Or.inl (d1.1 h1))]; rfl
    clear d1 d2 h1 HD
    go_enter Tryd.func38, Tryd.ntmps38
    go_wp2
    go_ret
    exact ⟨by rw [HV.out]; rfl, rfl⟩
  · rw [decide_eq_false h1] at e1
    by_cases h2 : s = dot2
    · rw [decide_eq_true h2] at e2
      have HV : Hid (wrI s x = (x : Int)) := by show _ = _; rw [HD.out, dpL, if_pos (Or.inr (d2.1 h2))]; rfl
      clear d1 d2 h1 h2 HD
      go_enter Tryd.func38, Tryd.ntmps38
      go_wp2
      go_ret
      exact ⟨by rw [HV.out]; rfl, rfl⟩
    · rw [decide_eq_false h2] at e2
      have HW : Hid (wrI s x = match wrL (toL s) 0 with | some k => ((x + k : Nat) : Int) | none => -1) := by
        show _ = _
        rw [HD.out, dpL, if_neg (fun h => h.elim (fun h => h1 (d1.2 h)) fun h => h2 (d2.2 h))]
      clear d1 d2 h1 h2 HD
      go_enter Tryd.func38, Tryd.ntmps38
      go_wp2_with fail
      go_loop [5] (fun jv => ∃ (j : Nat), j ≤ s.size ∧ jv = .int .i64 (j : Int) ∧ Hid (wrL (toL s) 0 = wrL ((toL s).drop j) j)) (fun j => s.size - (intOf j).toNat)
      case atStart => exact ⟨0, by omega, rfl, by show _ = _; rfl⟩
      case round =>
        obtain ⟨j, hj, rfl, HJ⟩ := hrel
        by_cases hlt : j < s.size
        · have hidx := index_str s j hlt
          have HM := hide (may_calls (byt s j) w)
          have HST := hide (wrL_step s hlt)
          have hjI : (j : Int) < (s.size : Int) := by omega
          cases hin : inN (byt s j) with
          | true =>
            rw [hin] at HM
            by_cases h64 : j = 64
            · have HV : Hid (wrI s x = (x : Int) + (j : Int)) := by
                show _ = _
                rw [HW.out, HJ.out, HST.out, if_pos (Or.inr h64)]
                exact Int.natCast_add _ _
              have b64 : ((j : Int) == 64) = true := by rw [h64]; rfl
              generalize byt s j = y at *
              clear hin h64
              go_wp2_with fail
              refine (unhide HM).mono ?_
              rintro e w1 ⟨rfl, hw1⟩
              obtain rfl := hw1.symm
              clear hw1
              go_wp2
              go_ret
              exact ⟨by rw [HV.out]; rfl, rfl⟩
            · have HJ2 : Hid (wrL (toL s) 0 = wrL ((toL s).drop (j + 1)) (j + 1)) := by
                show _ = _
                rw [HJ.out, HST.out, if_neg (fun h => h.elim (fun h => by rw [hin] at h; cases h) h64)]
              have b64 : ((j : Int) == 64) = false := by simp; omega
              generalize byt s j = y at *
              clear hin h64
              go_wp2_with fail
              refine (unhide HM).mono ?_
              rintro e w1 ⟨rfl, hw1⟩
              obtain rfl := hw1.symm
              clear hw1
              go_wp2
              go_roundw
              case rel => exact ⟨j + 1, by omega, by go_num, HJ2⟩
              case measure => simp [intOf]; omega
          | false =>
            rw [hin] at HM
            have HV : Hid (wrI s x = (x : Int) + (j : Int)) := by
              show _ = _
              rw [HW.out, HJ.out, HST.out, if_pos (Or.inl hin)]
              exact Int.natCast_add _ _
            generalize byt s j = y at *
            clear hin
            go_wp2_with fail
            refine (unhide HM).mono ?_
            rintro e w1 ⟨rfl, hw1⟩
            obtain rfl := hw1.symm
            clear hw1
            go_wp2
            go_ret
            exact ⟨by rw [HV.out]; rfl, rfl⟩
        · have HV : Hid (wrI s x = -1) := by
            show _ = _
            rw [HW.out, HJ.out, List.drop_of_length_le (by rw [toL_len]; omega)]
            rfl
          go_wp2
          go_ret
          exact ⟨by rw [HV.out]; rfl, rfl⟩
end Go.Proofs.YtmogbkgchhplkaaDoor
