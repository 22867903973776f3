/- escape. -/
import Derived.Test.YtcdilcjgmcamcabTkI
namespace Go.Proofs.Ytcdilcjgmcamcab
open Go.RowKit Go.Maps

/-- The byte that an escape says, and of how many bytes it is; of none: it says none. -/
def escP (c1 c2 c3 : UInt8) : UInt8 × Nat :=
  if c1.toNat = 34 ∨ c1.toNat = 92 then (c1, 2) else if c1.toNat = 110 then (10, 2) else if c1.toNat = 120 then (match dg c2, dg c3 with | some h, some l => (UInt8.ofNat (16 * h + l), 4) | _, _ => (0, 0)) else (0, 0)
theorem dg_lt {c : UInt8} {h : Nat} (e : dg c = some h) : h < 16 := by
  unfold dg at e
  split at e
  · injection e with e; omega
  · split at e
    · injection e with e; omega
    · cases e
theorem esc_or : ∀ h : Fin 16, ∀ l : Fin 16, bits .or .i64 ((h.val : Int) * 16) (l.val : Int) = 16 * (h.val : Int) + (l.val : Int) := by decide +kernel
theorem esc_val {h l : Nat} (hh : h < 16) (hl : l < 16) : bits .or .i64 ((h : Int) * 16) (l : Int) = 16 * (h : Int) + (l : Int) := esc_or ⟨h, hh⟩ ⟨l, hl⟩
section
variable {w0 w w' : World} {g : Nat} {s : ByteArray} {a st bh ln : Nat} {out : List Tok} {wr : Int} {v : Value}
set_option maxRecDepth 100000 in
set_option maxHeartbeats 4000000 in
theorem escape_calls (h : Rd w0 w g s a st bh ln out wr v) (hs : s.size ≤ 1000000) (ha : a ≤ s.size) : Calls Try.prog 55 #[.pointer (some ⟨g, 0, none⟩)] w fun e w' => e = .returned (.tuple #[.int .u8 ((escP (lk s (a + 1)) (lk s (a + 2)) (lk s (a + 3))).1.toNat : Int), .int .i64 ((escP (lk s (a + 1)) (lk s (a + 2)) (lk s (a + 3))).2 : Int)]) ∧ Below w.heap.size w w' := by
  have H1 := hide (look_calls h 1 (by omega) hs (by omega))
  have H2 : Hid (∀ W, Below w.heap.size w W → Calls Try.prog 42 #[.pointer (some ⟨g, 0, none⟩), .int .i64 2] W fun e w' => e = .returned (.int .u8 ((lk s (a + 2)).toNat : Int)) ∧ Below W.heap.size W w') := fun W hb => look_calls (h.keep hb) 2 (by omega) hs (by omega)
  have H3 : Hid (∀ W, Below w.heap.size w W → Calls Try.prog 42 #[.pointer (some ⟨g, 0, none⟩), .int .i64 3] W fun e w' => e = .returned (.int .u8 ((lk s (a + 3)).toNat : Int)) ∧ Below W.heap.size W w') := fun W hb => look_calls (h.keep hb) 3 (by omega) hs (by omega)
  clear h ha hs
  have HD : Hid (∀ (c : UInt8) (W : World), Calls Try.prog 59 #[.int .u8 (c.toNat : Int)] W fun e w' => e = .returned (.int .i64 (match dg c with | some h => (h : Int) | none => -1)) ∧ w' = W) := fun c W => by
    have := digit_calls (c.toNat : Int) (by omega) (by have := u8_lt c; omega) W
    rw [dgI_eq] at this
    exact this
  generalize lk s (a + 2) = c2 at *
  generalize lk s (a + 3) = c3 at *
  generalize lk s (a + 1) = c1 at *
  obtain ⟨E, hE⟩ : ∃ E, E = escP c1 c2 c3 := ⟨_, rfl⟩
  rw [← hE]
  have HE : Hid (E = if c1.toNat = 34 ∨ c1.toNat = 92 then (c1, 2) else if c1.toNat = 110 then (10, 2) else if c1.toNat = 120 then (match dg c2, dg c3 with | some h, some l => (UInt8.ofNat (16 * h + l), 4) | _, _ => (0, 0)) else (0, 0)) := hE
  clear hE
  have b1 : (((c1.toNat : Int)) == 34) = decide (c1.toNat = 34) := u8_eq c1 34
  have b2 : (((c1.toNat : Int)) == 92) = decide (c1.toNat = 92) := u8_eq c1 92
  have b3 : (((c1.toNat : Int)) == 110) = decide (c1.toNat = 110) := u8_eq c1 110
  have b4 : (((c1.toNat : Int)) == 120) = decide (c1.toNat = 120) := u8_eq c1 120
  by_cases h1 : c1.toNat = 34
  · rw [decide_eq_true h1] at b1
    have HV : Hid (E = (c1, 2)) := by show _ = _; rw [HE.out, if_pos (Or.inl h1)]
    clear HE h1 b2 b3 b4
    go_enter Try.func55, Try.ntmps55
    go_wp2_with fail
    refine (unhide H1).mono ?_
    rintro e w1 ⟨rfl, hb1⟩
    go_wp2
    go_ret2
    exact ⟨by rw [HV.out]; rfl, hb1⟩
  · rw [decide_eq_false h1] at b1
    by_cases h2 : c1.toNat = 92
    · rw [decide_eq_true h2] at b2
      have HV : Hid (E = (c1, 2)) := by show _ = _; rw [HE.out, if_pos (Or.inr h2)]
      clear HE h1 h2 b3 b4
      go_enter Try.func55, Try.ntmps55
      go_wp2_with fail
      refine (unhide H1).mono ?_
      rintro e w1 ⟨rfl, hb1⟩
      go_wp2
      go_ret2
      exact ⟨by rw [HV.out]; rfl, hb1⟩
    · rw [decide_eq_false h2] at b2
      have HE2 : Hid (E = if c1.toNat = 110 then (10, 2) else if c1.toNat = 120 then (match dg c2, dg c3 with | some h, some l => (UInt8.ofNat (16 * h + l), 4) | _, _ => (0, 0)) else (0, 0)) := by show _ = _; rw [HE.out, if_neg (by omega)]
      by_cases h3 : c1.toNat = 110
      · rw [decide_eq_true h3] at b3
        have HV : Hid (E = (10, 2)) := by show _ = _; rw [HE2.out, if_pos h3]
        clear HE HE2 h1 h2 h3 b4
        go_enter Try.func55, Try.ntmps55
        go_wp2_with fail
        refine (unhide H1).mono ?_
        rintro e w1 ⟨rfl, hb1⟩
        go_wp2
        go_ret2
        exact ⟨by rw [HV.out]; rfl, hb1⟩
      · rw [decide_eq_false h3] at b3
        have HE3 : Hid (E = if c1.toNat = 120 then (match dg c2, dg c3 with | some h, some l => (UInt8.ofNat (16 * h + l), 4) | _, _ => (0, 0)) else (0, 0)) := by show _ = _; rw [HE2.out, if_neg h3]
        by_cases h4 : c1.toNat = 120
        · rw [decide_eq_true h4] at b4
          have HE4 : Hid (E = (match dg c2, dg c3 with | some h, some l => (UInt8.ofNat (16 * h + l), 4) | _, _ => (0, 0))) := by show _ = _; rw [HE3.out, if_pos h4]
          have HD2 := hide (fun W => unhide HD c2 W)
          have HD3 := hide (fun W => unhide HD c3 W)
          clear HE HE2 HE3 HD h1 h2 h3 h4
          cases hd2 : dg c2 with
          | none =>
            rw [hd2] at HD2 HE4
            have HV : Hid (E = (0, 0)) := by show _ = _; rw [HE4.out]
            have HDD : Hid (∃ y : Int, ∀ W : World, Calls Try.prog 59 #[.int .u8 (c3.toNat : Int)] W fun e w' => e = .returned (.int .i64 y) ∧ w' = W) := ⟨_, HD3.out⟩
            clear HD3 HE4 hd2
            obtain ⟨y, hD3⟩ := HDD.out
            have HD3 := hide hD3
            clear hD3 HDD
            go_enter Try.func55, Try.ntmps55
            go_wp2_with fail
            refine (unhide H1).mono ?_
            rintro e w1 ⟨rfl, hb1⟩
            have HH2 := hide (unhide H2 w1 hb1)
            go_wp2_with fail
            refine (unhide HH2).mono ?_
            rintro e w2 ⟨rfl, hb2⟩
            have hb12 := hb1.trans (hb2.mono hb1.size)
            go_wp2_with fail
            refine (unhide HD2 w2).mono ?_
            rintro e w3 ⟨rfl, hw3⟩
            obtain rfl := hw3.symm
            have HH3 := hide (unhide H3 w2 hb12)
            go_wp2_with fail
            refine (unhide HH3).mono ?_
            rintro e w4 ⟨rfl, hb4⟩
            have hb14 := hb12.trans (hb4.mono hb12.size)
            go_wp2_with fail
            refine (unhide HD3 w4).mono ?_
            rintro e w5 ⟨rfl, hw5⟩
            obtain rfl := hw5.symm
            go_wp2
            go_ret2
            exact ⟨by rw [HV.out]; rfl, hb14⟩
          | some h =>
            rw [hd2] at HD2 HE4
            have hh := dg_lt hd2
            cases hd3 : dg c3 with
            | none =>
              rw [hd3] at HD3 HE4
              have HV : Hid (E = (0, 0)) := by show _ = _; rw [HE4.out]
              clear HE4 hd2 hd3
              go_enter Try.func55, Try.ntmps55
              go_wp2_with fail
              refine (unhide H1).mono ?_
              rintro e w1 ⟨rfl, hb1⟩
              have HH2 := hide (unhide H2 w1 hb1)
              go_wp2_with fail
              refine (unhide HH2).mono ?_
              rintro e w2 ⟨rfl, hb2⟩
              have hb12 := hb1.trans (hb2.mono hb1.size)
              go_wp2_with fail
              refine (unhide HD2 w2).mono ?_
              rintro e w3 ⟨rfl, hw3⟩
              obtain rfl := hw3.symm
              have HH3 := hide (unhide H3 w2 hb12)
              go_wp2_with fail
              refine (unhide HH3).mono ?_
              rintro e w4 ⟨rfl, hb4⟩
              have hb14 := hb12.trans (hb4.mono hb12.size)
              go_wp2_with fail
              refine (unhide HD3 w4).mono ?_
              rintro e w5 ⟨rfl, hw5⟩
              obtain rfl := hw5.symm
              go_wp2
              go_ret2
              exact ⟨by rw [HV.out]; rfl, hb14⟩
            | some l =>
              rw [hd3] at HD3 HE4
              have hl := dg_lt hd3
              have HV : Hid (E = (UInt8.ofNat (16 * h + l), 4)) := by show _ = _; rw [HE4.out]
              have hor := esc_val hh hl
              clear HE4 hd2 hd3
              go_enter Try.func55, Try.ntmps55
              go_wp2_with fail
              refine (unhide H1).mono ?_
              rintro e w1 ⟨rfl, hb1⟩
              have HH2 := hide (unhide H2 w1 hb1)
              go_wp2_with fail
              refine (unhide HH2).mono ?_
              rintro e w2 ⟨rfl, hb2⟩
              have hb12 := hb1.trans (hb2.mono hb1.size)
              go_wp2_with fail
              refine (unhide HD2 w2).mono ?_
              rintro e w3 ⟨rfl, hw3⟩
              obtain rfl := hw3.symm
              have HH3 := hide (unhide H3 w2 hb12)
              go_wp2_with fail
              refine (unhide HH3).mono ?_
              rintro e w4 ⟨rfl, hb4⟩
              have hb14 := hb12.trans (hb4.mono hb12.size)
              go_wp2_with fail
              refine (unhide HD3 w4).mono ?_
              rintro e w5 ⟨rfl, hw5⟩
              obtain rfl := hw5.symm
              go_wp2
              go_ret2
              refine ⟨?_, hb14⟩
              rw [HV.out]
              show Ending.returned (.tuple #[.int .u8 (16 * (h : Int) + (l : Int)), .int .i64 4]) = Ending.returned (.tuple #[.int .u8 ((UInt8.ofNat (16 * h + l)).toNat : Int), .int .i64 4])
              rw [show (UInt8.ofNat (16 * h + l)).toNat = 16 * h + l by simp [UInt8.toNat_ofNat']; omega]
              rfl
        · rw [decide_eq_false h4] at b4
          have HV : Hid (E = (0, 0)) := by show _ = _; rw [HE3.out, if_neg h4]
          clear HE HE2 HE3 h1 h2 h3 h4
          go_enter Try.func55, Try.ntmps55
          go_wp2_with fail
          refine (unhide H1).mono ?_
          rintro e w1 ⟨rfl, hb1⟩
          go_wp2
          go_ret2
          exact ⟨by rw [HV.out]; rfl, hb1⟩
end
end Go.Proofs.Ytcdilcjgmcamcab
