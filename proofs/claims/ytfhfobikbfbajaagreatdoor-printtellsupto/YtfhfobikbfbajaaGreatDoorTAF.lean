/- leave. strings.Contains of a slash. The document's may and Name. The document's Parts. Texts as lists of bytes: parts, joining, the two orders. Nothing of a program. -/
import Derived.Test.YtfhfobikbfbajaaGreatDoorTAE
import Derived.Lib.Bytealg
import Derived.Laws.Externs
import Derived.Test.YtfhfobikbfbajaaGreatDoorTAC
import Derived.Lib.SplitLaws
import Derived.Lib.Join
namespace Go.Proofs.YtfhfobikbfbajaaGreatDoor
open Go.RowKit

/-- Does reading end at this byte? -/
def lvStop (s : ByteArray) (p fr ah : Nat) : Bool :=
  decide (p = 255) || (if byt s p = 47 then (decide (p = fr) || decide (ah = 15)) else (!(inN (byt s p)) || decide (p - fr = 64) || (decide (p = fr) && dotsB (s.extract p s.size))))
/-- Where reading ends, and where the last part begins. -/
def lvF (s : ByteArray) : Nat → Nat → Nat → Nat → Nat × Nat
  | 0, p, fr, _ => (p, fr)
  | n + 1, p, fr, ah => if lvStop s p fr ah = true then (p, fr) else if byt s p = 47 then lvF s n (p + 1) (p + 1) (ah + 1) else lvF s n (p + 1) fr ah
def lvS (s : ByteArray) : Nat × Nat := lvF s s.size 0 0 0
set_option maxRecDepth 100000 in
set_option maxHeartbeats 4000000 in
theorem leave_calls (s : ByteArray) (hs : s.size ≤ 140737488360000) (w : World) : Calls Tryz.prog 89 #[.string s] w fun e w' => e = .returned (.tuple #[.int .i64 (((lvS s).1 : Nat) : Int), .bool (decide ((lvS s).1 < s.size ∨ (lvS s).1 = (lvS s).2))]) ∧ Below w.heap.size w w' := by
  go_enter Tryz.func89, Tryz.ntmps89
  go_wp2_with fail
  go_step3
  go_wp2_with fail
  go_step3
  go_wp2_with fail
  go_loop [4, 5, 6] (fun pv fv hv => ∃ (p fr ah : Nat), p ≤ s.size ∧ fr ≤ p ∧ ah ≤ p ∧ pv = .int .i64 (p : Int) ∧ fv = .int .i64 (fr : Int) ∧ hv = .int .i64 (ah : Int) ∧ Hid (lvS s = lvF s (s.size - p) p fr ah)) (fun p _ _ => s.size - (intOf p).toNat)
  case atStart => exact ⟨0, 0, 0, by omega, by omega, by omega, rfl, rfl, rfl, by show _ = _; unfold lvS; rw [Nat.sub_zero]⟩
  case round =>
    obtain ⟨p, fr, ah, hp, hfr, hah, rfl, rfl, rfl, HO⟩ := hrel
    by_cases hlt : p < s.size
    · have hidx := index_str s p hlt
      have hstep : lvF s (s.size - p) p fr ah = if lvStop s p fr ah = true then (p, fr) else if byt s p = 47 then lvF s (s.size - (p + 1)) (p + 1) (p + 1) (ah + 1) else lvF s (s.size - (p + 1)) (p + 1) fr ah := by
        rw [show s.size - p = (s.size - (p + 1)) + 1 by omega]; rfl
      have HST : Hid (lvS s = _) := (HO.out).trans hstep
      have HD : Hid (lvStop s p fr ah = (decide (p = 255) || (if byt s p = 47 then (decide (p = fr) || decide (ah = 15)) else (!(inN (byt s p)) || decide (p - fr = 64) || (decide (p = fr) && dotsB (s.extract p s.size)))))) := rfl
      have HIN := hide (inName_calls (byt s p) w)
      have HDO := hide (dots_calls (s.extract p s.size) w)
      generalize byt s p = x at *
      generalize dotsB (s.extract p s.size) = bd at *
      clear hstep HO
      have hltI : (p : Int) < (s.size : Int) := by omega
      by_cases h255 : p = 255
      · have HF : Hid (lvS s = (p, fr)) := by show _ = _; rw [HST.out, HD.out, decide_eq_true h255, Bool.true_or, if_pos rfl]
        have b255 : ((p : Int) == 255) = true := by rw [h255]; rfl
        clear HST HD h255
        go_wp2
        try rw [Exit.noGoto_ret]
        go_ret2
        exact ⟨by rw [HF.out, decide_eq_true (Or.inl hlt)]; rfl, Below.refl _ _⟩
      · have b255 : ((p : Int) == 255) = false := by simp; omega
        by_cases hx : x = 47
        · subst hx
          by_cases hpf : p = fr
          · have HF : Hid (lvS s = (p, fr)) := by show _ = _; rw [HST.out, HD.out, decide_eq_false h255, if_pos rfl, decide_eq_true hpf, Bool.true_or, Bool.false_or, if_pos rfl]
            have bpf : ((p : Int) == (fr : Int)) = true := by rw [hpf]; simp
            clear HST HD h255 hpf
            go_wp2
            try rw [Exit.noGoto_ret]
            go_ret2
            exact ⟨by rw [HF.out, decide_eq_true (Or.inl hlt)]; rfl, Below.refl _ _⟩
          · have bpf : ((p : Int) == (fr : Int)) = false := by simp; omega
            by_cases h15 : ah = 15
            · have HF : Hid (lvS s = (p, fr)) := by show _ = _; rw [HST.out, HD.out, decide_eq_false h255, if_pos rfl, decide_eq_true h15, Bool.or_true, Bool.or_true, if_pos rfl]
              have b15 : ((ah : Int) == 15) = true := by rw [h15]; rfl
              clear HST HD h255 hpf h15
              go_wp2
              try rw [Exit.noGoto_ret]
              go_ret2
              exact ⟨by rw [HF.out, decide_eq_true (Or.inl hlt)]; rfl, Below.refl _ _⟩
            · have HF : Hid (lvS s = lvF s (s.size - (p + 1)) (p + 1) (p + 1) (ah + 1)) := by show _ = _; rw [HST.out, HD.out, decide_eq_false h255, if_pos rfl, decide_eq_false hpf, decide_eq_false h15, if_neg (by decide), if_pos rfl]
              have b15 : ((ah : Int) == 15) = false := by simp; omega
              clear HST HD h255 hpf h15
              go_wp2
              go_roundw
              case rel => exact ⟨p + 1, p + 1, ah + 1, by omega, by omega, by omega, by go_num, by go_num, by go_num, HF⟩
              case measure => simp [intOf]; omega
        · have b47 : (x == 47) = false := by simpa using hx
          rw [if_neg hx] at HST HD
          cases hin : inN x with
          | false =>
            rw [hin] at HIN HD
            have HF : Hid (lvS s = (p, fr)) := by show _ = _; rw [HST.out, HD.out, Bool.not_false, Bool.true_or, Bool.true_or, Bool.or_true, if_pos rfl]
            clear HST HD h255 hx hin
            go_wp2_with fail
            refine (unhide HIN).mono ?_
            rintro e w1 ⟨rfl, hw1⟩
            obtain rfl := hw1.symm
            clear hw1
            go_wp2
            try rw [Exit.noGoto_ret]
            go_ret2
            exact ⟨by rw [HF.out, decide_eq_true (Or.inl hlt)]; rfl, Below.refl _ _⟩
          | true =>
            rw [hin] at HIN HD
            rw [decide_eq_false h255, Bool.not_true, Bool.false_or, Bool.false_or] at HD
            by_cases h64 : p - fr = 64
            · have HF : Hid (lvS s = (p, fr)) := by show _ = _; rw [HST.out, HD.out, decide_eq_true h64, Bool.true_or, if_pos rfl]
              have b64 : (((p : Int) - (fr : Int)) == 64) = true := by simp; omega
              clear HST HD h255 hx hin h64
              go_wp2_with fail
              refine (unhide HIN).mono ?_
              rintro e w1 ⟨rfl, hw1⟩
              obtain rfl := hw1.symm
              clear hw1
              go_wp2
              try rw [Exit.noGoto_ret]
              go_ret2
              exact ⟨by rw [HF.out, decide_eq_true (Or.inl hlt)]; rfl, Below.refl _ _⟩
            · have b64 : (((p : Int) - (fr : Int)) == 64) = false := by simp; omega
              rw [decide_eq_false h64, Bool.false_or] at HD
              by_cases hpf : p = fr
              · have bpf : ((p : Int) == (fr : Int)) = true := by rw [hpf]; simp
                rw [decide_eq_true hpf, Bool.true_and] at HD
                cases bd with
                | true =>
                  have HF : Hid (lvS s = (p, fr)) := by show _ = _; rw [HST.out, HD.out, if_pos rfl]
                  clear HST HD h255 hx hin h64 hpf
                  go_wp2_with fail
                  refine (unhide HIN).mono ?_
                  rintro e w1 ⟨rfl, hw1⟩
                  obtain rfl := hw1.symm
                  clear hw1
                  go_wp2_with fail
                  refine (unhide HDO).mono ?_
                  rintro e w1 ⟨rfl, hw1⟩
                  obtain rfl := hw1.symm
                  clear hw1
                  go_wp2
                  try rw [Exit.noGoto_ret]
                  go_ret2
                  exact ⟨by rw [HF.out, decide_eq_true (Or.inl hlt)]; rfl, Below.refl _ _⟩
                | false =>
                  have HF : Hid (lvS s = lvF s (s.size - (p + 1)) (p + 1) fr ah) := by show _ = _; rw [HST.out, HD.out, if_neg (by decide)]
                  clear HST HD h255 hx hin h64 hpf
                  go_wp2_with fail
                  refine (unhide HIN).mono ?_
                  rintro e w1 ⟨rfl, hw1⟩
                  obtain rfl := hw1.symm
                  clear hw1
                  go_wp2_with fail
                  refine (unhide HDO).mono ?_
                  rintro e w1 ⟨rfl, hw1⟩
                  obtain rfl := hw1.symm
                  clear hw1
                  go_wp2
                  go_roundw
                  case rel => exact ⟨p + 1, fr, ah, by omega, by omega, by omega, by go_num, by go_num, by go_num, HF⟩
                  case measure => simp [intOf]; omega
              · have bpf : ((p : Int) == (fr : Int)) = false := by simp; omega
                have HF : Hid (lvS s = lvF s (s.size - (p + 1)) (p + 1) fr ah) := by show _ = _; rw [HST.out, HD.out, decide_eq_false hpf, Bool.false_and, if_neg (by decide)]
                clear HST HD h255 hx hin h64 hpf
                go_wp2_with fail
                refine (unhide HIN).mono ?_
                rintro e w1 ⟨rfl, hw1⟩
                obtain rfl := hw1.symm
                clear hw1
                go_wp2
                go_roundw
                case rel => exact ⟨p + 1, fr, ah, by omega, by omega, by omega, by go_num, by go_num, by go_num, HF⟩
                case measure => simp [intOf]; omega
    · have hpe : p = s.size := by omega
      have HF : Hid (lvS s = (s.size, fr)) := by show _ = _; rw [HO.out, hpe, Nat.sub_self]; rfl
      clear HO
      go_wp2
      try rw [Exit.noGoto_ret]
      have hd : ((s.size : Int) == (fr : Int)) = decide (s.size < s.size ∨ s.size = fr) := by
        by_cases e : s.size = fr
        · rw [decide_eq_true (Or.inr e), e]; simp
        · rw [decide_eq_false (fun h => h.elim (fun h => absurd h (Nat.lt_irrefl _)) e)]
          simp; omega
      rw [hd]
      go_ret2
      exact ⟨by rw [HF.out]; rfl, Below.refl _ _⟩
end Go.Proofs.YtfhfobikbfbajaaGreatDoor

namespace Go.Proofs.YtfhfobikbfbajaaGreatDoor
open Go.RowKit

set_option maxRecDepth 100000 in
set_option maxHeartbeats 2000000 in
theorem indexByte_calls (s : ByteArray) (c : Int) (w : World) : Calls Tryz.prog 163 #[.string s, .int .u8 c] w fun e w' => e = .returned (.int .i64 (Lib.indexByte s.data.toList c.toNat.toUInt8)) ∧ w' = w := by
  go_enter Tryz.func163, Tryz.ntmps163
  go_wp2
  rw [run_callFunc_extern Tryz.func178 (by kernel_rfl) (by kernel_rfl) (by kernel_rfl) (e := Extern.BytealgIndexByte.indexByte) (by kernel_rfl), Lib.run_indexByteString]
  simp only [Result.andThen]
  rw [Oper.upon_value]
  go_wp2
  go_ret
  exact ⟨rfl, rfl⟩
set_option maxRecDepth 100000 in
set_option maxHeartbeats 2000000 in
theorem index1_calls (s : ByteArray) (w : World) : Calls Tryz.prog 145 #[.string s, .string ⟨#[47]⟩] w fun e w' => e = .returned (.int .i64 (Lib.indexByte s.data.toList 47)) ∧ w' = w := by
  have H : Hid (Calls Tryz.prog 163 #[.string s, .int .u8 47] w fun e w' => e = .returned (.int .i64 (Lib.indexByte s.data.toList 47)) ∧ w' = w) := indexByte_calls s 47 w
  have h47 : ((((⟨#[47]⟩ : ByteArray)[0]'(by decide)).toNat : Nat) : Int) = 47 := rfl
  cases he : ([47] == s.toList) with
  | true =>
    have hd : s.data.toList = [47] := by
      rw [ByteArray.toList_eq] at he
      exact (eq_of_beq he).symm
    have HV : Hid (Lib.indexByte s.data.toList 47 = 0) := by show _ = _; rw [hd]; rfl
    clear hd
    go_enter Tryz.func145, Tryz.ntmps145
    go_wp2
    go_ret
    exact ⟨by rw [HV.out]; rfl, rfl⟩
  | false =>
    go_enter Tryz.func145, Tryz.ntmps145
    go_wp2_with fail
    refine (unhide H).mono ?_
    rintro e w1 ⟨rfl, hw1⟩
    obtain rfl := hw1.symm
    clear hw1
    go_wp2
    go_ret
    exact ⟨rfl, rfl⟩
set_option maxHeartbeats 1000000 in
theorem index_calls (s : ByteArray) (w : World) : Calls Tryz.prog 122 #[.string s, .string ⟨#[47]⟩] w fun e w' => e = .returned (.int .i64 (Lib.indexByte s.data.toList 47)) ∧ w' = w := by
  have H := hide (index1_calls s w)
  generalize Lib.indexByte s.data.toList 47 = q at *
  go_enter Tryz.func122, Tryz.ntmps122
  go_wp2_with fail
  refine (unhide H).mono ?_
  rintro e w1 ⟨rfl, hw1⟩
  obtain rfl := hw1.symm
  clear hw1
  go_wp2
  go_ret
  exact ⟨rfl, rfl⟩
/-- Is there a slash in it? -/
def slashB (s : ByteArray) : Bool := decide (0 ≤ Lib.indexByte s.data.toList 47)
set_option maxHeartbeats 1000000 in
theorem contains_calls (s : ByteArray) (w : World) : Calls Tryz.prog 90 #[.string s, .string ⟨#[47]⟩] w fun e w' => e = .returned (.bool (slashB s)) ∧ w' = w := by
  have H := hide (index_calls s w)
  unfold slashB
  generalize Lib.indexByte s.data.toList 47 = q at *
  go_enter Tryz.func90, Tryz.ntmps90
  go_wp2_with fail
  refine (unhide H).mono ?_
  rintro e w1 ⟨rfl, hw1⟩
  obtain rfl := hw1.symm
  clear hw1
  go_wp2
  go_ret
  exact ⟨rfl, rfl⟩
/-- Does reading end at something that can't be? -/
def wrongB (s : ByteArray) : Bool := decide ((lvS s).1 < s.size ∨ (lvS s).1 = (lvS s).2)
/-- Is it a name? -/
def nameB (s : ByteArray) : Bool := !(wrongB s) && !(slashB s)
set_option maxRecDepth 100000 in
set_option maxHeartbeats 1000000 in
theorem name_calls (s : ByteArray) (hs : s.size ≤ 140737488360000) (w : World) : Calls Tryz.prog 51 #[.string s] w fun e w' => e = .returned (.bool (nameB s)) ∧ Below w.heap.size w w' := by
  have H1 : Hid (Calls Tryz.prog 89 #[.string s] w fun e w' => e = .returned (.tuple #[.int .i64 (((lvS s).1 : Nat) : Int), .bool (wrongB s)]) ∧ Below w.heap.size w w') := leave_calls s hs w
  have H2 : Hid (∀ W, Calls Tryz.prog 90 #[.string s, .string ⟨#[47]⟩] W fun e w' => e = .returned (.bool (slashB s)) ∧ w' = W) := fun W => contains_calls s W
  have HQ : Hid (nameB s = (!(wrongB s) && !(slashB s))) := rfl
  generalize nameB s = q at *
  generalize wrongB s = b1 at *
  generalize slashB s = b2 at *
  generalize (lvS s).1 = p at *
  cases b1 with
  | true =>
    go_enter Tryz.func51, Tryz.ntmps51
    go_wp2_with fail
    refine (unhide H1).mono ?_
    rintro e w1 ⟨rfl, hb1⟩
    go_wp2
    go_ret
    exact ⟨by rw [HQ.out]; rfl, hb1⟩
  | false =>
    go_enter Tryz.func51, Tryz.ntmps51
    go_wp2_with fail
    refine (unhide H1).mono ?_
    rintro e w1 ⟨rfl, hb1⟩
    go_wp2_with fail
    refine (unhide H2 w1).mono ?_
    rintro e w2 ⟨rfl, hw2⟩
    obtain rfl := hw2.symm
    clear hw2
    go_wp2
    go_ret
    exact ⟨by rw [HQ.out]; rfl, hb1⟩
end Go.Proofs.YtfhfobikbfbajaaGreatDoor

namespace Go.Proofs.YtfhfobikbfbajaaGreatDoor
open Go.RowKit

theorem infoStr : (Tryz.prog.info? 9).map (fun i => (i.zero, i.size, i.bytes)) = some (some (.string ByteArray.empty), 1, 16) := by kernel_rfl
set_option maxRecDepth 100000 in
set_option maxHeartbeats 2000000 in
theorem may_calls (c : Int) (w : World) : Calls Tryz.prog 105 #[.int .u8 c] w fun e w' => e = .returned (.bool (inN c)) ∧ w' = w := by
  obtain ⟨q, hq⟩ : ∃ q, q = inN c := ⟨_, rfl⟩
  have HQ := hide hq
  rw [← hq]
  clear hq
  by_cases a1 : 97 ≤ c
  all_goals by_cases a2 : c ≤ 122
  all_goals by_cases a3 : 65 ≤ c
  all_goals by_cases a4 : c ≤ 90
  all_goals by_cases a5 : 48 ≤ c
  all_goals by_cases a6 : c ≤ 57
  all_goals by_cases a7 : c = 46
  all_goals by_cases a8 : c = 95
  all_goals by_cases a9 : c = 45
  all_goals try (exfalso; omega)
  all_goals (
    have HV : Hid (q = decide ((97 ≤ c ∧ c ≤ 122) ∨ (65 ≤ c ∧ c ≤ 90) ∨ (48 ≤ c ∧ c ≤ 57) ∨ c = 46 ∨ c = 95 ∨ c = 45)) := HQ.out
    have b7 : (c == 46) = decide (c = 46) := rfl
    have b8 : (c == 95) = decide (c = 95) := rfl
    have b9 : (c == 45) = decide (c = 45) := rfl
    go_enter Tryz.func105, Tryz.ntmps105
    go_wp2
    go_ret
    refine ⟨?_, rfl⟩
    rw [HV.out]
    first
    | (rw [decide_eq_true (by omega)]; rfl)
    | (rw [decide_eq_false (by omega)]; rfl))
/-- The document's name: the first i bytes may stand in one. -/
def mayTo (s : ByteArray) (i : Nat) : Prop := ∀ j, j < i → inN (byt s j) = true
def rnameB (s : ByteArray) : Prop := 1 ≤ s.size ∧ s.size ≤ 64 ∧ s ≠ dot1 ∧ s ≠ dot2 ∧ mayTo s s.size
set_option maxRecDepth 100000 in
set_option maxHeartbeats 2000000 in
theorem rname_calls (s : ByteArray) (hs : s.size ≤ 140737488360000) (q : Bool) (hq : q = true ↔ rnameB s) (w : World) : Calls Tryz.prog 65 #[.string s] w fun e w' => e = .returned (.bool q) ∧ w' = w := by
  have HT : Hid (rnameB s → q = true) := hq.2
  have HF : Hid (¬ rnameB s → q = false) := fun h => by
    cases q with
    | false => rfl
    | true => exact absurd (hq.1 rfl) h
  clear hq
  have e1 : (s.toList == [46]) = decide (s = dot1) := by rw [← str_eq, ByteArray.toList_eq dot1]; rfl
  have e2 : (s.toList == [46, 46]) = decide (s = dot2) := by rw [← str_eq, ByteArray.toList_eq dot2]; rfl
  by_cases h : 1 ≤ s.size ∧ s.size ≤ 64 ∧ s ≠ dot1 ∧ s ≠ dot2
  · obtain ⟨h1, h2, h3, h4⟩ := h
    rw [decide_eq_false h3] at e1
    rw [decide_eq_false h4] at e2
    have H3 := hide h3
    have H4 := hide h4
    clear h3 h4
    have i1 : (1 : Int) ≤ (s.size : Int) := by omega
    have i2 : (s.size : Int) ≤ 64 := by omega
    go_enter Tryz.func65, Tryz.ntmps65
    go_wp2_with fail
    go_loop [3] (fun jv => ∃ (j : Nat), j ≤ s.size ∧ jv = .int .i64 (j : Int) ∧ Hid (mayTo s j)) (fun j => s.size - (intOf j).toNat)
    case atStart => exact ⟨0, by omega, rfl, fun j hj => by omega⟩
    case round =>
      obtain ⟨j, hj, rfl, HJ⟩ := hrel
      by_cases hlt : j < s.size
      · have hidx := index_str s j hlt
        have HM := hide (may_calls (byt s j) w)
        have hjI : (j : Int) < (s.size : Int) := by omega
        cases hin : inN (byt s j) with
        | true =>
          have HN : Hid (mayTo s (j + 1)) := fun k hk => by
            by_cases e : k = j
            · subst e; exact hin
            · exact unhide HJ k (by omega)
          rw [hin] at HM
          generalize byt s j = x at *
          clear hin
          go_wp2_with fail
          refine (unhide HM).mono ?_
          rintro e w1 ⟨rfl, hw1⟩
          obtain rfl := hw1.symm
          clear hw1
          go_wp2
          go_roundw
          case rel => exact ⟨j + 1, by omega, by go_num, HN⟩
          case measure => simp [intOf]; omega
        | false =>
          have HN : Hid (¬ rnameB s) := fun hr => by
            have := hr.2.2.2.2 j hlt
            rw [hin] at this
            cases this
          rw [hin] at HM
          generalize byt s j = x at *
          clear hin
          go_wp2_with fail
          refine (unhide HM).mono ?_
          rintro e w1 ⟨rfl, hw1⟩
          obtain rfl := hw1.symm
          clear hw1
          go_wp2
          go_ret
          exact ⟨by rw [unhide HF HN.out]; rfl, rfl⟩
      · have HN : Hid (rnameB s) := ⟨h1, h2, H3.out, H4.out, fun k hk => unhide HJ k (by omega)⟩
        go_wp2
        go_ret
        exact ⟨by rw [unhide HT HN.out]; rfl, rfl⟩
  · have HN : Hid (¬ rnameB s) := fun hr => h ⟨hr.1, hr.2.1, hr.2.2.1, hr.2.2.2.1⟩
    have hcond : s.size < 1 ∨ (1 ≤ s.size ∧ 64 < s.size) ∨ (1 ≤ s.size ∧ s.size ≤ 64 ∧ s = dot1) ∨ (1 ≤ s.size ∧ s.size ≤ 64 ∧ s ≠ dot1 ∧ s = dot2) := by
      by_cases a1 : 1 ≤ s.size
      · by_cases a2 : s.size ≤ 64
        · by_cases a3 : s = dot1
          · exact Or.inr (Or.inr (Or.inl ⟨a1, a2, a3⟩))
          · by_cases a4 : s = dot2
            · exact Or.inr (Or.inr (Or.inr ⟨a1, a2, a3, a4⟩))
            · exact absurd ⟨a1, a2, a3, a4⟩ h
        · exact Or.inr (Or.inl ⟨a1, by omega⟩)
      · exact Or.inl (by omega)
    clear h
    rcases hcond with c1 | ⟨c1, c2⟩ | ⟨c1, c2, c3⟩ | ⟨c1, c2, c3, c4⟩
    · have i1 : (s.size : Int) < 1 := by omega
      go_enter Tryz.func65, Tryz.ntmps65
      go_wp2
      go_ret
      exact ⟨by rw [unhide HF HN.out]; rfl, rfl⟩
    · have i1 : (1 : Int) ≤ (s.size : Int) := by omega
      have i2 : (64 : Int) < (s.size : Int) := by omega
      go_enter Tryz.func65, Tryz.ntmps65
      go_wp2
      go_ret
      exact ⟨by rw [unhide HF HN.out]; rfl, rfl⟩
    · have i1 : (1 : Int) ≤ (s.size : Int) := by omega
      have i2 : (s.size : Int) ≤ 64 := by omega
      rw [decide_eq_true c3] at e1
      clear c3
      go_enter Tryz.func65, Tryz.ntmps65
      go_wp2
      go_ret
      exact ⟨by rw [unhide HF HN.out]; rfl, rfl⟩
    · have i1 : (1 : Int) ≤ (s.size : Int) := by omega
      have i2 : (s.size : Int) ≤ 64 := by omega
      rw [decide_eq_false c3] at e1
      rw [decide_eq_true c4] at e2
      clear c3 c4
      go_enter Tryz.func65, Tryz.ntmps65
      go_wp2
      go_ret
      exact ⟨by rw [unhide HF HN.out]; rfl, rfl⟩
end Go.Proofs.YtfhfobikbfbajaaGreatDoor

namespace Go.Proofs.YtfhfobikbfbajaaGreatDoor
open Go.RowKit

theorem info_part {t : TypeId} {z : Value} {s b : Nat} (h : (Tryz.prog.info? t).map (fun i => (i.zero, i.size, i.bytes)) = some (some z, s, b)) : ∃ i, Tryz.prog.info? t = some i ∧ i.zero = some z ∧ i.size = s ∧ i.bytes = b := by
  cases hi : Tryz.prog.info? t with
  | none => rw [hi] at h; cases h
  | some i =>
    rw [hi] at h
    simp only [Option.map_some, Option.some.injEq, Prod.mk.injEq] at h
    exact ⟨i, rfl, h.1, h.2.1, h.2.2⟩
def sV (l : List ByteArray) : List Value := l.map Value.string
theorem sV_len (l : List ByteArray) : (sV l).length = l.length := by simp [sV]
/-- What stands between the slashes. -/
def partsF (s : ByteArray) : Nat → Nat → Nat → List ByteArray
  | 0, _, fr => [s.extract fr s.size]
  | n + 1, i, fr => if byt s i = 47 then s.extract fr i :: partsF s n (i + 1) (i + 1) else partsF s n (i + 1) fr
def partsD (s : ByteArray) : List ByteArray := partsF s s.size 0 0
set_option maxRecDepth 100000 in
set_option maxHeartbeats 4000000 in
theorem rparts_calls (s : ByteArray) (hs : s.size ≤ 2000000) (w : World) : Calls Tryz.prog 106 #[.string s] w fun e w' => ∃ v, e = .returned v ∧ Row w' w.heap.size 9 v (sV (partsD s)) ∧ Below w.heap.size w w' := by
  obtain ⟨i0, hi, hz0, hz1, hz2⟩ := info_part infoStr
  go_enter Tryz.func106, Tryz.ntmps106
  go_wp2_with fail
  go_loopw [3, 4, 5] (fun lv fv iv wr => ∃ (i fr : Nat) (acc : List ByteArray), i ≤ s.size ∧ fr ≤ i ∧ acc.length ≤ i ∧ fv = .int .i64 (fr : Int) ∧ iv = .int .i64 (i : Int) ∧ Row wr w.heap.size 9 lv (sV acc) ∧ Hid (acc ++ partsF s (s.size - i) i fr = partsD s) ∧ Below w.heap.size w wr) (fun _ _ i _ => s.size - (intOf i).toNat)
  case atStart => exact ⟨0, 0, [], by omega, by omega, by simp, rfl, rfl, Row.nil _ _ _, by show _ = _; unfold partsD; rw [Nat.sub_zero]; rfl, Below.refl _ _⟩
  case round =>
    obtain ⟨i, fr, acc, hil, hfr, hac, rfl, rfl, hrow, HA, hb⟩ := hrel
    have hsz := hb.size
    obtain ⟨al, cl, hvl⟩ := hrow.shape
    subst hvl
    have hal : (sV acc).length ≤ 2000000 := by rw [sV_len]; omega
    have HRW := hide hrow
    by_cases hlt : i < s.size
    · have hidx := index_str s i hlt
      have hstep : partsF s (s.size - i) i fr = if byt s i = 47 then s.extract fr i :: partsF s (s.size - (i + 1)) (i + 1) (i + 1) else partsF s (s.size - (i + 1)) (i + 1) fr := by
        rw [show s.size - i = (s.size - (i + 1)) + 1 by omega]; rfl
      have HST : Hid (acc ++ _ = partsD s) := hstep ▸ HA.out
      have hiI : (i : Int) < (s.size : Int) := by omega
      generalize byt s i = x at *
      clear hstep HA
      by_cases hx : x = 47
      · subst hx
        have HN : Hid ((acc ++ [s.extract fr i]) ++ partsF s (s.size - (i + 1)) (i + 1) (i + 1) = partsD s) := by
          show _ = _
          rw [← HST.out, if_pos rfl, List.append_assoc]; rfl
        clear HST
        obtain ⟨sub, hsub⟩ : ∃ sub, sub = s.extract fr i := ⟨_, rfl⟩
        have hfi : (fr : Int) ≤ (i : Int) := by omega
        go_wp2_with (at_builtin; refine wpList_append_own _ rfl _ _ 22 rfl w.heap.size 9 i0 (.string ByteArray.empty) 1 16 Tryz.underlying22 hi hz0 hz1 hz2 rfl (by decide) _ _ _ rfl (World.ownsRow.alloc HRW.out _) ⟨wr.heap.size, 0, none⟩ 1 1 [.string (s.extract fr i)] rfl rfl (cell_one_new _ _ _) (by intro u hu; simp at hu; subst hu; rfl) (by unfold maxLen; omega) (by omega) (by simp; omega) ?_; intro v5 w5 hown5 hgrow5 hnil5)
        have hr5 : Row w5 w.heap.size 9 v5 (sV (acc ++ [s.extract fr i])) := by
          unfold Row sV
          rw [List.map_append, List.length_append]
          exact hown5
        have hnx5 : Below w.heap.size w w5 := (hb.alloc hsz _).grown hgrow5 (by simp; omega) (fun k hk => ((HRW.out).lt k hk).1)
        go_roundw
        case rel => exact ⟨i + 1, i + 1, _, by omega, by omega, by simp; omega, by go_num, by go_num, hr5, HN, hnx5⟩
        case measure => simp [intOf]; omega
      · have HN : Hid (acc ++ partsF s (s.size - (i + 1)) (i + 1) fr = partsD s) := by
          show _ = _
          rw [← HST.out, if_neg hx]
        have b47 : (x == 47) = false := by simpa using hx
        clear HST hx
        go_wp2
        go_roundw
        case rel => exact ⟨i + 1, fr, acc, by omega, by omega, by omega, by go_num, by go_num, HRW.out, HN, hb⟩
        case measure => simp [intOf]; omega
    · have hie : i = s.size := by omega
      have HN : Hid (acc ++ [s.extract fr s.size] = partsD s) := by
        show _ = _
        rw [← HA.out, hie, Nat.sub_self]; rfl
      clear HA hie
      have hfs : (fr : Int) ≤ (s.size : Int) := by omega
      go_wp2_with (at_builtin; refine wpList_append_own _ rfl _ _ 22 rfl w.heap.size 9 i0 (.string ByteArray.empty) 1 16 Tryz.underlying22 hi hz0 hz1 hz2 rfl (by decide) _ _ _ rfl (World.ownsRow.alloc HRW.out _) ⟨wr.heap.size, 0, none⟩ 1 1 [.string (s.extract fr s.size)] rfl rfl (cell_one_new _ _ _) (by intro u hu; simp at hu; subst hu; rfl) (by unfold maxLen; omega) (by omega) (by simp; omega) ?_; intro v5 w5 hown5 hgrow5 hnil5)
      have hr5 : Row w5 w.heap.size 9 v5 (sV (acc ++ [s.extract fr s.size])) := by
        unfold Row sV
        rw [List.map_append, List.length_append]
        exact hown5
      have hnx5 : Below w.heap.size w w5 := (hb.alloc hsz _).grown hgrow5 (by simp; omega) (fun k hk => ((HRW.out).lt k hk).1)
      go_ret
      exact ⟨v5, rfl, by rw [← HN.out]; exact hr5, hnx5⟩
end Go.Proofs.YtfhfobikbfbajaaGreatDoor

namespace Go.Proofs.YtfhfobikbfbajaaGreatDoor

/-- What stands between the slashes. -/
def cutL : List UInt8 → List (List UInt8)
  | [] => [[]]
  | b :: l => if b = 47 then [] :: cutL l else (b :: (cutL l).headD []) :: (cutL l).tail
theorem cutL_ne (l : List UInt8) : cutL l ≠ [] := by
  cases l with
  | nil => simp [cutL]
  | cons b l => unfold cutL; split <;> simp
theorem cutL_eta (l : List UInt8) : (cutL l).headD [] :: (cutL l).tail = cutL l := by
  cases h : cutL l with
  | nil => exact absurd h (cutL_ne l)
  | cons a b => rfl
theorem cutL_slash (l : List UInt8) : cutL (47 :: l) = [] :: cutL l := by rw [cutL, if_pos rfl]
theorem cutL_cons {b : UInt8} (h : b ≠ 47) (l : List UInt8) : cutL (b :: l) = (b :: (cutL l).headD []) :: (cutL l).tail := by rw [cutL, if_neg h]
theorem cutL_app : ∀ (p : List UInt8), 47 ∉ p → ∀ r, cutL (p ++ 47 :: r) = p :: cutL r
  | [], _, r => cutL_slash r
  | b :: p, h, r => by
    have hb : b ≠ 47 := fun e => h (by simp [e])
    rw [List.cons_append, cutL_cons hb, cutL_app p (fun e => h (by simp [e])) r]
    rfl
theorem cutL_one : ∀ (p : List UInt8), 47 ∉ p → cutL p = [p]
  | [], _ => rfl
  | b :: p, h => by
    have hb : b ≠ 47 := fun e => h (by simp [e])
    rw [cutL_cons hb, cutL_one p (fun e => h (by simp [e]))]
    rfl
theorem slash_cases : ∀ l : List UInt8, 47 ∉ l ∨ ∃ p r, l = p ++ 47 :: r ∧ 47 ∉ p
  | [] => Or.inl (by simp)
  | b :: l => by
    by_cases hb : b = 47
    · exact Or.inr ⟨[], l, by rw [hb]; rfl, by simp⟩
    · rcases slash_cases l with h | ⟨p, r, h1, h2⟩
      · exact Or.inl (by simp only [List.mem_cons, not_or]; exact ⟨fun e => hb e.symm, h⟩)
      · exact Or.inr ⟨b :: p, r, by rw [h1]; rfl, by simp only [List.mem_cons, not_or]; exact ⟨fun e => hb e.symm, h2⟩⟩
/-- Laid behind one another, a slash between each two. -/
def jn : List (List UInt8) → List UInt8
  | [] => []
  | x :: r => x ++ Lib.joinTail [47] r
theorem jn_two (x y : List UInt8) (r : List (List UInt8)) : jn (x :: y :: r) = x ++ 47 :: jn (y :: r) := by
  simp [jn, Lib.joinTail]
theorem jn_one (x : List UInt8) : jn [x] = x := by simp [jn, Lib.joinTail]
theorem jn_cons {r : List (List UInt8)} (x : List UInt8) (h : r ≠ []) : jn (x :: r) = x ++ 47 :: jn r := by
  cases r with
  | nil => exact absurd rfl h
  | cons y r => exact jn_two x y r
theorem jn_cut (l : List UInt8) : jn (cutL l) = l := by
  induction l with
  | nil => rfl
  | cons b l ih =>
    by_cases hb : b = 47
    · subst hb
      rw [cutL_slash, jn_cons _ (cutL_ne l), ih]; rfl
    · rw [cutL_cons hb]
      rw [← cutL_eta l] at ih
      have : ∀ (x : List UInt8) (r : List (List UInt8)), jn ((b :: x) :: r) = b :: jn (x :: r) := fun x r => rfl
      rw [this, ih]
/-- Which of two numbers is the greater one. -/
def sg (x y : Int) : Int := if x < y then -1 else if y < x then 1 else 0
def rkL (b : UInt8) : Int := if b = 47 then -1 else (b.toNat : Int)
theorem rkL_inj {a b : UInt8} (h : rkL a = rkL b) : a = b := by
  unfold rkL at h
  split at h <;> split at h
  · rename_i h1 h2; rw [h1, h2]
  · omega
  · omega
  · exact UInt8.toNat_inj.1 (by omega)
/-- The order of texts: the first unlike bytes decide, a slash being the lowest. -/
def ordL : List UInt8 → List UInt8 → Int
  | [], [] => 0
  | [], _ :: _ => -1
  | _ :: _, [] => 1
  | a :: x, b :: y => if a = b then ordL x y else sg (rkL a) (rkL b)
theorem ordL_self : ∀ x, ordL x x = 0
  | [] => rfl
  | a :: x => by rw [ordL, if_pos rfl, ordL_self x]
theorem sg_bd (x y : Int) : -1 ≤ sg x y ∧ sg x y ≤ 1 := by unfold sg; split <;> (try split) <;> omega
theorem sg_neg (x y : Int) : sg x y = - sg y x := by unfold sg; split <;> split <;> (try split) <;> (try split) <;> omega
theorem sg_zero {x y : Int} (h : sg x y = 0) : x = y := by unfold sg at h; split at h <;> (try split at h) <;> omega
theorem ordL_bd : ∀ x y, -1 ≤ ordL x y ∧ ordL x y ≤ 1
  | [], [] => by decide
  | [], _ :: _ => by simp [ordL]
  | _ :: _, [] => by simp [ordL]
  | a :: x, b :: y => by
    rw [ordL]
    split
    · exact ordL_bd x y
    · exact sg_bd _ _
theorem ordL_neg : ∀ x y, ordL x y = - ordL y x
  | [], [] => by decide
  | [], _ :: _ => by simp [ordL]
  | _ :: _, [] => by simp [ordL]
  | a :: x, b :: y => by
    rw [ordL, ordL]
    by_cases h : a = b
    · rw [if_pos h, if_pos h.symm, ordL_neg x y]
    · rw [if_neg h, if_neg (fun e => h e.symm), sg_neg]
theorem ordL_zero : ∀ x y, ordL x y = 0 → x = y
  | [], [], _ => rfl
  | [], _ :: _, h => by revert h; unfold ordL; intro h; omega
  | _ :: _, [], h => by revert h; unfold ordL; intro h; omega
  | a :: x, b :: y, h => by
    rw [ordL] at h
    split at h
    · rename_i e; rw [e, ordL_zero x y h]
    · rename_i e; exact absurd (rkL_inj (sg_zero h)) e
theorem sg_lt {x y : Int} : sg x y < 0 ↔ x < y := by unfold sg; split <;> (try split) <;> omega
theorem sg_le {x y : Int} : sg x y ≤ 0 ↔ x ≤ y := by unfold sg; split <;> (try split) <;> omega
/-- It goes on from one to the next. -/
theorem ordL_trans : ∀ x y z, ordL x y ≤ 0 → ordL y z ≤ 0 → ordL x z ≤ 0 ∧ (ordL x z = 0 → ordL x y = 0 ∧ ordL y z = 0)
  | [], [], [], _, _ => by decide
  | [], [], _ :: _, _, _ => by simp [ordL]
  | [], _ :: _, [], _, h => by simp [ordL] at h
  | [], _ :: _, _ :: _, _, _ => by simp [ordL]
  | _ :: _, [], _, h, _ => by simp [ordL] at h
  | _ :: _, _ :: _, [], _, h => by simp [ordL] at h
  | a :: x, b :: y, c :: z, h1, h2 => by
    simp only [ordL] at h1 h2 ⊢
    by_cases hab : a = b
    · subst hab
      rw [if_pos rfl] at h1
      by_cases hac : a = c
      · subst hac
        rw [if_pos rfl] at h2
        simp only [if_true]
        exact ordL_trans x y z h1 h2
      · rw [if_neg hac] at h2
        simp only [if_neg hac, if_true]
        exact ⟨h2, fun h => absurd (rkL_inj (sg_zero h)) hac⟩
    · rw [if_neg hab] at h1
      by_cases hbc : b = c
      · subst hbc
        simp only [if_neg hab]
        exact ⟨h1, fun h => absurd (rkL_inj (sg_zero h)) hab⟩
      · rw [if_neg hbc] at h2
        have h1' := sg_le.1 h1
        have h2' := sg_le.1 h2
        have n1 : rkL a ≠ rkL b := fun e => hab (rkL_inj e)
        have n2 : rkL b ≠ rkL c := fun e => hbc (rkL_inj e)
        have hac : a ≠ c := fun e => by rw [e] at h1'; omega
        simp only [if_neg hac]
        have hlt : sg (rkL a) (rkL c) < 0 := sg_lt.2 (by omega)
        exact ⟨by omega, fun h => by omega⟩
/-- Lies b under a? -/
theorem cut_pre : ∀ a b : List UInt8, cutL a <+: cutL b ↔ (a = b ∨ (a ++ [47]) <+: b)
  | [], [] => by simp [cutL]
  | [], b :: y => by
    by_cases hb : b = 47
    · subst hb; rw [cutL_slash]; simp [cutL]
    · rw [cutL_cons hb]; simp [cutL]; exact fun e => hb e.symm
  | a :: x, [] => by
    by_cases ha : a = 47
    · subst ha
      rw [cutL_slash]
      simp [cutL]
      exact cutL_ne x
    · rw [cutL_cons ha]; simp [cutL]
  | a :: x, b :: y => by
    have hr : ((a :: x = b :: y) ∨ ((a :: x) ++ [47]) <+: (b :: y)) ↔ (a = b ∧ (x = y ∨ (x ++ [47]) <+: y)) := by
      simp only [List.cons.injEq, List.cons_append, List.cons_prefix_cons]
      constructor
      · rintro (⟨h1, h2⟩ | ⟨h1, h2⟩)
        · exact ⟨h1, Or.inl h2⟩
        · exact ⟨h1, Or.inr h2⟩
      · rintro ⟨h1, h2 | h2⟩
        · exact Or.inl ⟨h1, h2⟩
        · exact Or.inr ⟨h1, h2⟩
    rw [hr, ← cut_pre x y]
    by_cases ha : a = 47
    · subst ha
      by_cases hb : b = 47
      · subst hb
        rw [cutL_slash, cutL_slash, List.cons_prefix_cons]
        simp
      · rw [cutL_slash, cutL_cons hb, List.cons_prefix_cons]
        simp
        exact fun e => absurd e.symm hb
    · by_cases hb : b = 47
      · subst hb
        rw [cutL_slash, cutL_cons ha, List.cons_prefix_cons]
        simp
        exact fun e => absurd e ha
      · rw [cutL_cons ha, cutL_cons hb, List.cons_prefix_cons, List.cons.injEq]
        have := cutL_eta x
        have h2 := cutL_eta y
        constructor
        · rintro ⟨⟨e1, e2⟩, e3⟩
          refine ⟨e1, ?_⟩
          rw [← this, ← h2, List.cons_prefix_cons]
          exact ⟨e2, e3⟩
        · rintro ⟨e1, e2⟩
          rw [← this, ← h2, List.cons_prefix_cons] at e2
          exact ⟨⟨e1, e2.1⟩, e2.2⟩
end Go.Proofs.YtfhfobikbfbajaaGreatDoor
