/- leave. strings.Contains of a slash. Where a text is no path: read from the left, and as the document says it. The program's texts as lists of bytes. -/
import Derived.Test.YtpklbchbldipnabDoorND
import Derived.Lib.Bytealg
import Derived.Laws.Externs
namespace Go.Proofs.YtpklbchbldipnabDoor
open Go.RowKit

/-- Does reading end at this byte? -/
def lvStop (s : ByteArray) (p fr ah : Nat) : Bool :=
  decide (p = 255) || (if byt s p = 47 then (decide (p = fr) || decide (ah = 15)) else (!(inN (byt s p)) || decide (p - fr = 64) || (decide (p = fr) && dotsB (s.extract p s.size))))
/-- Where reading ends, and where the last part begins. -/
def lvF (s : ByteArray) : Nat → Nat → Nat → Nat → Nat × Nat
  | 0, p, fr, _ => (p, fr)
  | n + 1, p, fr, ah => if lvStop s p fr ah = true then (p, fr) else if byt s p = 47 then lvF s n (p + 1) (p + 1) (ah + 1) else lvF s n (p + 1) fr ah
def lvS (s : ByteArray) : Nat × Nat := lvF s s.size 0 0 0
set_option maxRecDepth 100000 in
set_option maxHeartbeats 4000000 in
theorem leave_calls (s : ByteArray) (hs : s.size ≤ 140737488360000) (w : World) : Calls Tryd.prog 69 #[.string s] w fun e w' => e = .returned (.tuple #[.int .i64 (((lvS s).1 : Nat) : Int), .bool (decide ((lvS s).1 < s.size ∨ (lvS s).1 = (lvS s).2))]) ∧ Below w.heap.size w w' := by
  go_enter Tryd.func69, Tryd.ntmps69
  go_wp2_with fail
  go_step3
  go_wp2_with fail
  go_step3
  go_wp2_with fail
  go_loop [4, 5, 6] (fun pv fv hv => ∃ (p fr ah : Nat), p ≤ s.size ∧ fr ≤ p ∧ ah ≤ p ∧ pv = .int .i64 (p : Int) ∧ fv = .int .i64 (fr : Int) ∧ hv = .int .i64 (ah : Int) ∧ Hid (lvS s = lvF s (s.size - p) p fr ah)) (fun p _ _ => s.size - (intOf p).toNat)
  case atStart => exact ⟨0, 0, 0, by omega, by omega, by omega, rfl, rfl, rfl, by show _ = _; unfold lvS; rw [Nat.sub_zero]⟩
  case round =>
    obtain ⟨p, fr, ah, hp, hfr, hah, rfl, rfl, rfl, HO⟩ := hrel
    by_cases hlt : p < s.size
    · have hidx := index_str s p hlt
      have hstep : lvF s (s.size - p) p fr ah = if lvStop s p fr ah = true then (p, fr) else if byt s p = 47 then lvF s (s.size - (p + 1)) (p + 1) (p + 1) (ah + 1) else lvF s (s.size - (p + 1)) (p + 1) fr ah := by
        rw [show s.size - p = (s.size - (p + 1)) + 1 by omega]; rfl
      have HST : Hid (lvS s = _) := (HO.out).trans hstep
      have HD : Hid (lvStop s p fr ah = (decide (p = 255) || (if byt s p = 47 then (decide (p = fr) || decide (ah = 15)) else (!(inN (byt s p)) || decide (p - fr = 64) || (decide (p = fr) && dotsB (s.extract p s.size)))))) := rfl
      have HIN := hide (inName_calls (byt s p) w)
      have HDO := hide (dots_calls (s.extract p s.size) w)
      generalize byt s p = x at *
      generalize dotsB (s.extract p s.size) = bd at *
      clear hstep HO
      have hltI : (p : Int) < (s.size : Int) := by omega
      by_cases h255 : p = 255
      · have HF : Hid (lvS s = (p, fr)) := by show _ = _; rw [HST.out, HD.out, decide_eq_true h255, Bool.true_or, if_pos rfl]
        have b255 : ((p : Int) == 255) = true := by rw [h255]; rfl
        clear HST HD h255
        go_wp2
        try rw [Exit.noGoto_ret]
        go_ret2
        exact ⟨by rw [HF.out, decide_eq_true (Or.inl hlt)]; rfl, Below.refl _ _⟩
      · have b255 : ((p : Int) == 255) = false := by simp; omega
        by_cases hx : x = 47
        · subst hx
          by_cases hpf : p = fr
          · have HF : Hid (lvS s = (p, fr)) := by show _ = _; rw [HST.out, HD.out, decide_eq_false h255, if_pos rfl, decide_eq_true hpf, Bool.true_or, Bool.false_or, if_pos rfl]
            have bpf : ((p : Int) == (fr : Int)) = true := by rw [hpf]; simp
            clear HST HD h255 hpf
            go_wp2
            try rw [Exit.noGoto_ret]
            go_ret2
            exact ⟨by rw [HF.out, decide_eq_true (Or.inl hlt)]; rfl, Below.refl _ _⟩
          · have bpf : ((p : Int) == (fr : Int)) = false := by simp; omega
            by_cases h15 : ah = 15
            · have HF : Hid (lvS s = (p, fr)) := by show _ = _; rw [HST.out, HD.out, decide_eq_false h255, if_pos rfl, decide_eq_true h15, Bool.or_true, Bool.or_true, if_pos rfl]
              have b15 : ((ah : Int) == 15) = true := by rw [h15]; rfl
              clear HST HD h255 hpf h15
              go_wp2
              try rw [Exit.noGoto_ret]
              go_ret2
              exact ⟨by rw [HF.out, decide_eq_true (Or.inl hlt)]; rfl, Below.refl _ _⟩
            · have HF : Hid (lvS s = lvF s (s.size - (p + 1)) (p + 1) (p + 1) (ah + 1)) := by show _ = _; rw [HST.out, HD.out, decide_eq_false h255, if_pos rfl, decide_eq_false hpf, decide_eq_false h15, if_neg (by decide), if_pos rfl]
              have b15 : ((ah : Int) == 15) = false := by simp; omega
              clear HST HD h255 hpf h15
              go_wp2
              go_roundw
              case rel => exact ⟨p + 1, p + 1, ah + 1, by omega, by omega, by omega, by go_num, by go_num, by go_num, HF⟩
              case measure => simp [intOf]; omega
        · have b47 : (x == 47) = false := by simpa using hx
          rw [if_neg hx] at HST HD
          cases hin : inN x with
          | false =>
            rw [hin] at HIN HD
            have HF : Hid (lvS s = (p, fr)) := by show _ = _; rw [HST.out, HD.out, Bool.not_false, Bool.true_or, Bool.true_or, Bool.or_true, if_pos rfl]
            clear HST HD h255 hx hin
            go_wp2_with fail
            refine (unhide HIN).mono ?_
            rintro e w1 ⟨rfl, hw1⟩
            obtain rfl := hw1.symm
            clear hw1
            go_wp2
            try rw [Exit.noGoto_ret]
            go_ret2
            exact ⟨by rw [HF.out, decide_eq_true (Or.inl hlt)]; rfl, Below.refl _ _⟩
          | true =>
            rw [hin] at HIN HD
            rw [decide_eq_false h255, Bool.not_true, Bool.false_or, Bool.false_or] at HD
            by_cases h64 : p - fr = 64
            · have HF : Hid (lvS s = (p, fr)) := by show _ = _; rw [HST.out, HD.out, decide_eq_true h64, Bool.true_or, if_pos rfl]
              have b64 : (((p : Int) - (fr : Int)) == 64) = true := by simp; omega
              clear HST HD h255 hx hin h64
              go_wp2_with fail
              refine (unhide HIN).mono ?_
              rintro e w1 ⟨rfl, hw1⟩
              obtain rfl := hw1.symm
              clear hw1
              go_wp2
              try rw [Exit.noGoto_ret]
              go_ret2
              exact ⟨by rw [HF.out, decide_eq_true (Or.inl hlt)]; rfl, Below.refl _ _⟩
            · have b64 : (((p : Int) - (fr : Int)) == 64) = false := by simp; omega
              rw [decide_eq_false h64, Bool.false_or] at HD
              by_cases hpf : p = fr
              · have bpf : ((p : Int) == (fr : Int)) = true := by rw [hpf]; simp
                rw [decide_eq_true hpf, Bool.true_and] at HD
                cases bd with
                | true =>
                  have HF : Hid (lvS s = (p, fr)) := by show _ = _; rw [HST.out, HD.out, if_pos rfl]
                  clear HST HD h255 hx hin h64 hpf
                  go_wp2_with fail
                  refine (unhide HIN).mono ?_
                  rintro e w1 ⟨rfl, hw1⟩
                  obtain rfl := hw1.symm
                  clear hw1
                  go_wp2_with fail
                  refine (unhide HDO).mono ?_
                  rintro e w1 ⟨rfl, hw1⟩
                  obtain rfl := hw1.symm
                  clear hw1
                  go_wp2
                  try rw [Exit.noGoto_ret]
                  go_ret2
                  exact ⟨by rw [HF.out, decide_eq_true (Or.inl hlt)]; rfl, Below.refl _ _⟩
                | false =>
                  have HF : Hid (lvS s = lvF s (s.size - (p + 1)) (p + 1) fr ah) := by show _ = _; rw [HST.out, HD.out, if_neg (by decide)]
                  clear HST HD h255 hx hin h64 hpf
                  go_wp2_with fail
                  refine (unhide HIN).mono ?_
                  rintro e w1 ⟨rfl, hw1⟩
                  obtain rfl := hw1.symm
                  clear hw1
                  go_wp2_with fail
                  refine (unhide HDO).mono ?_
                  rintro e w1 ⟨rfl, hw1⟩
                  obtain rfl := hw1.symm
                  clear hw1
                  go_wp2
                  go_roundw
                  case rel => exact ⟨p + 1, fr, ah, by omega, by omega, by omega, by go_num, by go_num, by go_num, HF⟩
                  case measure => simp [intOf]; omega
              · have bpf : ((p : Int) == (fr : Int)) = false := by simp; omega
                have HF : Hid (lvS s = lvF s (s.size - (p + 1)) (p + 1) fr ah) := by show _ = _; rw [HST.out, HD.out, decide_eq_false hpf, Bool.false_and, if_neg (by decide)]
                clear HST HD h255 hx hin h64 hpf
                go_wp2_with fail
                refine (unhide HIN).mono ?_
                rintro e w1 ⟨rfl, hw1⟩
                obtain rfl := hw1.symm
                clear hw1
                go_wp2
                go_roundw
                case rel => exact ⟨p + 1, fr, ah, by omega, by omega, by omega, by go_num, by go_num, by go_num, HF⟩
                case measure => simp [intOf]; omega
    · have hpe : p = s.size := by omega
      have HF : Hid (lvS s = (s.size, fr)) := by show _ = _; rw [HO.out, hpe, Nat.sub_self]; rfl
      clear HO
      go_wp2
      try rw [Exit.noGoto_ret]
      have hd : ((s.size : Int) == (fr : Int)) = decide (s.size < s.size ∨ s.size = fr) := by
        by_cases e : s.size = fr
        · rw [decide_eq_true (Or.inr e), e]; simp
        · rw [decide_eq_false (fun h => h.elim (fun h => absurd h (Nat.lt_irrefl _)) e)]
          simp; omega
      rw [hd]
      go_ret2
      exact ⟨by rw [HF.out]; rfl, Below.refl _ _⟩
end Go.Proofs.YtpklbchbldipnabDoor

namespace Go.Proofs.YtpklbchbldipnabDoor
open Go.RowKit

set_option maxRecDepth 100000 in
set_option maxHeartbeats 2000000 in
theorem indexByte_calls (s : ByteArray) (c : Int) (w : World) : Calls Tryd.prog 91 #[.string s, .int .u8 c] w fun e w' => e = .returned (.int .i64 (Lib.indexByte s.data.toList c.toNat.toUInt8)) ∧ w' = w := by
  go_enter Tryd.func91, Tryd.ntmps91
  go_wp2
  rw [run_callFunc_extern Tryd.func95 (by kernel_rfl) (by kernel_rfl) (by kernel_rfl) (e := Extern.BytealgIndexByte.indexByte) (by kernel_rfl), Lib.run_indexByteString]
  simp only [Result.andThen]
  rw [Oper.upon_value]
  go_wp2
  go_ret
  exact ⟨rfl, rfl⟩
set_option maxRecDepth 100000 in
set_option maxHeartbeats 2000000 in
theorem index1_calls (s : ByteArray) (w : World) : Calls Tryd.prog 88 #[.string s, .string ⟨#[47]⟩] w fun e w' => e = .returned (.int .i64 (Lib.indexByte s.data.toList 47)) ∧ w' = w := by
  have H : Hid (Calls Tryd.prog 91 #[.string s, .int .u8 47] w fun e w' => e = .returned (.int .i64 (Lib.indexByte s.data.toList 47)) ∧ w' = w) := indexByte_calls s 47 w
  have h47 : ((((⟨#[47]⟩ : ByteArray)[0]'(by decide)).toNat : Nat) : Int) = 47 := rfl
  cases he : ([47] == s.toList) with
  | true =>
    have hd : s.data.toList = [47] := by
      rw [ByteArray.toList_eq] at he
      exact (eq_of_beq he).symm
    have HV : Hid (Lib.indexByte s.data.toList 47 = 0) := by show _ = _; rw [hd]; rfl
    clear hd
    go_enter Tryd.func88, Tryd.ntmps88
    go_wp2
    go_ret
    exact ⟨by rw [HV.out]; rfl, rfl⟩
  | false =>
    go_enter Tryd.func88, Tryd.ntmps88
    go_wp2_with fail
    refine (unhide H).mono ?_
    rintro e w1 ⟨rfl, hw1⟩
    obtain rfl := hw1.symm
    clear hw1
    go_wp2
    go_ret
    exact ⟨rfl, rfl⟩
set_option maxHeartbeats 1000000 in
theorem index_calls (s : ByteArray) (w : World) : Calls Tryd.prog 81 #[.string s, .string ⟨#[47]⟩] w fun e w' => e = .returned (.int .i64 (Lib.indexByte s.data.toList 47)) ∧ w' = w := by
  have H := hide (index1_calls s w)
  generalize Lib.indexByte s.data.toList 47 = q at *
  go_enter Tryd.func81, Tryd.ntmps81
  go_wp2_with fail
  refine (unhide H).mono ?_
  rintro e w1 ⟨rfl, hw1⟩
  obtain rfl := hw1.symm
  clear hw1
  go_wp2
  go_ret
  exact ⟨rfl, rfl⟩
/-- Is there a slash in it? -/
def slashB (s : ByteArray) : Bool := decide (0 ≤ Lib.indexByte s.data.toList 47)
set_option maxHeartbeats 1000000 in
theorem contains_calls (s : ByteArray) (w : World) : Calls Tryd.prog 70 #[.string s, .string ⟨#[47]⟩] w fun e w' => e = .returned (.bool (slashB s)) ∧ w' = w := by
  have H := hide (index_calls s w)
  unfold slashB
  generalize Lib.indexByte s.data.toList 47 = q at *
  go_enter Tryd.func70, Tryd.ntmps70
  go_wp2_with fail
  refine (unhide H).mono ?_
  rintro e w1 ⟨rfl, hw1⟩
  obtain rfl := hw1.symm
  clear hw1
  go_wp2
  go_ret
  exact ⟨rfl, rfl⟩
/-- Does reading end at something that can't be? -/
def wrongB (s : ByteArray) : Bool := decide ((lvS s).1 < s.size ∨ (lvS s).1 = (lvS s).2)
/-- Is it a name? -/
def nameB (s : ByteArray) : Bool := !(wrongB s) && !(slashB s)
set_option maxRecDepth 100000 in
set_option maxHeartbeats 1000000 in
theorem name_calls (s : ByteArray) (hs : s.size ≤ 140737488360000) (w : World) : Calls Tryd.prog 56 #[.string s] w fun e w' => e = .returned (.bool (nameB s)) ∧ Below w.heap.size w w' := by
  have H1 : Hid (Calls Tryd.prog 69 #[.string s] w fun e w' => e = .returned (.tuple #[.int .i64 (((lvS s).1 : Nat) : Int), .bool (wrongB s)]) ∧ Below w.heap.size w w') := leave_calls s hs w
  have H2 : Hid (∀ W, Calls Tryd.prog 70 #[.string s, .string ⟨#[47]⟩] W fun e w' => e = .returned (.bool (slashB s)) ∧ w' = W) := fun W => contains_calls s W
  have HQ : Hid (nameB s = (!(wrongB s) && !(slashB s))) := rfl
  generalize nameB s = q at *
  generalize wrongB s = b1 at *
  generalize slashB s = b2 at *
  generalize (lvS s).1 = p at *
  cases b1 with
  | true =>
    go_enter Tryd.func56, Tryd.ntmps56
    go_wp2_with fail
    refine (unhide H1).mono ?_
    rintro e w1 ⟨rfl, hb1⟩
    go_wp2
    go_ret
    exact ⟨by rw [HQ.out]; rfl, hb1⟩
  | false =>
    go_enter Tryd.func56, Tryd.ntmps56
    go_wp2_with fail
    refine (unhide H1).mono ?_
    rintro e w1 ⟨rfl, hb1⟩
    go_wp2_with fail
    refine (unhide H2 w1).mono ?_
    rintro e w2 ⟨rfl, hw2⟩
    obtain rfl := hw2.symm
    clear hw2
    go_wp2
    go_ret
    exact ⟨by rw [HQ.out]; rfl, hb1⟩
end Go.Proofs.YtpklbchbldipnabDoor

namespace Go.Proofs.YtpklbchbldipnabDoor

def inL (b : UInt8) : Bool := inN ((b.toNat : Nat) : Int)
/-- Is the first part of dots alone? -/
def dtL (l : List UInt8) : Bool := decide (l = [46]) || decide (l = [46, 46]) || decide ([46, 47] <+: l) || decide ([46, 46, 47] <+: l)
/-- Where reading ends, and whether at something that can't be: p bytes are read, c of the part, ah parts are done. -/
def lvL : List UInt8 → Nat → Nat → Nat → Nat × Bool
  | [], p, c, _ => (p, decide (c = 0))
  | b :: r, p, c, ah =>
    if p = 255 then (p, true)
    else if b = 47 then (if c = 0 ∨ ah = 15 then (p, true) else lvL r (p + 1) 0 (ah + 1))
    else if inL b = false ∨ c = 64 ∨ (c = 0 ∧ dtL (b :: r) = true) then (p, true) else lvL r (p + 1) (c + 1) ah
/-- The first byte of a part, from the c-th on, that can't be. -/
def wrL : List UInt8 → Nat → Option Nat
  | [], _ => none
  | b :: r, c => if inL b = false ∨ c = 64 then some c else wrL r (c + 1)
def dpL (p : List UInt8) : Option Nat := if p = [46] ∨ p = [46, 46] then some 0 else wrL p 0
/-- The least place of a text that can't be, part by part; the 255th byte aside. -/
def docL : List (List UInt8) → Nat → Nat → Option Nat
  | [], _, _ => none
  | p :: r, at_, i => match dpL p with
    | some x => some (at_ + x)
    | none => if p = [] ∨ (i = 15 ∧ r ≠ []) then some (at_ + p.length) else docL r (at_ + p.length + 1) (i + 1)
theorem docL_ge : ∀ ps a i x, docL ps a i = some x → a ≤ x
  | [], _, _, _, h => by simp [docL] at h
  | p :: r, a, i, x, h => by
    rw [docL] at h
    split at h
    · simp at h; omega
    · split at h
      · simp at h; omega
      · have := docL_ge r _ _ _ h; omega
/-- With the bound on the text's length. -/
def finL (d : Option Nat) (n : Nat) : Nat × Bool :=
  match d with
  | none => if 255 < n then (255, true) else (n, false)
  | some x => if 255 < n then (min x 255, true) else (x, true)
theorem inside : ∀ (q t : List UInt8) (p c ah : Nat), 47 ∉ q → p ≤ 255 → (c = 0 → q ≠ [] → dtL (q ++ t) = false) →
    lvL (q ++ t) p c ah = match wrL q c with
      | some w => (min (p + (w - c)) 255, true)
      | none => if 255 < p + q.length then (255, true) else lvL t (p + q.length) (c + q.length) ah
  | [], t, p, c, ah, _, hp, _ => by
    simp only [wrL, List.nil_append, List.length_nil, Nat.add_zero]
    rw [if_neg (by omega)]
  | b :: q, t, p, c, ah, hq, hp, hd => by
    have hb : b ≠ 47 := fun e => hq (by simp [e])
    rw [List.cons_append, lvL]
    by_cases h255 : p = 255
    · rw [if_pos h255]
      cases h : wrL (b :: q) c with
      | none => simp only []; rw [if_pos (by simp; omega), h255]
      | some w => simp only []; rw [show min (p + (w - c)) 255 = 255 by omega, h255]
    · rw [if_neg h255, if_neg hb]
      by_cases hw : inL b = false ∨ c = 64
      · rw [if_pos (by rcases hw with h | h; exact Or.inl h; exact Or.inr (Or.inl h))]
        rw [wrL, if_pos hw]
        simp only [Nat.sub_self, Nat.add_zero]
        rw [show min p 255 = p by omega]
      · have hd' : ¬ (c = 0 ∧ dtL (b :: (q ++ t)) = true) := fun ⟨e1, e2⟩ => by
          have := hd e1 (by simp)
          rw [List.cons_append, e2] at this
          cases this
        rw [if_neg (fun h => h.elim (fun h => hw (Or.inl h)) fun h => h.elim (fun h => hw (Or.inr h)) hd')]
        rw [inside q t (p + 1) (c + 1) ah (fun e => hq (by simp [e])) (by omega) (fun e => by omega)]
        rw [wrL, if_neg hw]
        have hge : ∀ (l : List UInt8) k x, wrL l k = some x → k ≤ x := by
          intro l
          induction l with
          | nil => intro k x h; simp [wrL] at h
          | cons b l ih =>
            intro k x h
            rw [wrL] at h
            split at h
            · simp at h; omega
            · have := ih _ _ h; omega
        cases h : wrL q (c + 1) with
        | none =>
          simp only [List.length_cons]
          rw [show p + 1 + q.length = p + (q.length + 1) by omega, show c + 1 + q.length = c + (q.length + 1) by omega]
        | some w =>
          have := hge _ _ _ h
          simp only []
          rw [show p + 1 + (w - (c + 1)) = p + (w - c) by omega]
/-- A part, and what stands behind it: nothing, or a slash first. -/
theorem dt_part (q t : List UInt8) (hq : 47 ∉ q) (ht : t = [] ∨ ∃ r, t = 47 :: r) (hne : q ≠ []) : dtL (q ++ t) = true ↔ (q = [46] ∨ q = [46, 46]) := by
  unfold dtL
  simp only [Bool.or_eq_true, decide_eq_true_eq]
  match q, hq, hne with
  | [], _, h => exact absurd rfl h
  | [a], hq, _ =>
    rcases ht with rfl | ⟨r, rfl⟩
    · simp
    · simp; exact eq_comm
  | [a, b], hq, _ =>
    rcases ht with rfl | ⟨r, rfl⟩
    · simp
      intro h1 h2
      simp [← h2] at hq
    · simp
      constructor
      · rintro (⟨h1, h2⟩ | ⟨h1, h2⟩)
        · simp [← h2] at hq
        · exact ⟨h1.symm, h2.symm⟩
      · rintro ⟨h1, h2⟩
        exact Or.inr ⟨h1.symm, h2.symm⟩
  | a :: b :: c :: q, hq, _ =>
    simp
    constructor
    · intro h1 h2
      simp [← h2] at hq
    · intro h1 h2 h3
      simp [h1, ← h2, ← h3] at hq
theorem inL_dot : inL 46 = true := by decide
/-- Read from the left it is the least place, as the document tells it. -/
theorem lv_doc : ∀ (n : Nat) (l : List UInt8), l.length ≤ n → ∀ p ah, p ≤ 255 → lvL l p 0 ah = finL (docL (cutL l) p ah) (p + l.length) := by
  intro n
  induction n with
  | zero =>
    intro l hl p ah hp
    obtain rfl : l = [] := List.eq_nil_of_length_eq_zero (by omega)
    simp [lvL, cutL, docL, dpL, wrL, finL]
    intro h; omega
  | succ n ih =>
    intro l hl p ah hp
    rcases slash_cases l with hns | ⟨q, r, rfl, hq⟩
    · rw [cutL_one l hns]
      by_cases hne : l = []
      · subst hne
        simp [lvL, docL, dpL, wrL, finL]
        intro h; omega
      · by_cases hd : l = [46] ∨ l = [46, 46]
        · have hdp : docL [l] p ah = some (p + 0) := by rw [docL, dpL, if_pos hd]
          rw [hdp]
          obtain ⟨b, l', rfl⟩ : ∃ b l', l = b :: l' := by cases l with
            | nil => exact absurd rfl hne
            | cons b l' => exact ⟨b, l', rfl⟩
          have hb : b = 46 := by rcases hd with h | h <;> simp at h <;> exact h.1
          subst hb
          have hdt : dtL (46 :: l') = true := by
            have := (dt_part (46 :: l') [] hns (Or.inl rfl) (by simp)).2 hd
            rwa [List.append_nil] at this
          rw [lvL, if_neg (by decide : ¬ (46 : UInt8) = 47), if_pos (Or.inr (Or.inr ⟨rfl, hdt⟩))]
          unfold finL
          simp only [Nat.add_zero]
          rw [show min p 255 = p by omega]
          split <;> split <;> rfl
        · have hi := inside l [] p 0 ah hns hp (fun _ _ => by
            cases h : dtL (l ++ []) with
            | false => rfl
            | true => exact absurd ((dt_part l [] hns (Or.inl rfl) hne).1 h) hd)
          rw [List.append_nil] at hi
          rw [hi, docL, dpL, if_neg hd]
          cases hw : wrL l 0 with
          | some w =>
            simp only [finL, Nat.sub_zero]
            split
            · rfl
            · rename_i h
              have : ∀ (l : List UInt8) k x, wrL l k = some x → x < k + l.length := by
                intro l
                induction l with
                | nil => intro k x h; simp [wrL] at h
                | cons b l ih =>
                  intro k x h
                  rw [wrL] at h
                  split at h
                  · simp at h; simp; omega
                  · have := ih _ _ h; simp; omega
              have := this l 0 w hw
              rw [show min (p + w) 255 = p + w by omega]
          | none =>
            have hno : ¬ (l = [] ∨ (ah = 15 ∧ ([] : List (List UInt8)) ≠ [])) := fun h => h.elim hne fun h => h.2 rfl
            simp only [if_neg hno]
            simp only [docL, finL, lvL, Nat.zero_add]
            split
            · rfl
            · have : l.length ≠ 0 := fun e => hne (List.eq_nil_of_length_eq_zero e)
              rw [decide_eq_false this]
    · rw [cutL_app q hq]
      have hlen : (q ++ 47 :: r).length = q.length + r.length + 1 := by simp; omega
      rw [hlen] at hl ⊢
      have behind : ∀ x, docL (cutL r) (p + q.length + 1) (ah + 1) = some x → p + q.length + 1 ≤ x := fun x h => docL_ge _ _ _ _ h
      by_cases hd : q = [46] ∨ q = [46, 46]
      · have hdp : docL (q :: cutL r) p ah = some (p + 0) := by rw [docL, dpL, if_pos hd]
        rw [hdp]
        have hdt := (dt_part q (47 :: r) hq (Or.inr ⟨r, rfl⟩) (by rintro rfl; rcases hd with h | h <;> cases h)).2 hd
        obtain ⟨q', rfl⟩ : ∃ q', q = 46 :: q' := by rcases hd with h | h <;> exact ⟨_, h⟩
        rw [List.cons_append] at hdt ⊢
        rw [lvL, if_neg (by decide : ¬ (46 : UInt8) = 47), if_pos (Or.inr (Or.inr ⟨rfl, hdt⟩))]
        unfold finL
        simp only [Nat.add_zero]
        rw [show min p 255 = p by omega]
        split <;> split <;> rfl
      · have hi := inside q (47 :: r) p 0 ah hq hp (fun _ hne => by
          cases h : dtL (q ++ 47 :: r) with
          | false => rfl
          | true => exact absurd ((dt_part q (47 :: r) hq (Or.inr ⟨r, rfl⟩) hne).1 h) hd)
        rw [hi, docL, dpL, if_neg hd]
        cases hw : wrL q 0 with
        | some w =>
          simp only [finL, Nat.sub_zero]
          split
          · rfl
          · have : ∀ (l : List UInt8) k x, wrL l k = some x → x < k + l.length := by
              intro l
              induction l with
              | nil => intro k x h; simp [wrL] at h
              | cons b l ih =>
                intro k x h
                rw [wrL] at h
                split at h
                · simp at h; simp; omega
                · have := ih _ _ h; simp; omega
            have := this q 0 w hw
            rw [show min (p + w) 255 = p + w by omega]
        | none =>
          simp only [Nat.zero_add]
          by_cases hbig : 255 < p + q.length
          · rw [if_pos hbig]
            unfold finL
            split
            · rw [if_pos (by omega)]
            · rename_i x hx
              have : p + q.length ≤ x := by
                split at hx
                · simp at hx; omega
                · have := behind x hx; omega
              rw [if_pos (by omega), show min x 255 = 255 by omega]
          · rw [if_neg hbig, lvL, if_pos (rfl : (47 : UInt8) = 47)]
            have hcr : cutL r ≠ [] := cutL_ne r
            by_cases h255 : p + q.length = 255
            · rw [if_pos h255, h255]
              unfold finL
              split
              · rw [if_pos (by omega)]
              · rename_i x hx
                have : p + q.length ≤ x := by
                  split at hx
                  · simp at hx; omega
                  · have := behind x (by rw [h255]; exact hx); omega
                rw [if_pos (by omega), show min x 255 = 255 by omega]
            · rw [if_neg h255]
              by_cases hstop : q = [] ∨ ah = 15
              · have h1 : q.length = 0 ∨ ah = 15 := hstop.elim (fun h => Or.inl (by rw [h]; rfl)) Or.inr
                rw [if_pos h1, if_pos (hstop.elim Or.inl fun h => Or.inr ⟨h, hcr⟩)]
                unfold finL
                simp only []
                rw [show min (p + q.length) 255 = p + q.length by omega]
                split <;> rfl
              · have h1 : ¬ (q.length = 0 ∨ ah = 15) := fun h => hstop (h.elim (fun h => Or.inl (List.eq_nil_of_length_eq_zero h)) Or.inr)
                rw [if_neg h1, if_neg (fun h => hstop (h.elim Or.inl fun h => Or.inr h.1))]
                rw [ih r (by omega) (p + q.length + 1) (ah + 1) (by omega)]
                rw [show p + q.length + 1 + r.length = p + (q.length + r.length + 1) by omega]
end Go.Proofs.YtpklbchbldipnabDoor

namespace Go.Proofs.YtpklbchbldipnabDoor
open Go.RowKit

def toL (s : ByteArray) : List UInt8 := s.data.toList
theorem toL_inj {a b : ByteArray} (h : toL a = toL b) : a = b := Go.WideShapes.bytes_inj h
theorem toL_iff {a b : ByteArray} : toL a = toL b ↔ a = b := ⟨toL_inj, fun h => by rw [h]⟩
theorem toL_len (s : ByteArray) : (toL s).length = s.size := by show s.data.toList.length = s.data.size; exact Array.length_toList
theorem toL_ext (s : ByteArray) (a b : Nat) : toL (s.extract a b) = ((toL s).drop a).take (b - a) := by
  simp [toL, List.extract_eq_take_drop]
theorem toL_from (s : ByteArray) (a : Nat) : toL (s.extract a s.size) = (toL s).drop a := by
  rw [toL_ext, List.take_of_length_le]
  simp [toL_len]
theorem toL_at (s : ByteArray) {i : Nat} (h : i < s.size) : (toL s).drop i = (toL s).getD i 0 :: (toL s).drop (i + 1) := by
  have h' : i < (toL s).length := by rw [toL_len]; exact h
  rw [List.drop_eq_getElem_cons h', List.getD_eq_getElem?_getD, List.getElem?_eq_getElem h']
  rfl
theorem byt_at (s : ByteArray) (i : Nat) : byt s i = ((((toL s).getD i 0).toNat : Nat) : Int) := rfl
theorem byt_eq47 (s : ByteArray) (i : Nat) : byt s i = 47 ↔ (toL s).getD i 0 = 47 := by
  rw [byt_at]
  constructor
  · intro h; exact UInt8.toNat_inj.1 (by show _ = 47; omega)
  · intro h; rw [h]; rfl
theorem ordF_L (a b : ByteArray) : ∀ n i, i + n = min a.size b.size → ordF a b n i = ordL ((toL a).drop i) ((toL b).drop i)
  | 0, i, h => by
    unfold ordF sgn
    have ha := toL_len a
    have hb := toL_len b
    by_cases h1 : a.size < b.size
    · rw [if_pos (by omega), List.drop_of_length_le (l := toL a) (by omega), toL_at b (by omega)]; rfl
    · by_cases h2 : b.size < a.size
      · rw [if_neg (by omega), if_pos (by omega), List.drop_of_length_le (l := toL b) (by omega), toL_at a (by omega)]; rfl
      · rw [if_neg (by omega), if_neg (by omega), List.drop_of_length_le (l := toL b) (by omega), List.drop_of_length_le (l := toL a) (by omega)]; rfl
  | n + 1, i, h => by
    unfold ordF
    rw [ordF_L a b n (i + 1) (by omega), toL_at a (i := i) (by omega), toL_at b (i := i) (by omega), ordL]
    have e : byt a i = byt b i ↔ (toL a).getD i 0 = (toL b).getD i 0 := by
      rw [byt_at, byt_at]
      constructor
      · intro h; exact UInt8.toNat_inj.1 (by omega)
      · intro h; rw [h]
    have er : ∀ (s : ByteArray), rk (byt s i) = rkL ((toL s).getD i 0) := fun s => by
      unfold rk rkL
      by_cases h : (toL s).getD i 0 = 47
      · rw [if_pos h, if_pos ((byt_eq47 s i).2 h)]
      · rw [if_neg h, if_neg (fun e => h ((byt_eq47 s i).1 e))]; rfl
    by_cases hc : (toL a).getD i 0 = (toL b).getD i 0
    · rw [if_pos hc, if_pos (e.2 hc)]
    · rw [if_neg hc, if_neg (fun x => hc (e.1 x)), er, er]; rfl
theorem ordS_L (a b : ByteArray) : ordS a b = ordL (toL a) (toL b) := by
  unfold ordS
  rw [ordF_L a b _ 0 (by omega)]
  rfl
theorem preB_L (s p : ByteArray) : preB s p = true ↔ toL p <+: toL s := by
  unfold preB fst
  simp only [decide_eq_true_eq]
  constructor
  · rintro ⟨h1, h2⟩
    rw [← h2, toL_ext, List.drop_zero]
    exact List.take_prefix _ _
  · intro h
    have hl := h.length_le
    rw [toL_len, toL_len] at hl
    refine ⟨hl, toL_inj ?_⟩
    rw [toL_ext, List.drop_zero, Nat.sub_zero]
    have := List.prefix_iff_eq_take.1 h
    rw [toL_len] at this
    exact this.symm
theorem dots_L (s : ByteArray) : dotsB s = dtL (toL s) := by
  unfold dotsB dtL
  have e1 : decide (s = dot1) = decide (toL s = [46]) := decide_eq_decide.2 (by rw [← toL_iff]; rfl)
  have e2 : decide (s = dot2) = decide (toL s = [46, 46]) := decide_eq_decide.2 (by rw [← toL_iff]; rfl)
  have e3 : preB s dotS = decide ([46, 47] <+: toL s) := by
    rw [Bool.eq_iff_iff, preB_L, decide_eq_true_eq]; rfl
  have e4 : preB s dotT = decide ([46, 46, 47] <+: toL s) := by
    rw [Bool.eq_iff_iff, preB_L, decide_eq_true_eq]; rfl
  rw [e1, e2, e3, e4]
theorem lvF_L (s : ByteArray) : ∀ n p fr ah, p + n = s.size → fr ≤ p → lvL ((toL s).drop p) p (p - fr) ah = ((lvF s n p fr ah).1, decide ((lvF s n p fr ah).1 < s.size ∨ (lvF s n p fr ah).1 = (lvF s n p fr ah).2))
  | 0, p, fr, ah, h, hf => by
    rw [List.drop_of_length_le (by rw [toL_len]; omega), lvL, lvF]
    simp only [Prod.mk.injEq, true_and]
    exact decide_eq_decide.2 (by omega)
  | n + 1, p, fr, ah, h, hf => by
    have hlt : p < s.size := by omega
    rw [toL_at s hlt, lvL, lvF]
    have hin : inL ((toL s).getD p 0) = inN (byt s p) := rfl
    have hdt : dtL ((toL s).getD p 0 :: (toL s).drop (p + 1)) = dotsB (s.extract p s.size) := by rw [← toL_at s hlt, dots_L, toL_from]
    have h47 := byt_eq47 s p
    rw [hin, hdt]
    unfold lvStop
    have wr : decide (p < s.size ∨ p = fr) = true := decide_eq_true (Or.inl hlt)
    by_cases c255 : p = 255
    · rw [if_pos c255, decide_eq_true c255, Bool.true_or, if_pos rfl]
      simp only [wr]
    · rw [if_neg c255, decide_eq_false c255, Bool.false_or]
      by_cases hb : (toL s).getD p 0 = 47
      · rw [if_pos hb, if_pos (h47.2 hb), if_pos (h47.2 hb)]
        by_cases hst : p - fr = 0 ∨ ah = 15
        · rw [if_pos hst]
          have : (decide (p = fr) || decide (ah = 15)) = true := by
            rcases hst with e | e
            · rw [decide_eq_true (by omega : p = fr)]; rfl
            · rw [decide_eq_true e, Bool.or_true]
          rw [if_pos this]
          simp only [wr]
        · rw [if_neg hst]
          have : ¬ (decide (p = fr) || decide (ah = 15)) = true := by
            rw [decide_eq_false (by omega : ¬ p = fr), decide_eq_false (by omega : ¬ ah = 15)]; decide
          rw [if_neg this]
          have := lvF_L s n (p + 1) (p + 1) (ah + 1) (by omega) (by omega)
          rw [Nat.sub_self] at this
          exact this
      · have hb' : ¬ byt s p = 47 := fun e => hb (h47.1 e)
        rw [if_neg hb, if_neg hb', if_neg hb']
        by_cases hst : inN (byt s p) = false ∨ p - fr = 64 ∨ (p - fr = 0 ∧ dotsB (s.extract p s.size) = true)
        · rw [if_pos hst]
          have : (!inN (byt s p) || decide (p - fr = 64) || decide (p = fr) && dotsB (s.extract p s.size)) = true := by
            rcases hst with e | e | ⟨e1, e2⟩
            · rw [e]; rfl
            · rw [decide_eq_true e, Bool.or_true, Bool.true_or]
            · rw [decide_eq_true (by omega : p = fr), e2, Bool.true_and, Bool.or_true]
          rw [if_pos this]
          simp only [wr]
        · rw [if_neg hst]
          have : ¬ (!inN (byt s p) || decide (p - fr = 64) || decide (p = fr) && dotsB (s.extract p s.size)) = true := by
            intro e
            simp only [Bool.or_eq_true, Bool.not_eq_true', decide_eq_true_eq, Bool.and_eq_true] at e
            rcases e with (e | e) | ⟨e1, e2⟩
            · exact hst (Or.inl e)
            · exact hst (Or.inr (Or.inl e))
            · exact hst (Or.inr (Or.inr ⟨by omega, e2⟩))
          rw [if_neg this]
          have := lvF_L s n (p + 1) fr ah (by omega) (by omega)
          rw [show p + 1 - fr = p - fr + 1 by omega] at this
          exact this
/-- Where a text is no path: the least place. -/
def plL (l : List UInt8) : Nat × Bool := finL (docL (cutL l) 0 0) l.length
theorem lv_pl (s : ByteArray) : ((lvS s).1, wrongB s) = plL (toL s) := by
  have h := lvF_L s s.size 0 0 0 (by omega) (by omega)
  rw [Nat.sub_self, List.drop_zero, lv_doc _ _ (Nat.le_refl _) 0 0 (by omega), Nat.zero_add] at h
  exact h.symm
theorem slash_L (s : ByteArray) : slashB s = decide (47 ∈ toL s) := by
  unfold slashB
  refine decide_eq_decide.2 ?_
  show 0 ≤ Lib.indexByte (toL s) 47 ↔ _
  induction toL s with
  | nil => simp [Lib.indexByte]
  | cons b l ih =>
    have hge := Lib.indexByte_ge l 47
    unfold Lib.indexByte
    by_cases hb : b = 47
    · subst hb; simp
    · have : (b == 47) = false := by simpa using hb
      rw [this]
      simp only [Bool.false_eq_true, if_false, List.mem_cons]
      by_cases h1 : Lib.indexByte l 47 = -1
      · rw [h1] at ih
        simp [h1]
        refine ⟨fun e => hb e.symm, fun e => ?_⟩
        have := ih.2 e
        omega
      · have h2 : (Lib.indexByte l 47 == -1) = false := by simpa using h1
        rw [h2]
        simp only [Bool.false_eq_true, if_false]
        constructor
        · intro _; exact Or.inr (ih.1 (by omega))
        · intro _; omega
theorem und_L (a b : ByteArray) : undB a b = true ↔ (toL a = [] ∨ cutL (toL a) <+: cutL (toL b)) := by
  unfold undB
  rw [cut_pre, toL_iff]
  simp only [Bool.or_eq_true, decide_eq_true_eq, Bool.and_eq_true]
  rw [preB_L, byt_eq47]
  have h0 : a.size = 0 ↔ toL a = [] := by rw [← toL_len, List.length_eq_zero_iff]
  rw [h0]
  have h2 : (toL a <+: toL b ∧ (toL b).getD a.size 0 = 47) ↔ (toL a ++ [47]) <+: toL b := by
    rw [← toL_len a]
    constructor
    · rintro ⟨⟨t, ht⟩, h⟩
      rw [← ht] at h ⊢
      rw [List.getD_eq_getElem?_getD, List.getElem?_append_right (Nat.le_refl _), Nat.sub_self] at h
      cases t with
      | nil => exact absurd h (by decide)
      | cons x t =>
        have hx : x = 47 := h
        subst hx
        exact ⟨t, by simp⟩
    · rintro ⟨t, ht⟩
      rw [← ht]
      refine ⟨⟨47 :: t, by simp⟩, ?_⟩
      rw [List.append_assoc, List.getD_eq_getElem?_getD, List.getElem?_append_right (Nat.le_refl _), Nat.sub_self]
      rfl
  rw [h2]
  exact or_assoc
end Go.Proofs.YtpklbchbldipnabDoor
