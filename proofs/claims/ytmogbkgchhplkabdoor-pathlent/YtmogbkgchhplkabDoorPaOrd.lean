/- path.Order. -/
import Derived.Test.YtmogbkgchhplkabDoorProg
import Derived.WalkKit
import Derived.Below
import Derived.Deep.RegionHeld3
import Derived.Deep.QuietTactic
import Derived.BigQuiet
namespace Go.Proofs.YtmogbkgchhplkabDoor
open Go.RowKit

theorem hide {p : Prop} (h : p) : Hid p := h
theorem unhide {p : Prop} (h : Hid p) : p := h
theorem drewn_below (w : World) (n : Nat) : Below w.heap.size w (w.drewN n) := by
  refine ⟨rfl, by simp, rfl, Nat.le_refl _, fun _ _ => rfl⟩
set_option maxHeartbeats 1000000 in
theorem isNaN_calls (x : Int) (w : World) : Calls Tryd.prog 37 #[.int .i64 x] w fun e w' => e = .returned (.bool false) ∧ w' = w := by
  go_enter Tryd.func37, Tryd.ntmps37
  go_wp2
  go_ret
  exact ⟨by simp, rfl⟩
/-- Which of two numbers is the greater one. -/
def sgn (x y : Int) : Int := if x < y then -1 else if y < x then 1 else 0
set_option maxHeartbeats 1000000 in
theorem compare_calls (x y : Int) (w : World) : Calls Tryd.prog 25 #[.int .i64 x, .int .i64 y] w fun e w' => e = .returned (.int .i64 (sgn x y)) ∧ w' = w := by
  have H : Hid (∀ z : Int, Calls Tryd.prog 37 #[.int .i64 z] w fun e w' => e = .returned (.bool false) ∧ w' = w) := fun z => isNaN_calls z w
  by_cases h1 : x < y
  · have HS : Hid (sgn x y = -1) := by show _ = _; unfold sgn; rw [if_pos h1]
    go_enter Tryd.func25, Tryd.ntmps25
    go_wp2_with fail
    refine (unhide H x).mono ?_
    rintro e w1 ⟨rfl, hw1⟩
    obtain rfl := hw1.symm
    clear hw1
    go_wp2_with fail
    refine (unhide H y).mono ?_
    rintro e w1 ⟨rfl, hw1⟩
    obtain rfl := hw1.symm
    clear hw1
    go_wp2
    go_ret
    exact ⟨by rw [HS.out]; rfl, rfl⟩
  · by_cases h2 : y < x
    · have HS : Hid (sgn x y = 1) := by show _ = _; unfold sgn; rw [if_neg h1, if_pos h2]
      go_enter Tryd.func25, Tryd.ntmps25
      go_wp2_with fail
      refine (unhide H x).mono ?_
      rintro e w1 ⟨rfl, hw1⟩
      obtain rfl := hw1.symm
      clear hw1
      go_wp2_with fail
      refine (unhide H y).mono ?_
      rintro e w1 ⟨rfl, hw1⟩
      obtain rfl := hw1.symm
      clear hw1
      go_wp2
      go_ret
      exact ⟨by rw [HS.out]; rfl, rfl⟩
    · have HS : Hid (sgn x y = 0) := by show _ = _; unfold sgn; rw [if_neg h1, if_neg h2]
      go_enter Tryd.func25, Tryd.ntmps25
      go_wp2_with fail
      refine (unhide H x).mono ?_
      rintro e w1 ⟨rfl, hw1⟩
      obtain rfl := hw1.symm
      clear hw1
      go_wp2_with fail
      refine (unhide H y).mono ?_
      rintro e w1 ⟨rfl, hw1⟩
      obtain rfl := hw1.symm
      clear hw1
      go_wp2
      go_ret
      exact ⟨by rw [HS.out]; rfl, rfl⟩
/-- A byte's place in the order. -/
def rk (c : Int) : Int := if c = 47 then -1 else c
set_option maxHeartbeats 1000000 in
theorem rank_calls (c : Int) (h0 : 0 ≤ c) (h1 : c ≤ 255) (w : World) : Calls Tryd.prog 26 #[.int .u8 c] w fun e w' => e = .returned (.int .i64 (rk c)) ∧ w' = w := by
  by_cases h : c = 47
  · subst h
    go_enter Tryd.func26, Tryd.ntmps26
    go_wp2
    go_ret
    exact ⟨rfl, rfl⟩
  · have HS : Hid (rk c = c) := by show _ = _; unfold rk; rw [if_neg h]
    have hb : (c == 47) = false := by simpa using h
    go_enter Tryd.func26, Tryd.ntmps26
    go_wp2
    go_ret
    exact ⟨by rw [HS.out]; rfl, rfl⟩
/-- The i-th byte of a text. -/
def byt (s : ByteArray) (i : Nat) : Int := (((s.data.toList.getD i 0).toNat : Nat) : Int)
theorem byt_bd (s : ByteArray) (i : Nat) : 0 ≤ byt s i ∧ byt s i ≤ 255 := by
  unfold byt
  have := (s.data.toList.getD i 0).toNat_lt
  omega
theorem index_str (s : ByteArray) (j : Nat) (hj : j < s.size) (W : World) : (Instr.index 9 (.string s) (.int .i64 (j : Int))).run Tryd.prog W = .ok (.int .u8 (byt s j)) W := by
  rw [run_index_string W 9 s .i64 j Tryd.underlying9]
  have e : (s.data.toList.getD j 0) = s[j]'hj := by
    rw [List.getD_eq_getElem?_getD, List.getElem?_eq_getElem (by simpa using hj)]
    rfl
  unfold byt
  rw [e, dif_pos ⟨by omega, by omega⟩]
  rfl
/-- The order of two texts, by their bytes, a slash as the lowest of all: from the i-th byte on, n steps at most. -/
def ordF (a b : ByteArray) : Nat → Nat → Int
  | 0, _ => sgn (a.size : Int) (b.size : Int)
  | n + 1, i => if byt a i = byt b i then ordF a b n (i + 1) else sgn (rk (byt a i)) (rk (byt b i))
def ordS (a b : ByteArray) : Int := ordF a b (min a.size b.size) 0
set_option maxRecDepth 100000 in
set_option maxHeartbeats 4000000 in
theorem order_calls (a b : ByteArray) (ha : a.size ≤ 1000000) (hb : b.size ≤ 1000000) (w : World) : Calls Tryd.prog 10 #[.string a, .string b] w fun e w' => e = .returned (.int .i64 (ordS a b)) ∧ Below w.heap.size w w' := by
  have HC : Hid (∀ (x y : Int) W, Calls Tryd.prog 25 #[.int .i64 x, .int .i64 y] W fun e w' => e = .returned (.int .i64 (sgn x y)) ∧ w' = W) := compare_calls
  have HR : Hid (∀ (c : Int), 0 ≤ c ∧ c ≤ 255 → ∀ W, Calls Tryd.prog 26 #[.int .u8 c] W fun e w' => e = .returned (.int .i64 (rk c)) ∧ w' = W) := fun c h W => rank_calls c h.1 h.2 W
  obtain ⟨m, hm⟩ : ∃ m, m = min a.size b.size := ⟨_, rfl⟩
  have HM := hide hm
  have HMI : Hid (min (a.size : Int) (b.size : Int) = (m : Int)) := by show _ = _; omega
  clear hm
  go_enter Tryd.func10, Tryd.ntmps10
  go_wp2_with fail
  all_goals (
    go_loopw [11] (fun jv wr => ∃ (j : Nat), j ≤ m ∧ jv = .int .i64 (j : Int) ∧ Hid (ordS a b = ordF a b (m - j) j) ∧ Hid (Below w.heap.size w wr)) (fun j _ => m - (intOf j).toNat)
    case atStart => exact ⟨0, by omega, rfl, by show _ = _; unfold ordS; rw [← HM.out, Nat.sub_zero], Below.refl _ _⟩
    case round =>
      obtain ⟨j, hj, rfl, HO, HB⟩ := hrel
      have hmm := HM.out
      by_cases hlt : j < m
      · have hja : j < a.size := by omega
        have hjb : j < b.size := by omega
        have hia := index_str a j hja
        have hib := index_str b j hjb
        have hstep : ordF a b (m - j) j = if byt a j = byt b j then ordF a b (m - (j + 1)) (j + 1) else sgn (rk (byt a j)) (rk (byt b j)) := by
          rw [show m - j = (m - (j + 1)) + 1 by omega]; rfl
        have bx := byt_bd a j
        have bb := byt_bd b j
        have hjA : (j : Int) < (a.size : Int) := by omega
        have hjB : (j : Int) < (b.size : Int) := by omega
        generalize byt a j = x at *
        generalize byt b j = y at *
        have HST := hide hstep
        have HRX := hide (unhide HR x bx)
        have HRY := hide (unhide HR y bb)
        by_cases hxy : x = y
        · have HN : Hid (ordS a b = ordF a b (m - (j + 1)) (j + 1)) := by show _ = _; rw [HO.out, HST.out, if_pos hxy]
          have hne : (x != y) = false := by simpa using hxy
          clear hstep hxy hmm HST
          go_wp2_with fail
          go_quiet (fail)
          have HB2 : Hid (Below w.heap.size w (wr.drewN nq)) := (HB.out).trans ((drewn_below wr nq).mono (HB.out).size)
          go_wp2
          go_roundw
          case rel => exact ⟨j + 1, by omega, by go_num, HN, HB2⟩
          case measure => simp [intOf]; omega
        · have HN : Hid (ordS a b = sgn (rk x) (rk y)) := by show _ = _; rw [HO.out, HST.out, if_neg hxy]
          have hne : (x != y) = true := by simpa using hxy
          clear hstep hxy hmm HST
          go_wp2_with fail
          go_quiet (fail)
          have HB2 : Hid (Below w.heap.size w (wr.drewN nq)) := (HB.out).trans ((drewn_below wr nq).mono (HB.out).size)
          generalize wr.drewN nq = wq at *
          go_wp2_with fail
          go_quiet ((first | (go_at_call 26; with_reducible exact Calls.quiet_of_same (unhide HRX _)) | (go_at_call 26; with_reducible exact Calls.quiet_of_same (unhide HRY _)) | (go_at_call 25; with_reducible exact Calls.quiet_of_same (unhide HC _ _ _))))
          go_wp2
          go_ret
          exact ⟨by rw [HN.out]; rfl, (HB2.out).trans ((drewn_below wq _).mono (HB2.out).size)⟩
      · have hje : j = m := by omega
        have HN : Hid (ordS a b = sgn (a.size : Int) (b.size : Int)) := by
          show _ = _
          rw [HO.out, hje, Nat.sub_self]; rfl
        clear hje
        go_wp2_with fail
        refine (unhide HC _ _ _).mono ?_
        rintro e w1 ⟨rfl, hw1⟩
        obtain rfl := hw1.symm
        clear hw1
        go_wp2
        go_ret
        exact ⟨by rw [HN.out]; rfl, HB.out⟩)
end Go.Proofs.YtmogbkgchhplkabDoor
