/- Manifests in plain terms: tokens read as tasks, or the fault and its line; tasks written as tokens. Nothing of a program. Terms in memory: a list of arguments in a block, its elements by fuel; appends of structs to a row of the call's own. path.Order. cut, HasPrefix, Under. inName, dots. -/
import Derived.Test.YtfhfobikbfbajaaGreatDoorTAD
import Derived.Test.YtfhfobikbfbajaaGreatDoorProg
import Derived.Test.YtfhfobikbfbajaaGreatDoorTAA
import Derived.WalkKit
import Derived.Below
import Derived.Deep.RegionHeld3
import Derived.Deep.QuietTactic
import Derived.BigQuiet
import Derived.Laws.Strings
namespace Go.Proofs.YtfhfobikbfbajaaGreatDoor

/-- A term: what a node has, and its arguments. -/
structure Tm where
  kind : Int
  text : ByteArray
  n : Int
  m : Int
  args : List Tm
def Tm.nul : Tm := ⟨0, noText, 0, 0, []⟩
/-- A task. -/
structure Tsk where
  name : ByteArray
  budget : Int
  ins : List ByteArray
  outs : List (ByteArray × Tm)
def hasB (l : List ByteArray) (p : ByteArray) : Bool := l.any fun x => decide (x = p)
/-- A number as a word: its digits, with no needless nought ahead. -/
def digF : List UInt8 → Nat → Option Nat
  | [], a => some a
  | c :: l, a => if 48 ≤ c.toNat ∧ c.toNat ≤ 57 then digF l (10 * a + (c.toNat - 48)) else none
/-- The kinds of terms: their words; what they have. -/
def wds : List ByteArray := [noText, noText, ⟨#[105, 110]⟩, ⟨#[118, 97, 114]⟩, ⟨#[99, 97, 116]⟩, ⟨#[117, 112, 112, 101, 114]⟩, ⟨#[108, 111, 119, 101, 114]⟩, ⟨#[108, 105, 110, 101, 115]⟩, ⟨#[115, 111, 114, 116]⟩, ⟨#[117, 110, 105, 113]⟩, ⟨#[114, 101, 112, 108, 97, 99, 101]⟩, ⟨#[99, 111, 117, 110, 116]⟩, ⟨#[105, 102]⟩, ⟨#[101, 97, 99, 104]⟩, ⟨#[107, 101, 121]⟩, ⟨#[102, 97, 105, 108]⟩]
def argN (k : Nat) : Nat := if k = 10 ∨ k = 12 then 3 else if k = 11 ∨ k = 13 then 2 else if k = 2 ∨ k = 3 then 0 else 1
section
variable (nm pt : ByteArray → Bool)
variable (cl : List ByteArray → ByteArray → Bool)
def wTask : ByteArray := ⟨#[116, 97, 115, 107]⟩
def wIn : ByteArray := ⟨#[105, 110]⟩
def wOut : ByteArray := ⟨#[111, 117, 116]⟩
def wEnd : ByteArray := ⟨#[101, 110, 100]⟩
end
end Go.Proofs.YtfhfobikbfbajaaGreatDoor

namespace Go.Proofs.YtfhfobikbfbajaaGreatDoor
open Go.RowKit Go.Maps

section
variable {ops : Array Oper} {rest : List Oper} {o : Oper} {a : Act} {Q : Exit → Act → World → Prop} {w : World} {K : Act → World → Prop} {E : Prop}
/-- Structs of one type are appended to a row of the call's own. -/
theorem wp_appRow {st t : TypeId} {z : Value} {s by' : Nat} (hU : Tryz.prog.underlying st = some (.slice t)) (hI : (Tryz.prog.info? t).map (fun i => (i.zero, i.size, i.bytes)) = some (some z, s, by')) (hzs : z.cells.size = s) (hs0 : 0 < s) (hby : by' ≤ 1000)
    (x y : Operand) (ho : o.op = .call { callee := .builtin .append, args := #[x, y], argTypes := #[st, st] }) {B : Nat} {v : Value} {k m : Nat} {cs ds : List Value} {ad : Addr} {n c : Nat} (hx : a.eval x = v) (hown : w.ownsRow B t s v k cs) (hy : a.eval y = .slice (some ad) n c) (hn : n = m) (hdl : ds.length = m * s)
    (hm : ∀ j u, ds[j]? = some u → w.cell? (ad.add j) = some u) (h1 : ∀ u ∈ ds, u.oneCell' = true) (hl : k + m ≤ 1000000000) (hB : B ≤ w.heap.size)
    (hk : ∀ v' w', w'.ownsRow B t s v' (k + m) (cs ++ ds) → w.grownBy w' v.ownBlock → (v'.ownBlock = v.ownBlock ∨ v'.ownBlock = some w.heap.size) → K (a.put o.dst v') w') : o.wp Tryz.prog a w K Q := by
  obtain ⟨i0, hi, hz0, hz1, hz2⟩ := info_parts hI
  subst hn
  have hbb : (k + n) * by' ≤ 140737488355328 := Nat.le_trans (Nat.mul_le_mul_left _ hby) (by omega)
  obtain ⟨v', w', hr, h2, h3, h4, h5⟩ := run_append_own_at (P := Tryz.prog) w B st o.type t i0 z s by' hU hi hz0 hz1 hz2 hzs hs0 v k cs hown ad n c ds hdl hm h1 (by unfold maxLen; omega) hbb hB
  unfold Oper.wp execOp
  simp only [ho, resolve, invoke, builtin, Sem.run_bind, Sem.run_pure, Result.andThen_ok, List.map_toArray, List.map_cons, List.map_nil, hx, hy, hr]
  exact hk v' w' h2 h3 h5
theorem wpList_appRow {st t : TypeId} {z : Value} {s by' : Nat} (hU : Tryz.prog.underlying st = some (.slice t)) (hI : (Tryz.prog.info? t).map (fun i => (i.zero, i.size, i.bytes)) = some (some z, s, by')) (hzs : z.cells.size = s) (hs0 : 0 < s) (hby : by' ≤ 1000)
    (hgd : o.guard = none) (x y : Operand) (ho : o.op = .call { callee := .builtin .append, args := #[x, y], argTypes := #[st, st] }) {B : Nat} {v : Value} {k m : Nat} {cs ds : List Value} {ad : Addr} {n c : Nat} (hx : a.eval x = v) (hown : w.ownsRow B t s v k cs) (hy : a.eval y = .slice (some ad) n c) (hn : n = m) (hdl : ds.length = m * s)
    (hm : ∀ j u, ds[j]? = some u → w.cell? (ad.add j) = some u) (h1 : ∀ u ∈ ds, u.oneCell' = true) (hl : k + m ≤ 1000000000) (hB : B ≤ w.heap.size)
    (hk : ∀ v' w', w'.ownsRow B t s v' (k + m) (cs ++ ds) → w.grownBy w' v.ownBlock → (v'.ownBlock = v.ownBlock ∨ v'.ownBlock = some w.heap.size) → wpList Tryz.prog ops Q rest (a.put o.dst v') w') : wpList Tryz.prog ops Q (o :: rest) a w :=
  wpList_plain hgd fun _ hK => wp_appRow hU hI hzs hs0 hby x y ho hx hown hy hn hdl hm h1 hl hB fun v' w' q1 q2 q3 => hK _ _ (hk v' w' q1 q2 q3)
theorem step_appRow {st t : TypeId} {z : Value} {s by' : Nat} (hU : Tryz.prog.underlying st = some (.slice t)) (hI : (Tryz.prog.info? t).map (fun i => (i.zero, i.size, i.bytes)) = some (some z, s, by')) (hzs : z.cells.size = s) (hs0 : 0 < s) (hby : by' ≤ 1000)
    (hw : Region.wanted o (yielded ops a.tmps) = true) (x y : Operand) (ho : o.op = .call { callee := .builtin .append, args := #[x, y], argTypes := #[st, st] }) {B : Nat} {v : Value} {k m : Nat} {cs ds : List Value} {ad : Addr} {n c : Nat} (hx : a.eval x = v) (hown : w.ownsRow B t s v k cs) (hy : a.eval y = .slice (some ad) n c) (hn : n = m) (hdl : ds.length = m * s)
    (hm : ∀ j u, ds[j]? = some u → w.cell? (ad.add j) = some u) (h1 : ∀ u ∈ ds, u.oneCell' = true) (hl : k + m ≤ 1000000000) (hB : B ≤ w.heap.size)
    (hk : ∀ v' w', w'.ownsRow B t s v' (k + m) (cs ++ ds) → w.grownBy w' v.ownBlock → (v'.ownBlock = v.ownBlock ∨ v'.ownBlock = some w.heap.size) → K (a.put o.dst v') w') : if Region.wanted o (yielded ops a.tmps) = true then Oper.wp Tryz.prog o a w K Q else E := by
  rw [if_pos hw]
  exact wp_appRow hU hI hzs hs0 hby x y ho hx hown hy hn hdl hm h1 hl hB hk
end
/-- A term's cells. -/
def tmC (t : Tm) (v : Value) : List Value := [.int .i64 t.kind, .string t.text, .int .i64 t.n, .int .i64 t.m, v]
/-- A block of terms. -/
def TB (W : World) (b : Nat) : Prop := ∃ (cs : Array Value) (m : Nat × Nat), W.heap[b]? = some (Obj.cells cs 52 m)
theorem TB.lt {W : World} {b : Nat} (h : TB W b) : b < W.heap.size := by
  obtain ⟨cs, m, hb⟩ := h
  exact (Array.getElem?_eq_some_iff.1 hb).1
/-- The cells of terms. -/
def tmsC : List Tm → (Nat → Value) → List Value
  | [], _ => []
  | t :: ts, V => tmC t (V 0) ++ tmsC ts (fun j => V (j + 1))
theorem tmsC_at : ∀ {ts : List Tm} {V : Nat → Value} {j k : Nat}, j < ts.length → k < 5 → (tmsC ts V)[j * 5 + k]? = (tmC (ts.getD j .nul) (V j))[k]?
  | [], _, j, _, hj, _ => by simp at hj
  | t :: ts, V, j, k, hj, hk => by
    have hl : (tmC t (V 0)).length = 5 := rfl
    rw [tmsC]
    cases j with
    | zero => rw [List.getElem?_append_left (by omega)]; simp
    | succ j =>
      rw [List.getElem?_append_right (by omega), hl, show (j + 1) * 5 + k - 5 = j * 5 + k by omega, tmsC_at (by simpa using hj) hk]
      simp
theorem tmsC_snoc : ∀ {ts : List Tm} {V : Nat → Value} {t : Tm} {u : Value}, tmsC (ts ++ [t]) (fun j => if j = ts.length then u else V j) = tmsC ts V ++ tmC t u
  | [], V, t, u => by simp [tmsC]
  | x :: ts, V, t, u => by
    have ih := tmsC_snoc (ts := ts) (V := fun j => V (j + 1)) (t := t) (u := u)
    show tmC x _ ++ tmsC (ts ++ [t]) _ = tmC x _ ++ tmsC ts _ ++ tmC t u
    rw [List.append_assoc, ← ih]
    congr 1
    simp
theorem tmC_one (t : Tm) {v : Value} (hv : v.oneCell' = true) : ∀ u ∈ tmC t v, u.oneCell' = true := by
  intro u hu
  simp only [tmC, List.mem_cons, List.not_mem_nil, or_false] at hu
  rcases hu with rfl | rfl | rfl | rfl | rfl
  · rfl
  · rfl
  · rfl
  · rfl
  · exact hv
end Go.Proofs.YtfhfobikbfbajaaGreatDoor

namespace Go.Proofs.YtfhfobikbfbajaaGreatDoor
open Go.RowKit

theorem drewn_below (w : World) (n : Nat) : Below w.heap.size w (w.drewN n) := by
  refine ⟨rfl, by simp, rfl, Nat.le_refl _, fun _ _ => rfl⟩
set_option maxHeartbeats 1000000 in
theorem isNaN_calls (x : Int) (w : World) : Calls Tryz.prog 168 #[.int .i64 x] w fun e w' => e = .returned (.bool false) ∧ w' = w := by
  go_enter Tryz.func168, Tryz.ntmps168
  go_wp2
  go_ret
  exact ⟨by simp, rfl⟩
/-- Which of two numbers is the greater one. -/
def sgn (x y : Int) : Int := if x < y then -1 else if y < x then 1 else 0
set_option maxHeartbeats 1000000 in
theorem compare_calls (x y : Int) (w : World) : Calls Tryz.prog 147 #[.int .i64 x, .int .i64 y] w fun e w' => e = .returned (.int .i64 (sgn x y)) ∧ w' = w := by
  have H : Hid (∀ z : Int, Calls Tryz.prog 168 #[.int .i64 z] w fun e w' => e = .returned (.bool false) ∧ w' = w) := fun z => isNaN_calls z w
  by_cases h1 : x < y
  · have HS : Hid (sgn x y = -1) := by show _ = _; unfold sgn; rw [if_pos h1]
    go_enter Tryz.func147, Tryz.ntmps147
    go_wp2_with fail
    refine (unhide H x).mono ?_
    rintro e w1 ⟨rfl, hw1⟩
    obtain rfl := hw1.symm
    clear hw1
    go_wp2_with fail
    refine (unhide H y).mono ?_
    rintro e w1 ⟨rfl, hw1⟩
    obtain rfl := hw1.symm
    clear hw1
    go_wp2
    go_ret
    exact ⟨by rw [HS.out]; rfl, rfl⟩
  · by_cases h2 : y < x
    · have HS : Hid (sgn x y = 1) := by show _ = _; unfold sgn; rw [if_neg h1, if_pos h2]
      go_enter Tryz.func147, Tryz.ntmps147
      go_wp2_with fail
      refine (unhide H x).mono ?_
      rintro e w1 ⟨rfl, hw1⟩
      obtain rfl := hw1.symm
      clear hw1
      go_wp2_with fail
      refine (unhide H y).mono ?_
      rintro e w1 ⟨rfl, hw1⟩
      obtain rfl := hw1.symm
      clear hw1
      go_wp2
      go_ret
      exact ⟨by rw [HS.out]; rfl, rfl⟩
    · have HS : Hid (sgn x y = 0) := by show _ = _; unfold sgn; rw [if_neg h1, if_neg h2]
      go_enter Tryz.func147, Tryz.ntmps147
      go_wp2_with fail
      refine (unhide H x).mono ?_
      rintro e w1 ⟨rfl, hw1⟩
      obtain rfl := hw1.symm
      clear hw1
      go_wp2_with fail
      refine (unhide H y).mono ?_
      rintro e w1 ⟨rfl, hw1⟩
      obtain rfl := hw1.symm
      clear hw1
      go_wp2
      go_ret
      exact ⟨by rw [HS.out]; rfl, rfl⟩
/-- A byte's place in the order. -/
def rk (c : Int) : Int := if c = 47 then -1 else c
set_option maxHeartbeats 1000000 in
theorem rank_calls (c : Int) (h0 : 0 ≤ c) (h1 : c ≤ 255) (w : World) : Calls Tryz.prog 148 #[.int .u8 c] w fun e w' => e = .returned (.int .i64 (rk c)) ∧ w' = w := by
  by_cases h : c = 47
  · subst h
    go_enter Tryz.func148, Tryz.ntmps148
    go_wp2
    go_ret
    exact ⟨rfl, rfl⟩
  · have HS : Hid (rk c = c) := by show _ = _; unfold rk; rw [if_neg h]
    have hb : (c == 47) = false := by simpa using h
    go_enter Tryz.func148, Tryz.ntmps148
    go_wp2
    go_ret
    exact ⟨by rw [HS.out]; rfl, rfl⟩
/-- The i-th byte of a text. -/
def byt (s : ByteArray) (i : Nat) : Int := (((s.data.toList.getD i 0).toNat : Nat) : Int)
theorem byt_bd (s : ByteArray) (i : Nat) : 0 ≤ byt s i ∧ byt s i ≤ 255 := by
  unfold byt
  have := (s.data.toList.getD i 0).toNat_lt
  omega
theorem index_str (s : ByteArray) (j : Nat) (hj : j < s.size) (W : World) : (Instr.index 9 (.string s) (.int .i64 (j : Int))).run Tryz.prog W = .ok (.int .u8 (byt s j)) W := by
  rw [run_index_string W 9 s .i64 j Tryz.underlying9]
  have e : (s.data.toList.getD j 0) = s[j]'hj := by
    rw [List.getD_eq_getElem?_getD, List.getElem?_eq_getElem (by simpa using hj)]
    rfl
  unfold byt
  rw [e, dif_pos ⟨by omega, by omega⟩]
  rfl
/-- The order of two texts, by their bytes, a slash as the lowest of all: from the i-th byte on, n steps at most. -/
def ordF (a b : ByteArray) : Nat → Nat → Int
  | 0, _ => sgn (a.size : Int) (b.size : Int)
  | n + 1, i => if byt a i = byt b i then ordF a b n (i + 1) else sgn (rk (byt a i)) (rk (byt b i))
def ordS (a b : ByteArray) : Int := ordF a b (min a.size b.size) 0
set_option maxRecDepth 100000 in
set_option maxHeartbeats 4000000 in
theorem order_calls (a b : ByteArray) (ha : a.size ≤ 1000000) (hb : b.size ≤ 1000000) (w : World) : Calls Tryz.prog 127 #[.string a, .string b] w fun e w' => e = .returned (.int .i64 (ordS a b)) ∧ Below w.heap.size w w' := by
  have HC : Hid (∀ (x y : Int) W, Calls Tryz.prog 147 #[.int .i64 x, .int .i64 y] W fun e w' => e = .returned (.int .i64 (sgn x y)) ∧ w' = W) := compare_calls
  have HR : Hid (∀ (c : Int), 0 ≤ c ∧ c ≤ 255 → ∀ W, Calls Tryz.prog 148 #[.int .u8 c] W fun e w' => e = .returned (.int .i64 (rk c)) ∧ w' = W) := fun c h W => rank_calls c h.1 h.2 W
  obtain ⟨m, hm⟩ : ∃ m, m = min a.size b.size := ⟨_, rfl⟩
  have HM := hide hm
  have HMI : Hid (min (a.size : Int) (b.size : Int) = (m : Int)) := by show _ = _; omega
  clear hm
  go_enter Tryz.func127, Tryz.ntmps127
  go_wp2_with fail
  all_goals (
    go_loopw [11] (fun jv wr => ∃ (j : Nat), j ≤ m ∧ jv = .int .i64 (j : Int) ∧ Hid (ordS a b = ordF a b (m - j) j) ∧ Hid (Below w.heap.size w wr)) (fun j _ => m - (intOf j).toNat)
    case atStart => exact ⟨0, by omega, rfl, by show _ = _; unfold ordS; rw [← HM.out, Nat.sub_zero], Below.refl _ _⟩
    case round =>
      obtain ⟨j, hj, rfl, HO, HB⟩ := hrel
      have hmm := HM.out
      by_cases hlt : j < m
      · have hja : j < a.size := by omega
        have hjb : j < b.size := by omega
        have hia := index_str a j hja
        have hib := index_str b j hjb
        have hstep : ordF a b (m - j) j = if byt a j = byt b j then ordF a b (m - (j + 1)) (j + 1) else sgn (rk (byt a j)) (rk (byt b j)) := by
          rw [show m - j = (m - (j + 1)) + 1 by omega]; rfl
        have bx := byt_bd a j
        have bb := byt_bd b j
        have hjA : (j : Int) < (a.size : Int) := by omega
        have hjB : (j : Int) < (b.size : Int) := by omega
        generalize byt a j = x at *
        generalize byt b j = y at *
        have HST := hide hstep
        have HRX := hide (unhide HR x bx)
        have HRY := hide (unhide HR y bb)
        by_cases hxy : x = y
        · have HN : Hid (ordS a b = ordF a b (m - (j + 1)) (j + 1)) := by show _ = _; rw [HO.out, HST.out, if_pos hxy]
          have hne : (x != y) = false := by simpa using hxy
          clear hstep hxy hmm HST
          go_wp2_with fail
          go_quiet (fail)
          have HB2 : Hid (Below w.heap.size w (wr.drewN nq)) := (HB.out).trans ((drewn_below wr nq).mono (HB.out).size)
          go_wp2
          go_roundw
          case rel => exact ⟨j + 1, by omega, by go_num, HN, HB2⟩
          case measure => simp [intOf]; omega
        · have HN : Hid (ordS a b = sgn (rk x) (rk y)) := by show _ = _; rw [HO.out, HST.out, if_neg hxy]
          have hne : (x != y) = true := by simpa using hxy
          clear hstep hxy hmm HST
          go_wp2_with fail
          go_quiet (fail)
          have HB2 : Hid (Below w.heap.size w (wr.drewN nq)) := (HB.out).trans ((drewn_below wr nq).mono (HB.out).size)
          generalize wr.drewN nq = wq at *
          go_wp2_with fail
          go_quiet ((first | (go_at_call 148; with_reducible exact Calls.quiet_of_same (unhide HRX _)) | (go_at_call 148; with_reducible exact Calls.quiet_of_same (unhide HRY _)) | (go_at_call 147; with_reducible exact Calls.quiet_of_same (unhide HC _ _ _))))
          go_wp2
          go_ret
          exact ⟨by rw [HN.out]; rfl, (HB2.out).trans ((drewn_below wq _).mono (HB2.out).size)⟩
      · have hje : j = m := by omega
        have HN : Hid (ordS a b = sgn (a.size : Int) (b.size : Int)) := by
          show _ = _
          rw [HO.out, hje, Nat.sub_self]; rfl
        clear hje
        go_wp2_with fail
        refine (unhide HC _ _ _).mono ?_
        rintro e w1 ⟨rfl, hw1⟩
        obtain rfl := hw1.symm
        clear hw1
        go_wp2
        go_ret
        exact ⟨by rw [HN.out]; rfl, HB.out⟩)
end Go.Proofs.YtfhfobikbfbajaaGreatDoor

namespace Go.Proofs.YtfhfobikbfbajaaGreatDoor
open Go.RowKit

theorem str_eq (a b : ByteArray) : (a.toList == b.toList) = decide (a = b) := by
  rw [ByteArray.toList_eq, ByteArray.toList_eq]
  by_cases h : a = b
  · subst h; simp
  · rw [decide_eq_false h]
    simp only [beq_eq_false_iff_ne, ne_eq]
    exact fun e => h (Go.WideShapes.bytes_inj e)
/-- The first n bytes. -/
def fst (s : ByteArray) (n : Nat) : ByteArray := s.extract 0 n
set_option maxHeartbeats 1000000 in
theorem hasPre1_calls (s p : ByteArray) (w : World) : Calls Tryz.prog 162 #[.string s, .string p] w fun e w' => e = .returned (.bool (decide (p.size ≤ s.size ∧ fst s p.size = p))) ∧ w' = w := by
  by_cases h : p.size ≤ s.size
  · go_enter Tryz.func162, Tryz.ntmps162
    go_wp2
    rw [str_eq]
    go_ret
    refine ⟨?_, rfl⟩
    have e : decide (p.size ≤ s.size ∧ fst s p.size = p) = decide (s.extract 0 p.size = p) := decide_eq_decide.2 ⟨fun e => e.2, fun e => ⟨h, e⟩⟩
    rw [e]
    rfl
  · go_enter Tryz.func162, Tryz.ntmps162
    go_wp2
    go_ret
    exact ⟨by rw [decide_eq_false (fun e => h e.1)]; rfl, rfl⟩
/-- Does s begin with p? -/
def preB (s p : ByteArray) : Bool := decide (p.size ≤ s.size ∧ fst s p.size = p)
set_option maxHeartbeats 1000000 in
theorem hasPre_calls (s p : ByteArray) (w : World) : Calls Tryz.prog 144 #[.string s, .string p] w fun e w' => e = .returned (.bool (preB s p)) ∧ w' = w := by
  have H := hide (hasPre1_calls s p w)
  rw [show decide (p.size ≤ s.size ∧ fst s p.size = p) = preB s p from rfl] at H
  generalize preB s p = q at *
  go_enter Tryz.func144, Tryz.ntmps144
  go_wp2_with fail
  refine (unhide H).mono ?_
  rintro e w1 ⟨rfl, hw1⟩
  obtain rfl := hw1.symm
  clear hw1
  go_wp2
  go_ret
  exact ⟨rfl, rfl⟩
/-- Does b lie under a, or is it a? -/
def undB (a b : ByteArray) : Bool := decide (a.size = 0 ∨ a = b) || (preB b a && decide (byt b a.size = 47))
set_option maxRecDepth 100000 in
set_option maxHeartbeats 2000000 in
theorem under_calls (a b : ByteArray) (w : World) : Calls Tryz.prog 128 #[.string a, .string b] w fun e w' => e = .returned (.bool (undB a b)) ∧ w' = w := by
  have H := hide (hasPre_calls b a w)
  by_cases h0 : a = ⟨#[]⟩
  · subst h0
    go_enter Tryz.func128, Tryz.ntmps128
    go_wp2
    go_ret
    exact ⟨rfl, rfl⟩
  · have e0 : a.toList.isEmpty = false := by
      rw [ByteArray.toList_eq]
      cases hd : a.data.toList with
      | nil => exact absurd (Go.WideShapes.bytes_inj (a := a) (b := ⟨#[]⟩) (by rw [hd])) h0
      | cons _ _ => rfl
    have hs0 : ¬ a.size = 0 := fun e => h0 (Go.WideShapes.bytes_inj (by
      have h1 : a.data.toList.length = 0 := by simpa using e
      rw [List.eq_nil_of_length_eq_zero h1]))
    by_cases h1 : a = b
    · subst h1
      have e1 : (a.toList == a.toList) = true := by simp
      go_enter Tryz.func128, Tryz.ntmps128
      go_wp2
      go_ret
      exact ⟨by unfold undB; rw [decide_eq_true (Or.inr rfl)]; rfl, rfl⟩
    · have e1 : (a.toList == b.toList) = false := by rw [str_eq, decide_eq_false h1]
      have HU : Hid (undB a b = (preB b a && decide (byt b a.size = 47))) := by
        show _ = _
        unfold undB
        rw [decide_eq_false (fun e => e.elim hs0 h1), Bool.false_or]
      have hbig : preB b a = true → a.size < b.size := fun hp => by
        unfold preB at hp
        simp only [decide_eq_true_eq] at hp
        refine Nat.lt_of_le_of_ne hp.1 fun e => h1 ?_
        have h2 := hp.2
        unfold fst at h2
        rw [e] at h2
        rw [← h2]
        exact (Go.WideShapes.bytes_inj (by simp)).symm
      by_cases hp : preB b a = true
      · rw [hp] at H HU
        have hlt := hbig hp
        have hidx := index_str b a.size hlt
        have hI : (a.size : Int) < (b.size : Int) := by omega
        rw [Bool.true_and] at HU
        have hb47 : (byt b a.size == 47) = decide (byt b a.size = 47) := rfl
        generalize byt b a.size = x at *
        clear hp hbig
        go_enter Tryz.func128, Tryz.ntmps128
        go_wp2_with fail
        refine (unhide H).mono ?_
        rintro e w1 ⟨rfl, hw1⟩
        obtain rfl := hw1.symm
        clear hw1
        go_wp2
        go_ret
        exact ⟨by rw [HU.out]; rfl, rfl⟩
      · have hp2 : preB b a = false := by simpa using hp
        rw [hp2] at H HU
        clear hp hp2 hbig
        go_enter Tryz.func128, Tryz.ntmps128
        go_wp2_with fail
        refine (unhide H).mono ?_
        rintro e w1 ⟨rfl, hw1⟩
        obtain rfl := hw1.symm
        clear hw1
        go_wp2
        go_ret
        exact ⟨by rw [HU.out]; rfl, rfl⟩
end Go.Proofs.YtfhfobikbfbajaaGreatDoor

namespace Go.Proofs.YtfhfobikbfbajaaGreatDoor
open Go.RowKit

/-- May this byte stand in a name? -/
def inN (c : Int) : Bool := decide ((97 ≤ c ∧ c ≤ 122) ∨ (65 ≤ c ∧ c ≤ 90) ∨ (48 ≤ c ∧ c ≤ 57) ∨ c = 46 ∨ c = 95 ∨ c = 45)
set_option maxRecDepth 100000 in
set_option maxHeartbeats 2000000 in
theorem inName_calls (c : Int) (w : World) : Calls Tryz.prog 120 #[.int .u8 c] w fun e w' => e = .returned (.bool (inN c)) ∧ w' = w := by
  obtain ⟨q, hq⟩ : ∃ q, q = inN c := ⟨_, rfl⟩
  have HQ := hide hq
  rw [← hq]
  clear hq
  by_cases a1 : 97 ≤ c
  all_goals by_cases a2 : c ≤ 122
  all_goals by_cases a3 : 65 ≤ c
  all_goals by_cases a4 : c ≤ 90
  all_goals by_cases a5 : 48 ≤ c
  all_goals by_cases a6 : c ≤ 57
  all_goals by_cases a7 : c = 46
  all_goals by_cases a8 : c = 95
  all_goals by_cases a9 : c = 45
  all_goals try (exfalso; omega)
  all_goals (
    have HV : Hid (q = decide ((97 ≤ c ∧ c ≤ 122) ∨ (65 ≤ c ∧ c ≤ 90) ∨ (48 ≤ c ∧ c ≤ 57) ∨ c = 46 ∨ c = 95 ∨ c = 45)) := HQ.out
    have b7 : (c == 46) = decide (c = 46) := rfl
    have b8 : (c == 95) = decide (c = 95) := rfl
    have b9 : (c == 45) = decide (c = 45) := rfl
    go_enter Tryz.func120, Tryz.ntmps120
    go_wp2
    go_ret
    refine ⟨?_, rfl⟩
    rw [HV.out]
    first
    | (rw [decide_eq_true (by omega)]; rfl)
    | (rw [decide_eq_false (by omega)]; rfl))
def dot1 : ByteArray := ⟨#[46]⟩
def dot2 : ByteArray := ⟨#[46, 46]⟩
def dotS : ByteArray := ⟨#[46, 47]⟩
def dotT : ByteArray := ⟨#[46, 46, 47]⟩
/-- Is the first part of dots alone? -/
def dotsB (s : ByteArray) : Bool := decide (s = dot1) || decide (s = dot2) || preB s dotS || preB s dotT
set_option maxRecDepth 100000 in
set_option maxHeartbeats 2000000 in
theorem dots_calls (s : ByteArray) (w : World) : Calls Tryz.prog 121 #[.string s] w fun e w' => e = .returned (.bool (dotsB s)) ∧ w' = w := by
  have H3 : Hid (Calls Tryz.prog 144 #[.string s, .string ⟨#[46, 47]⟩] w fun e w' => e = .returned (.bool (preB s dotS)) ∧ w' = w) := hasPre_calls s dotS w
  have H4 : Hid (Calls Tryz.prog 144 #[.string s, .string ⟨#[46, 46, 47]⟩] w fun e w' => e = .returned (.bool (preB s dotT)) ∧ w' = w) := hasPre_calls s dotT w
  have e1 : (s.toList == [46]) = decide (s = dot1) := by rw [← str_eq, ByteArray.toList_eq dot1]; rfl
  have e2 : (s.toList == [46, 46]) = decide (s = dot2) := by rw [← str_eq, ByteArray.toList_eq dot2]; rfl
  obtain ⟨q, hq⟩ : ∃ q, q = dotsB s := ⟨_, rfl⟩
  have HQ : Hid (q = (decide (s = dot1) || decide (s = dot2) || preB s dotS || preB s dotT)) := hq
  rw [← hq]
  clear hq
  generalize decide (s = dot1) = b1 at *
  generalize decide (s = dot2) = b2 at *
  generalize preB s dotS = b3 at *
  generalize preB s dotT = b4 at *
  cases b1 with
  | true =>
    go_enter Tryz.func121, Tryz.ntmps121
    go_wp2
    go_ret
    exact ⟨by rw [HQ.out]; rfl, rfl⟩
  | false =>
    cases b2 with
    | true =>
      go_enter Tryz.func121, Tryz.ntmps121
      go_wp2
      go_ret
      exact ⟨by rw [HQ.out]; rfl, rfl⟩
    | false =>
      cases b3 with
      | true =>
        go_enter Tryz.func121, Tryz.ntmps121
        go_wp2_with fail
        refine (unhide H3).mono ?_
        rintro e w1 ⟨rfl, hw1⟩
        obtain rfl := hw1.symm
        clear hw1
        go_wp2
        go_ret
        exact ⟨by rw [HQ.out]; rfl, rfl⟩
      | false =>
        go_enter Tryz.func121, Tryz.ntmps121
        go_wp2_with fail
        refine (unhide H3).mono ?_
        rintro e w1 ⟨rfl, hw1⟩
        obtain rfl := hw1.symm
        clear hw1
        go_wp2_with fail
        refine (unhide H4).mono ?_
        rintro e w1 ⟨rfl, hw1⟩
        obtain rfl := hw1.symm
        clear hw1
        go_wp2
        go_ret
        exact ⟨by rw [HQ.out]; rfl, rfl⟩
end Go.Proofs.YtfhfobikbfbajaaGreatDoor
