/- Records that stand on a disk, in plain terms. -/
import Derived.Test.YthhjlopgpmaokabDoorJrMd
import Derived.Test.YthhjlopgpmaokabDoorJrT
import Derived.Test.YthhjlopgpmaokabDoorJrCu
namespace Go.Proofs.YthhjlopgpmaokabDoor
open Go.RowKit Go.Maps

theorem jdecZ : decO zsec = none := zsec_none
/-- The records from lo to hi stand; none of hi or more does. -/
structure Std (D : AD) (fr n lo hi : Nat) (rec : Nat → JR) : Prop where
  n1 : 1 ≤ n
  fit : fr + n ≤ D.la.length
  le : lo ≤ hi
  len : hi ≤ lo + n
  ok : ∀ num, lo ≤ num → num < hi → (rec num).Ok ∧ encE (rec num) = 0 ∧ (rec num).n = (num : Int)
  sec : ∀ num, lo ≤ num → num < hi → D.now (fr + num % n) = encL (rec num)
  top : ∀ s, s < n → ∀ r, decO (D.now (fr + s)) = some r → r.n < (hi : Int)
theorem mod_ne {n a b : Nat} (h : a < b) (hn : b < a + n) : a % n ≠ b % n := fun e => by
  have h1 := Nat.div_add_mod a n
  have h2 := Nat.div_add_mod b n
  rw [e] at h1
  have h3 : n * (b / n) - n * (a / n) = b - a := by omega
  rw [← Nat.mul_sub] at h3
  have h4 : b / n - a / n = 0 := by
    cases hq : b / n - a / n with
    | zero => rfl
    | succ q =>
      rw [hq, Nat.mul_succ] at h3
      have := Nat.zero_le (n * q)
      omega
  rw [h4] at h3
  omega
theorem Std.dec {D : AD} {fr n lo hi : Nat} {rec : Nat → JR} (h : Std D fr n lo hi rec) {num : Nat} (h1 : lo ≤ num) (h2 : num < hi) : decO (D.now (fr + num % n)) = some (rec num) := by
  obtain ⟨q1, q2, _⟩ := h.ok num h1 h2
  rw [h.sec num h1 h2]
  exact dec_enc q1 q2
theorem Std.recs {D : AD} {fr n lo hi : Nat} {rec : Nat → JR} (h : Std D fr n lo hi rec) {num : Nat} (h1 : lo ≤ num) (h2 : num < hi) : recAt D.now fr n num = some (rec num) := recAt_of (h.dec h1 h2) (h.ok num h1 h2).2.2
theorem Std.none {D : AD} {fr n lo hi : Nat} {rec : Nat → JR} (h : Std D fr n lo hi rec) {num : Nat} (h2 : hi ≤ num) : recAt D.now fr n num = Option.none := by
  cases hd : decO (D.now (fr + num % n)) with
  | none => exact recAt_no hd
  | some r => exact recAt_ne hd (by have := h.top (num % n) (Nat.mod_lt _ h.n1) r hd; omega)
/-- The list of records. -/
def recsL (rec : Nat → JR) (st m : Nat) : List JR := (List.range m).map fun j => rec (st + j)
theorem recsL_len (rec : Nat → JR) (st m : Nat) : (recsL rec st m).length = m := by simp [recsL]
theorem recsL_at (rec : Nat → JR) (st : Nat) {m j : Nat} (h : j < m) : (recsL rec st m).getD j .nul = rec (st + j) := by
  unfold recsL
  rw [List.getD_eq_getElem?_getD, List.getElem?_map, List.getElem?_range h]
  rfl
theorem recsL_succ (rec : Nat → JR) (st m : Nat) : recsL rec st (m + 1) = recsL rec st m ++ [rec (st + m)] := by simp [recsL, List.range_succ]
theorem Std.rep {D : AD} {fr n lo hi : Nat} {rec : Nat → JR} (h : Std D fr n lo hi rec) {st : Nat} (h1 : lo ≤ st) (h2 : st ≤ hi) : repL D.now fr n n st = recsL rec st (hi - st) := by
  have hl := h.len
  refine repL_is _ n st (by rw [recsL_len]; omega) (fun j hj => ?_) (fun _ => ?_)
  · rw [recsL_len] at hj
    rw [recsL_at _ _ hj]
    exact h.recs (by omega) (by omega)
  · rw [recsL_len]
    exact h.none (by omega)
/-- A broken one ends them. -/
theorem rep_upto {N : Nat → List Int} {fr n st m : Nat} {rec : Nat → JR} (hm : m ≤ n) (h : ∀ j, j < m → recAt N fr n (st + j) = some (rec (st + j))) (he : recAt N fr n (st + m) = Option.none) : repL N fr n n st = recsL rec st m := by
  refine repL_is _ n st (by rw [recsL_len]; exact hm) (fun j hj => ?_) (fun _ => ?_)
  · rw [recsL_len] at hj
    rw [recsL_at _ _ hj]
    exact h j hj
  · rw [recsL_len]
    exact he
theorem Std.zero {N fr n lo : Nat} {rec : Nat → JR} (h1 : 1 ≤ n) (h2 : fr + n ≤ N) : Std (zeroD N) fr n lo lo rec :=
  ⟨h1, by simpa [zeroD] using h2, Nat.le_refl _, by omega, fun num a b => by omega, fun num a b => by omega, fun s hs r hr => by rw [zero_now, jdecZ] at hr; cases hr⟩
/-- Only what is read counts. -/
theorem Std.same {D D' : AD} {fr n lo hi : Nat} {rec : Nat → JR} (h : Std D fr n lo hi rec) (hl : D'.la.length = D.la.length) (hn : ∀ i, i < D.la.length → D'.now i = D.now i) : Std D' fr n lo hi rec := by
  have hf := h.fit
  refine ⟨h.n1, by rw [hl]; exact h.fit, h.le, h.len, h.ok, fun num a b => ?_, fun s hs r hr => ?_⟩
  · rw [hn _ (by have := Nat.mod_lt num h.n1; omega)]
    exact h.sec num a b
  · rw [hn _ (by omega)] at hr
    exact h.top s hs r hr
/-- The next record is written. -/
theorem Std.write {D : AD} {fr n lo lo' hi : Nat} {rec : Nat → JR} (h : Std D fr n lo hi rec) (h1 : lo ≤ lo') (h2 : lo' ≤ hi) (h3 : hi + 1 ≤ lo' + n) (hr : (rec hi).Ok) (he : encE (rec hi) = 0) (hn : (rec hi).n = (hi : Int)) : Std (D.write (fr + hi % n) (encL (rec hi))) fr n lo' (hi + 1) rec := by
  have hd := dec_enc hr he
  refine ⟨h.n1, h.fit, by omega, h3, fun num a b => ?_, fun num a b => ?_, fun s hs r hr => ?_⟩
  · by_cases e : num = hi
    · subst e; exact ⟨hr, he, hn⟩
    · exact h.ok num (by omega) (by omega)
  · by_cases e : num = hi
    · subst e; exact write_same _ _ _
    · have := mod_ne (n := n) (a := num) (b := hi) (by omega) (by omega)
      rw [write_other _ _ (by omega)]
      exact h.sec num (by omega) (by omega)
  · by_cases e : s = hi % n
    · subst e
      rw [write_same, hd] at hr
      injection hr with hr
      rw [← hr, hn]
      omega
    · rw [write_other _ _ (by omega)] at hr
      have := h.top s hs r hr
      omega
theorem Std.flush {D : AD} {fr n lo hi : Nat} {rec : Nat → JR} (h : Std D fr n lo hi rec) (hw : ∀ i, (D.wr i).length < 9223372036854775807) : Std D.flush fr n lo hi rec := h.same (flush_len D) (fun i hi => flush_now hi (hw i))
theorem Std.raise {D : AD} {fr n lo lo' hi : Nat} {rec : Nat → JR} (h : Std D fr n lo hi rec) (h1 : lo ≤ lo') (h2 : lo' ≤ hi) : Std D fr n lo' hi rec :=
  ⟨h.n1, h.fit, h2, by have := h.len; omega, fun num a b => h.ok num (by omega) b, fun num a b => h.sec num (by omega) b, h.top⟩
theorem jturn_now (D : AD) (i bit j : Nat) (hi : i < D.la.length) : (D.turn i bit).now j = if j = i then turnB (D.now i) bit else D.now j := by
  unfold AD.turn AD.now
  by_cases e : j = i
  · subst e
    rw [if_pos rfl]
    simp only [updF_same, List.getLast?_map]
    cases (D.wr j).getLast? with
    | none => simp [List.getD_eq_getElem?_getD, List.getElem?_set_self hi]
    | some x => rfl
  · rw [if_neg e]
    simp only [updF_other _ _ e]
    rw [List.getD_eq_getElem?_getD, List.getElem?_set_ne (fun h => e h.symm), ← List.getD_eq_getElem?_getD]
/-- A bit of one of them is turned over. -/
theorem Std.bit {D : AD} {fr n lo hi : Nat} {rec : Nat → JR} (h : Std D fr n lo hi rec) (hD : D.Ok) {a bit : Nat} (h1 : lo ≤ a) (h2 : a < hi) (hb : bit < 4096) :
    repL (D.turn (fr + a % n) bit).now fr n n lo = recsL rec lo (a - lo) ∧ repL (D.turn (fr + a % n) bit).now fr n n (a + 1) = recsL rec (a + 1) (hi - (a + 1)) := by
  have hm := Nat.mod_lt a h.n1
  have hf := h.fit
  have hl := h.len
  have hil : fr + a % n < D.la.length := by omega
  have hno : decO ((D.turn (fr + a % n) bit).now (fr + a % n)) = Option.none := by
    rw [jturn_now _ _ _ _ hil, if_pos rfl]
    exact turn_none (hD.now hil).2 (h.dec h1 h2) hb
  have hot : ∀ num, lo ≤ num → num < hi → num ≠ a → recAt (D.turn (fr + a % n) bit).now fr n num = some (rec num) := fun num q1 q2 q3 => by
    refine recAt_of ?_ (h.ok num q1 q2).2.2
    have hne : num % n ≠ a % n := by
      rcases Nat.lt_or_gt_of_ne q3 with q | q
      · exact mod_ne q (by omega)
      · exact fun e => mod_ne q (by omega) e.symm
    rw [jturn_now _ _ _ _ hil, if_neg (by omega)]
    exact h.dec q1 q2
  refine ⟨rep_upto (by omega) (fun j hj => hot _ (by omega) (by omega) (by omega)) ?_, rep_upto (by omega) (fun j hj => hot _ (by omega) (by omega) (by omega)) ?_⟩
  · rw [show lo + (a - lo) = a by omega]
    exact recAt_no hno
  · rw [show a + 1 + (hi - (a + 1)) = hi by omega]
    by_cases e : hi % n = a % n
    · exact recAt_no (by rw [e]; exact hno)
    · cases hd : decO ((D.turn (fr + a % n) bit).now (fr + hi % n)) with
      | none => exact recAt_no hd
      | some r =>
        refine recAt_ne hd ?_
        rw [jturn_now _ _ _ _ hil, if_neg (by omega)] at hd
        have := h.top (hi % n) (Nat.mod_lt _ h.n1) r hd
        omega
/-- A journal on its disk. -/
structure Js (w0 W : World) (p pj fr n st nx : Nat) (D : AD) : Prop where
  sn : Sn w0 W p D
  jn : Jn W pj p fr n st nx
  lo : w0.heap.size ≤ pj
theorem Js.below {w0 W W' : World} {p pj fr n st nx : Nat} {D : AD} (h : Js w0 W p pj fr n st nx D) (hb : Below W.heap.size W W') : Js w0 W' p pj fr n st nx D := ⟨h.sn.below hb, h.jn.below hb, h.lo⟩
/-- How little has been done. -/
structure Lit (D : AD) (k : Nat) : Prop where
  rd : 0 ≤ D.rd ∧ D.rd ≤ (k : Int)
  wt : 0 ≤ D.wt ∧ D.wt ≤ (k : Int)
  fl : 0 ≤ D.fl ∧ D.fl ≤ (k : Int)
  wr : ∀ i, D.wr i = []
theorem Lit.mono {D : AD} {k k' : Nat} (h : Lit D k) (hk : k ≤ k') : Lit D k' := ⟨by have := h.rd; omega, by have := h.wt; omega, by have := h.fl; omega, h.wr⟩
theorem Lit.zero (N : Nat) : Lit (zeroD N) 0 := ⟨⟨Int.le_refl 0, Int.le_refl 0⟩, ⟨Int.le_refl 0, Int.le_refl 0⟩, ⟨Int.le_refl 0, Int.le_refl 0⟩, fun _ => rfl⟩
theorem Lit.rds {D : AD} {k m k' : Nat} (h : Lit D k) (hk : k + m ≤ k') : Lit (D.rds m) k' := ⟨by have := h.rd; constructor <;> (show _ ; simp only [AD.rds]; omega), by have := h.wt; constructor <;> (simp only [AD.rds]; omega), by have := h.fl; constructor <;> (simp only [AD.rds]; omega), h.wr⟩
theorem Lit.one {D : AD} {k i : Nat} {b : List Int} (h : Lit D k) : ∀ j, ((D.write i b).wr j).length ≤ 1 := fun j => by
  show (updF D.wr i (D.wr i ++ [b]) j).length ≤ 1
  unfold updF
  split
  · rw [h.wr i]; simp
  · rw [h.wr j]; simp
theorem Lit.put {D : AD} {k i : Nat} {b : List Int} (h : Lit D k) : Lit (D.write i b).flush (k + 1) := by
  have h1 := h.rd
  have h2 := h.wt
  have h3 := h.fl
  refine ⟨⟨h1.1, by show D.rd ≤ _; omega⟩, ⟨by show 0 ≤ D.wt + 1; omega, by show D.wt + 1 ≤ _; omega⟩, ⟨by show 0 ≤ D.fl + 1; omega, by show D.fl + 1 ≤ _; omega⟩, fun _ => rfl⟩
theorem Std.put {D : AD} {fr n lo lo' hi k : Nat} {rec : Nat → JR} (h : Std D fr n lo hi rec) (hL : Lit D k) (h1 : lo ≤ lo') (h2 : lo' ≤ hi) (h3 : hi + 1 ≤ lo' + n) (hr : (rec hi).Ok) (he : encE (rec hi) = 0) (hn : (rec hi).n = (hi : Int)) : Std (D.write (fr + hi % n) (encL (rec hi))).flush fr n lo' (hi + 1) rec :=
  (h.write h1 h2 h3 hr he hn).flush (fun i => by have := hL.one (i := fr + hi % n) (b := encL (rec hi)) i; omega)
end Go.Proofs.YthhjlopgpmaokabDoor
