/- Journals at the last numbers: one record put again and again, another writer beside it. -/
import Derived.Test.YthhjlopgpmaokabDoorJrLa
namespace Go.Proofs.YthhjlopgpmaokabDoor
open Go.RowKit Go.Maps

def fixR (i num : Nat) : JR := ⟨(num : Int), madeK i, madeRs i⟩
theorem fixR_fine {i num : Nat} (h1 : i ≤ 65535) (h2 : num ≤ 1099511627776) : (fixR i num).Ok ∧ encE (fixR i num) = 0 ∧ (fixR i num).n = (num : Int) := ⟨madeR_ok h1 ⟨by omega, by omega⟩, madeR_enc _ (by omega) (by omega), rfl⟩
/-- A journal, a key, references, and a writer that has done nothing. -/
structure Ls (w W : World) (p pj n st nx gk pl i : Nat) (lv vl : Value) (D : AD) : Prop where
  js : Js w W p pj 2 n st nx D
  key : Arr W gk 33 (KV i)
  refs : ∃ B, OwnJ W B lv (madeRs i)
  late : Wt W pl 0 0 pj 0 (madeK i) vl
  lol : w.heap.size ≤ pl
  la : D.la.length = 24
theorem Ls.below {w W W' : World} {p pj n st nx gk pl i : Nat} {lv vl : Value} {D : AD} (h : Ls w W p pj n st nx gk pl i lv vl D) (hb : Below W.heap.size W W') : Ls w W' p pj n st nx gk pl i lv vl D :=
  ⟨h.js.below hb, h.key.below hb, by obtain ⟨B, hB⟩ := h.refs; exact ⟨B, hB.below hb⟩, h.late.below hb, h.lol, h.la⟩
theorem twt_key : ¬ TWt 33 := by unfold TWt TJn TDk; decide
theorem twt_ref : ¬ TWt 73 := by unfold TWt TJn TDk; decide
/-- Behind k records. -/
def Lz (w W : World) (p pj n st k gk pl i : Nat) (lv vl : Value) : Prop := ∃ D, Ls w W p pj n st (st + k) gk pl i lv vl D ∧ Std D 2 n st (st + k) (fixR i) ∧ Lit D (20 + k)
theorem Lz.below {w W W' : World} {p pj n st k gk pl i : Nat} {lv vl : Value} (h : Lz w W p pj n st k gk pl i lv vl) (hb : Below W.heap.size W W') : Lz w W' p pj n st k gk pl i lv vl := by
  obtain ⟨D, h1, h2⟩ := h
  exact ⟨D, h1.below hb, h2⟩
theorem Lz.key {w W : World} {p pj n st k gk pl i : Nat} {lv vl : Value} (h : Lz w W p pj n st k gk pl i lv vl) : W.rangeAt gk 0 (KV i) := by
  obtain ⟨D, h1, h2⟩ := h
  exact h1.key.rangeJ
theorem Lz.jn {w W : World} {p pj n st k gk pl i : Nat} {lv vl : Value} (h : Lz w W p pj n st k gk pl i lv vl) : Jn W pj p 2 n st (st + k) := by
  obtain ⟨D, h1, h2⟩ := h
  exact h1.js.jn
/-- A writer is there. -/
def La (w W : World) (p pj n st k gk pl i : Nat) (lv vl : Value) (pw : Nat) (v : Value) : Prop := Lz w W p pj n st k gk pl i lv vl ∧ Wt W pw 0 0 pj 0 (madeK i) v ∧ (∃ B, OwnJ W B v (madeRs i)) ∧ w.heap.size ≤ pw ∧ pl ≠ pw
/-- It has written. -/
def Lb (w W : World) (p pj n st k gk pl i : Nat) (lv vl : Value) (pw : Nat) (v : Value) : Prop := ∃ D, Ls w W p pj n st (st + k + 1) gk pl i lv vl (D.write (2 + (st + k) % n) (encL (fixR i (st + k)))) ∧ Std D 2 n st (st + k) (fixR i) ∧ Lit D (20 + k) ∧ D.la.length = 24 ∧ Wt W pw 1 0 pj ((st + k : Nat) : Int) (madeK i) v ∧ w.heap.size ≤ pw ∧ pl ≠ pw
section
variable {w W : World} {p pj n st k gk pl i pw : Nat} {lv vl v : Value}
theorem lz_add (h : Lz w W p pj n st k gk pl i lv vl) (hn : n ≤ 1024) (hk : k < n) (hM : st + k ≤ 1099511627776) :
    Calls Tryd.prog 13 #[.pointer (some ⟨pj, 0, none⟩), .agg (KV i).toArray, lv] W fun e w' => ∃ pw v, e = .returned (.tuple #[.pointer (some ⟨pw, 0, none⟩), .int .i64 0]) ∧ La w w' p pj n st k gk pl i lv vl pw v := by
  obtain ⟨D, h1, h2, h3⟩ := h
  obtain ⟨B, hB⟩ := h1.refs
  refine (js_add hn (by omega) hM (by omega) h1.js hB.isJ).mono ?_
  rintro e w' ⟨pw, v, rfl, q1, q2, q3, q4⟩
  have hlt : pl < W.heap.size := World.block_lt_of_cell? W _ (h1.late.cells (madeK_len i)).1
  exact ⟨pw, v, rfl, ⟨D, h1.below q4, h2, h3⟩, q1.wt, ⟨_, q2⟩, Nat.le_trans h1.js.sn.be.size q3, by omega⟩
theorem lz_step1 (h : La w W p pj n st k gk pl i lv vl pw v) (ht : Tab w) (hi : i ≤ 65535) (hn1 : 1 ≤ n) (hn : n ≤ 20) (hk : k < n) (hM : st + k ≤ 1099511627776) :
    Calls Tryd.prog 14 #[.pointer (some ⟨pw, 0, none⟩)] W fun e w' => e = .returned (.tuple #[.bool false, .int .i64 0]) ∧ Lb w w' p pj n st k gk pl i lv vl pw v := by
  obtain ⟨⟨D, h1, h2, h3⟩, h4, ⟨B, h5⟩, h6, h7⟩ := h
  refine (js_step1 (fr := 2) ht h1.js.lo hn1 (by omega) (by rw [h1.la]; omega) (by omega) hM (by omega) hi h3 (by omega) ⟨h1.js.sn, h1.js.jn, h4⟩ h5 h6).mono ?_
  rintro e w' ⟨rfl, q1, q2⟩
  refine ⟨rfl, D, ⟨⟨q1.sn, q1.jn, h1.js.lo⟩, h1.key.cj q2.cj twt_key, ?_, h1.late.cq q2 h7, h1.lol, h1.la⟩, h2, h3, h1.la, q1.wt, h6, h7⟩
  obtain ⟨B2, hB⟩ := h1.refs
  exact ⟨B2, hB.cj q2.cj twt_ref⟩
theorem lz_step2 (h : Lb w W p pj n st k gk pl i lv vl pw v) (hi : i ≤ 65535) (hn : n ≤ 20) (hk : k < n) (hM : st + k ≤ 1099511627776) :
    Calls Tryd.prog 14 #[.pointer (some ⟨pw, 0, none⟩)] W fun e w' => e = .returned (.tuple #[.bool true, .int .i64 0]) ∧ Lz w w' p pj n st (k + 1) gk pl i lv vl := by
  obtain ⟨D, h1, h2, h3, h4, h5, h6, h7⟩ := h
  refine (js_step2 (fr := 2) h3 (by omega) h1.js.lo ⟨h1.js.sn, h1.js.jn, h5⟩ h6).mono ?_
  rintro e w' ⟨rfl, q1, q2⟩
  obtain ⟨f1, f2, f3⟩ := fixR_fine (i := i) (num := st + k) hi hM
  refine ⟨rfl, _, ⟨q1, h1.key.cj q2.cj twt_key, ?_, h1.late.cq q2 h7, h1.lol, (flush_len _).trans h4⟩, h2.put h3 (Nat.le_refl _) (by omega) (by omega) f1 f2 f3, h3.put⟩
  obtain ⟨B2, hB⟩ := h1.refs
  exact ⟨B2, hB.cj q2.cj twt_ref⟩
theorem room_last {n st nx : Nat} (h : nx = 1099511627777) : roomE n st nx = 171 := by unfold roomE; rw [if_pos (by omega)]
theorem lz_no (h : Lz w W p pj n st k gk pl i lv vl) (hn : n ≤ 1024) (hM : st + k = 1099511627777) :
    Calls Tryd.prog 13 #[.pointer (some ⟨pj, 0, none⟩), .agg (KV i).toArray, lv] W fun e w' => e = .returned (.tuple #[.pointer none, .int .i64 171]) ∧ Lz w w' p pj n st k gk pl i lv vl := by
  obtain ⟨D, h1, h2, h3⟩ := h
  obtain ⟨B, hB⟩ := h1.refs
  refine (add_last h1.js.jn hn (by omega) (by omega) (room_last hM) (madeRs_may i) hB.isJ (madeK_len i)).mono ?_
  rintro e w' ⟨rfl, hb⟩
  exact ⟨rfl, D, h1.below hb, h2, h3⟩
theorem lz_late (h : Lz w W p pj n st k gk pl i lv vl) (hn : n ≤ 1024) (hM : st + k = 1099511627777) :
    Calls Tryd.prog 14 #[.pointer (some ⟨pl, 0, none⟩)] W fun e w' => e = .returned (.tuple #[.bool true, .int .i64 171]) ∧ w'.rangeAt gk 0 (KV i) ∧ ∃ D, Js w w' p pj 2 n st (st + k) D ∧ Std D 2 n st (st + k) (fixR i) ∧ Lit D (20 + k) ∧ D.la.length = 24 := by
  obtain ⟨D, h1, h2, h3⟩ := h
  refine (step_no ⟨h1.js.sn, h1.js.jn, h1.late⟩ h1.lol hn (by omega) (by omega) (room_last hM) (madeK_len i)).mono ?_
  rintro e w' ⟨rfl, q1, q2⟩
  exact ⟨rfl, (h1.key.cj q2.cj twt_key).rangeJ, D, ⟨q1.sn, q1.jn, h1.js.lo⟩, h2, h3, h1.la⟩
end
end Go.Proofs.YthhjlopgpmaokabDoor
