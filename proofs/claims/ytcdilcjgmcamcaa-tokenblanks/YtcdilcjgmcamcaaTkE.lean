/- A reader in memory; look, more. -/
import Derived.Test.YtcdilcjgmcamcaaTkD
namespace Go.Proofs.Ytcdilcjgmcamcaa
open Go.RowKit Go.Maps

def byt (s : ByteArray) (i : Nat) : Int := (((s.data.toList.getD i 10).toNat : Nat) : Int)
/-- The byte at a place; behind the text a line's end. -/
def lk (s : ByteArray) (i : Nat) : UInt8 := s.data.toList.getD i 10
theorem len_data (s : ByteArray) : s.data.toList.length = s.size := by rw [Array.length_toList]; rfl
theorem lk_out {s : ByteArray} {i : Nat} (h : s.size ≤ i) : lk s i = 10 := by
  unfold lk
  rw [List.getD_eq_getElem?_getD, List.getElem?_eq_none (by rw [len_data]; exact h)]
  rfl
theorem lk_drop {s : ByteArray} {i : Nat} (h : i < s.size) : s.data.toList.drop i = lk s i :: s.data.toList.drop (i + 1) := by
  have hl : i < s.data.toList.length := by rw [len_data]; exact h
  unfold lk
  rw [List.drop_eq_getElem_cons hl, List.getD_eq_getElem?_getD, List.getElem?_eq_getElem hl]
  rfl
theorem drop_out {s : ByteArray} {i : Nat} (h : s.size ≤ i) : s.data.toList.drop i = [] := List.drop_eq_nil_of_le (by rw [len_data]; exact h)
theorem index_str (s : ByteArray) (j : Nat) (hj : j < s.size) (W : World) : (Instr.index 9 (.string s) (.int .i64 (j : Int))).run Try.prog W = .ok (.int .u8 ((lk s j).toNat : Int)) W := by
  rw [run_index_string W 9 s .i64 j Try.underlying9]
  have e : lk s j = s[j]'hj := by
    unfold lk
    rw [List.getD_eq_getElem?_getD, List.getElem?_eq_getElem (by rw [len_data]; exact hj)]
    rfl
  rw [e, dif_pos ⟨by omega, by omega⟩]
  rfl
theorem drewn_b (w : World) (n B : Nat) : Below B w (w.drewN n) := by
  refine ⟨rfl, by simp, rfl, Nat.le_refl _, fun _ _ => rfl⟩
def cellN (w : World) (a : Addr) : Nat := (intOf ((w.cell? a).getD undef)).toNat
def rdC (s : ByteArray) (a st bh ln : Nat) (v : Value) (wr : Int) : List Value := [.string s, .int .i64 (a : Int), .int .i64 (st : Int), .int .i64 (bh : Int), .int .i64 (ln : Int), v, .int .i64 wr]
/-- A reader: it stands at a, the line begins at st, its last token ends at bh. -/
structure Rd (w0 w : World) (g : Nat) (s : ByteArray) (a st bh ln : Nat) (out : List Tok) (wr : Int) (v : Value) : Prop where
  arr : Arr w g 62 (rdC s a st bh ln v wr)
  own : OwnT w w0.heap.size v out
  hg : w0.heap.size ≤ g
  below : Below w0.heap.size w0 w
section
variable {w0 w w' : World} {g : Nat} {s : ByteArray} {a st bh ln : Nat} {out : List Tok} {wr : Int} {v : Value}
theorem Rd.keep (h : Rd w0 w g s a st bh ln out wr v) (hb : Below w.heap.size w w') : Rd w0 w' g s a st bh ln out wr v :=
  ⟨h.arr.below hb, h.own.below hb, h.hg, h.below.trans (hb.mono h.below.size)⟩
theorem grown_set (w : World) (g j : Nat) (u : Value) : w.grownBy (w.setCell ⟨g, j, none⟩ u) (some g) := by
  refine ⟨rfl, rfl, rfl, by simp [World.setCell], fun k hk hne => ?_⟩
  exact Below.heap_setCell w ⟨g, j, none⟩ u k (fun e => hne (by rw [e]))
theorem Rd.ownSet (h : Rd w0 w g s a st bh ln out wr v) (j : Nat) (u : Value) : OwnT (w.setCell ⟨g, j, none⟩ u) w0.heap.size v out :=
  h.own.kept (grown_set w g j u) (h.own.block h.arr (by decide))
theorem Rd.belowSet (h : Rd w0 w g s a st bh ln out wr v) (j : Nat) (u : Value) : Below w0.heap.size w0 (w.setCell ⟨g, j, none⟩ u) := h.below.setCell (p := ⟨g, j, none⟩) h.hg u
theorem Rd.setAt (h : Rd w0 w g s a st bh ln out wr v) (x : Nat) : Rd w0 (w.setCell ⟨g, 1, none⟩ (.int .i64 (x : Int))) g s x st bh ln out wr v :=
  ⟨h.arr.set 1 _, h.ownSet 1 _, h.hg, h.belowSet 1 _⟩
theorem Rd.setStart (h : Rd w0 w g s a st bh ln out wr v) (x : Nat) : Rd w0 (w.setCell ⟨g, 2, none⟩ (.int .i64 (x : Int))) g s a x bh ln out wr v :=
  ⟨h.arr.set 2 _, h.ownSet 2 _, h.hg, h.belowSet 2 _⟩
theorem Rd.setBehind (h : Rd w0 w g s a st bh ln out wr v) (x : Nat) : Rd w0 (w.setCell ⟨g, 3, none⟩ (.int .i64 (x : Int))) g s a st x ln out wr v :=
  ⟨h.arr.set 3 _, h.ownSet 3 _, h.hg, h.belowSet 3 _⟩
theorem Rd.setLine (h : Rd w0 w g s a st bh ln out wr v) (x : Nat) : Rd w0 (w.setCell ⟨g, 4, none⟩ (.int .i64 (x : Int))) g s a st bh x out wr v :=
  ⟨h.arr.set 4 _, h.ownSet 4 _, h.hg, h.belowSet 4 _⟩
theorem Rd.setWrong (h : Rd w0 w g s a st bh ln out wr v) (x : Int) : Rd w0 (w.setCell ⟨g, 6, none⟩ (.int .i64 x)) g s a st bh ln out x v :=
  ⟨h.arr.set 6 _, h.ownSet 6 _, h.hg, h.belowSet 6 _⟩
theorem Rd.cells (h : Rd w0 w g s a st bh ln out wr v) : w.cell? ⟨g, 0, none⟩ = some (.string s) ∧ w.cell? ⟨g, 1, none⟩ = some (.int .i64 (a : Int)) ∧ w.cell? ⟨g, 2, none⟩ = some (.int .i64 (st : Int)) ∧ w.cell? ⟨g, 3, none⟩ = some (.int .i64 (bh : Int)) ∧ w.cell? ⟨g, 4, none⟩ = some (.int .i64 (ln : Int)) ∧ w.cell? ⟨g, 5, none⟩ = some v ∧ w.cell? ⟨g, 6, none⟩ = some (.int .i64 wr) :=
  ⟨h.arr.cell 0, h.arr.cell 1, h.arr.cell 2, h.arr.cell 3, h.arr.cell 4, h.arr.cell 5, h.arr.cell 6⟩
theorem Rd.frozen (h : Rd w0 w g s a st bh ln out wr v) (j : Nat) : w.frozen? ⟨g, j, none⟩ = false := h.arr.frozen j
theorem Rd.cellN (h : Rd w0 w g s a st bh ln out wr v) : cellN w ⟨g, 1, none⟩ = a := by
  unfold Go.Proofs.Ytcdilcjgmcamcaa.cellN; rw [h.cells.2.1]; simp [intOf]
set_option maxRecDepth 100000 in
set_option maxHeartbeats 1000000 in
theorem look_calls (h : Rd w0 w g s a st bh ln out wr v) (k : Nat) (hk : k ≤ 3) (hs : s.size ≤ 1000000) (ha : a ≤ 1000000) : Calls Try.prog 45 #[.pointer (some ⟨g, 0, none⟩), .int .i64 (k : Int)] w fun e w' => e = .returned (.int .u8 ((lk s (a + k)).toNat : Int)) ∧ Below w.heap.size w w' := by
  obtain ⟨c0, c1, _⟩ := h.cells
  clear h
  by_cases hlt : a + k < s.size
  · have hidx : ∀ W, (Instr.index 9 (.string s) (.int .i64 ((a : Int) + (k : Int)))).run Try.prog W = .ok (.int .u8 ((lk s (a + k)).toNat : Int)) W := fun W => by
      have := index_str s (a + k) hlt W
      rw [Int.natCast_add] at this
      exact this
    have hi : (a : Int) + (k : Int) < (s.size : Int) := by omega
    generalize lk s (a + k) = c at *
    clear hlt
    go_enter Try.func45, Try.ntmps45
    go_wp2_with fail
    go_quiet (fail)
    go_wp2_with fail
    go_quiet (fail)
    go_wp2
    go_ret
    exact ⟨rfl, (drewn_b _ _ _).trans (drewn_b _ _ _)⟩
  · have hi : ¬ (a : Int) + (k : Int) < (s.size : Int) := by omega
    have HL := hide (lk_out (s := s) (i := a + k) (by omega))
    clear hlt
    go_enter Try.func45, Try.ntmps45
    go_wp2_with fail
    go_quiet (fail)
    go_wp2
    go_ret
    exact ⟨by rw [HL.out]; rfl, drewn_below _ _⟩
set_option maxRecDepth 100000 in
set_option maxHeartbeats 1000000 in
theorem more_calls (h : Rd w0 w g s a st bh ln out wr v) : Calls Try.prog 42 #[.pointer (some ⟨g, 0, none⟩)] w fun e w' => e = .returned (.bool (decide (st < s.size))) ∧ Below w.heap.size w w' := by
  obtain ⟨c0, _, c2, _⟩ := h.cells
  clear h
  go_enter Try.func42, Try.ntmps42
  go_wp2_with fail
  go_quiet (fail)
  go_wp2
  go_ret
  exact ⟨rfl, drewn_below _ _⟩
end
end Go.Proofs.Ytcdilcjgmcamcaa
