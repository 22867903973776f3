/- strings.Split, by the library's own contract. -/
import Derived.Test.YtmogbkgchhplkaaDoorPaClone
import Derived.Test.YtmogbkgchhplkaaDoorPaRef
import Derived.Shelf.Strings.Split
namespace Go.Proofs.YtmogbkgchhplkaaDoor
open Go.RowKit Go.Shelf

def renS : Ren := ⟨fun n => if n = 138 then 53 else if n = 143 then 41 else if n = 146 then 37 else if n = 195 then 60 else if n = 197 then 61 else if n = 217 then 54 else if n = 218 then 62 else if n = 219 then 49 else if n = 221 then 48 else if n = 224 then 56 else if n = 225 then 55 else if n = 260 then 65 else if n = 266 then 63 else if n = 267 then 57 else if n = 268 then 52 else if n = 314 then 64 else 0,
  fun n => if n = 3 then 3 else if n = 4 then 4 else if n = 5 then 5 else if n = 9 then 9 else if n = 21 then 21 else if n = 31 then 25 else if n = 46 then 68 else if n = 51 then 75 else if n = 105 then 73 else if n = 119 then 78 else if n = 138 then 80 else if n = 139 then 81 else if n = 146 then 76 else 0,
  fun n => if n = 1 then 0 else if n = 3 then 1 else if n = 4 then 2 else n⟩
theorem laysS : Lays.n146 Tryd.prog renS := by
  constructor
  all_goals first | kernel_rfl | (intro w; kernel_rfl)
def slash : ByteArray := ⟨#[47]⟩
/-- The library's variable that strings.Index reads: it holds a number. -/
def Mx (w : World) : Prop := ∃ m, w.cell? ⟨0, 0, none⟩ = some (.int .i64 m)
theorem Mx.below {w w' : World} (h : Mx w) (hb : Below w.heap.size w w') : Mx w' := by
  obtain ⟨m, hm⟩ := h
  exact ⟨m, (hb.cell (p := ⟨0, 0, none⟩) (World.block_lt_of_cell? _ _ hm)).trans hm⟩
/-- The parts of a text, as the library splits them. -/
def parts (s : ByteArray) : List ByteArray := Lib.splitB slash 0 (Lib.countB s slash) s
theorem split_calls (s : ByteArray) (hs : s.size ≤ 1000000) (w : World) (hM : Mx w) : Calls Tryd.prog 37 #[.string s, .string ⟨#[47]⟩] w fun e w' => e = .returned (.slice (some ⟨w.heap.size, 0, none⟩) (Lib.countB s slash + 1) (Lib.countB s slash + 1)) ∧ w' = w.alloc (.cells ((parts s).map Value.string).toArray 9) := by
  obtain ⟨m, hm⟩ := hM
  exact Any.strings_Split laysS infoStr s slash m w (by omega) hm (by decide)
set_option maxRecDepth 100000 in
set_option maxHeartbeats 1000000 in
theorem parse_calls (s : ByteArray) (hs : s.size ≤ 1000000) (w : World) (hM : Mx w) : Calls Tryd.prog 21 #[.string s] w fun e w' => (wrongB s = true ∧ e = .returned (.tuple #[.slice none 0 0, .int .i64 50, .int .i64 (((lvS s).1 : Nat) : Int)]) ∧ Below w.heap.size w w') ∨
    (wrongB s = false ∧ ∃ g, e = .returned (.tuple #[.slice (some ⟨g, 0, none⟩) (Lib.countB s slash + 1) (Lib.countB s slash + 1), .int .i64 0, .int .i64 0]) ∧ w.heap.size ≤ g ∧ w'.heap[g]? = some (.cells ((parts s).map Value.string).toArray 9 (0, 0)) ∧ Below w.heap.size w w') := by
  have H1 : Hid (Calls Tryd.prog 25 #[.string s] w fun e w' => e = .returned (.tuple #[.int .i64 (((lvS s).1 : Nat) : Int), .bool (wrongB s)]) ∧ Below w.heap.size w w') := leave_calls s (Nat.le_trans hs (by decide)) w
  have H2 : Hid (∀ W, Calls Tryd.prog 36 #[.string s] W fun e w' => e = .returned (.string s) ∧ Below W.heap.size W w') := fun W => clone_calls s hs W
  have H3 : Hid (∀ W, Mx W → Calls Tryd.prog 37 #[.string s, .string ⟨#[47]⟩] W fun e w' => e = .returned (.slice (some ⟨W.heap.size, 0, none⟩) (Lib.countB s slash + 1) (Lib.countB s slash + 1)) ∧ Hid (w'.heap[W.heap.size]? = some (.cells ((parts s).map Value.string).toArray 9 (0, 0)) ∧ Below W.heap.size W w')) := fun W hW => (split_calls s hs W hW).mono fun e w' ⟨e1, e2⟩ => ⟨e1, by rw [e2]; exact heap_alloc_new W _, by rw [e2]; exact (Below.refl _ _).alloc (Nat.le_refl _) _⟩
  have HM := hide hM
  clear hM
  generalize Lib.countB s slash + 1 = c at *
  generalize (lvS s).1 = p at *
  cases hw : wrongB s with
  | true =>
    rw [hw] at H1
    go_enter Tryd.func21, Tryd.ntmps21
    go_wp2_with fail
    refine (unhide H1).mono ?_
    rintro e w1 ⟨rfl, hb1⟩
    go_wp2
    go_ret3
    exact Or.inl ⟨by first | trivial | rfl, rfl, hb1⟩
  | false =>
    rw [hw] at H1
    go_enter Tryd.func21, Tryd.ntmps21
    go_wp2_with fail
    refine (unhide H1).mono ?_
    rintro e w1 ⟨rfl, hb1⟩
    go_wp2_with fail
    refine (unhide H2 w1).mono ?_
    rintro e w2 ⟨rfl, hb2⟩
    have hb12 := hb1.trans (hb2.mono hb1.size)
    have H3' := hide (unhide H3 w2 (((HM.out).below hb1).below hb2))
    go_wp2_with fail
    refine (unhide H3').mono ?_
    rintro e w3 ⟨rfl, HX⟩
    go_wp2
    go_ret3
    obtain ⟨x1, x2⟩ := HX.out
    exact Or.inr ⟨by first | trivial | rfl, _, rfl, hb12.size, x1, hb12.trans (x2.mono hb12.size)⟩
end Go.Proofs.YtmogbkgchhplkaaDoor
