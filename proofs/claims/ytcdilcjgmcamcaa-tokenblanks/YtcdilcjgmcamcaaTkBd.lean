/- strings.Builder, by the library's own contracts: the numbering is ours. -/
import Derived.Test.YtcdilcjgmcamcaaTkD
import Derived.Shelf.Strings.BuilderK
import Derived.Shelf.Strings.Builder2
namespace Go.Proofs.Ytcdilcjgmcamcaa
open Go.RowKit Go.Shelf

def renB : Ren := ⟨fun n => if n = 165 then 22 else if n = 166 then 24 else if n = 167 then 23 else if n = 169 then 26 else if n = 170 then 33 else if n = 240 then 36 else if n = 241 then 37 else if n = 276 then 53 else if n = 277 then 54 else 0,
  fun n => if n = 0 then 0 else if n = 3 then 3 else if n = 4 then 4 else if n = 5 then 5 else if n = 9 then 9 else if n = 20 then 20 else if n = 37 then 37 else if n = 70 then 44 else if n = 72 then 46 else if n = 75 then 49 else if n = 76 then 51 else if n = 80 then 54 else if n = 127 then 65 else if n = 164 then 71 else 0,
  fun n => n⟩
theorem lays165 : Lays.n165 Try.prog renB := by
  constructor
  all_goals first | kernel_rfl | (intro w; kernel_rfl)
theorem lays166 : Lays.n166 Try.prog renB := by
  constructor
  all_goals first | kernel_rfl | (intro w; kernel_rfl)
theorem lays167 : Lays.n167 Try.prog renB := by
  constructor
  all_goals first | kernel_rfl | (intro w; kernel_rfl)
theorem lays169 : Lays.n169 Try.prog renB := by
  constructor
  all_goals first | kernel_rfl | (intro w; kernel_rfl)
theorem lays170 : Lays.n170 Try.prog renB := by
  constructor
  all_goals first | kernel_rfl | (intro w; kernel_rfl)
theorem extraB : Builder.Extra Try.prog renB := by
  refine { sizeBuilder := ?_, liesBuilder := ?_, t5 := ?_, a5 := ?_, z5 := ?_, v5 := ?_, infoByte := ?_, cellsByte := ?_, sizeByte := ?_, neB5 := ?_ }
  all_goals first | kernel_rfl | (intro w; kernel_rfl) | decide
/-- A builder that holds these bytes. -/
def Bd (w : World) (B b : Nat) (l : List UInt8) : Prop := Lib.IsBuilderF 46 5 B b (Lib.byteCells l) w
def Oth (b : Nat) (w w' : World) : Prop := Lib.OthersKept 5 (some b) w w'
section
variable {w w' : World} {B b : Nat} {l : List UInt8}
theorem bd_new (w : World) : Bd (w.alloc (.cells #[.pointer none, .slice none 0 0] 46)) w.heap.size w.heap.size [] := by
  refine Or.inl ⟨Nat.le_refl _, .slice none 0 0, heap_alloc_last w _, ?_, ?_⟩
  · exact World.ownsRowF_of (World.ownsRow_nil _ _ _ _)
  · simp [Value.ownBlock]
theorem bd_byte (h : Bd w B b l) (hB : B ≤ w.heap.size) (hl : l.length ≤ 1000000000000) (c : UInt8) : Calls Try.prog 23 #[.pointer (some ⟨b, 0, none⟩), .int .u8 (c.toNat : Int)] w fun e w' => e = .returned .nilIface ∧ Bd w' B b (l ++ [c]) ∧ Below B w w' ∧ Oth b w w' :=
  (Any.Builder_WriteByte_k lays167 extraB B b (Lib.byteCells l) (c.toNat : Int) w h (by rw [Lib.byteCells_length]; omega) hB).mono fun e w' ⟨h1, h2, h3, h4⟩ => ⟨h1, Or.inr (by rw [Lib.byteCells_append]; exact h2), h3, h4⟩
theorem bd_str (h : Bd w B b l) (hB : B ≤ w.heap.size) (s : ByteArray) (hl : l.length + s.size ≤ 1000000000000) : Calls Try.prog 24 #[.pointer (some ⟨b, 0, none⟩), .string s] w fun e w' => e = .returned (.tuple #[.int .i64 s.size, .nilIface]) ∧ Bd w' B b (l ++ s.data.toList) ∧ Below B w w' ∧ Oth b w w' :=
  (Any.Builder_WriteString_k lays166 extraB B b (Lib.byteCells l) s w h (by rw [Lib.byteCells_length]; omega) hB).mono fun e w' ⟨h1, h2, h3, h4⟩ => ⟨h1, Or.inr (by rw [Lib.byteCells_append, ← Lib.strCells_eq]; exact h2), h3, h4⟩
theorem bd_string (h : Bd w B b l) (hB : B ≤ w.heap.size) : Calls Try.prog 26 #[.pointer (some ⟨b, 0, none⟩)] w fun e w' => e = .returned (.string (bs l)) ∧ Below B w w' :=
  (Any.Builder_String_any_k lays169 extraB B b l w h hB).mono fun _ _ ⟨h1, _, h3, _⟩ => ⟨h1, h3⟩
theorem bd_len (h : Bd w B b l) : Calls Try.prog 33 #[.pointer (some ⟨b, 0, none⟩)] w fun e w' => e = .returned (.int .i64 (l.length : Int)) ∧ w' = w :=
  (Any.Builder_Len_f lays170 B b (Lib.byteCells l) w h).mono fun e w' ⟨h1, h2⟩ => ⟨by rw [h1, Lib.byteCells_length], h2⟩
theorem bd_grow (n : Nat) (hn : n ≤ 281474976710656) (w : World) : Calls Try.prog 22 #[.pointer (some ⟨w.heap.size, 0, none⟩), .int .i64 (n : Int)] (w.alloc (.cells #[.pointer none, .slice none 0 0] 46)) fun e w' => e = .returned (.tuple #[]) ∧ Bd w' w.heap.size w.heap.size [] ∧ Below w.heap.size w w' :=
  (Any.Builder_Grow_fresh lays165 extraB w.heap.size w.heap.size n _ (Nat.le_refl _) (heap_alloc_last w _) (by simp) hn).mono fun e w' ⟨h1, h2, h3⟩ => ⟨h1, Lib.IsBuilderF.of (Or.inr h2), ((Below.refl w.heap.size w).alloc (Nat.le_refl _) _).trans h3⟩
end
end Go.Proofs.Ytcdilcjgmcamcaa
