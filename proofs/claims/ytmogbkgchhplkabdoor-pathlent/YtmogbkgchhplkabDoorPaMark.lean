/- mark. -/
import Derived.Test.YtmogbkgchhplkabDoorPaPok
import Derived.Laws.IdiomStrings
namespace Go.Proofs.YtmogbkgchhplkabDoor
open Go.RowKit

/-- The text that the list i is written full with. -/
def mkD (i : Nat) : ByteArray := ⟨([(48 + i % 10).toUInt8, (48 + i / 10 % 10).toUInt8, (48 + i / 100 % 10).toUInt8] : List UInt8).toArray⟩
def mkT (i : Nat) : ByteArray := ⟨#[35]⟩ ++ mkD i
theorem u8_back (n : Nat) (h : n < 256) : Value.int .u8 ((n.toUInt8.toNat : Nat) : Int) = Value.int .u8 (n : Int) := by
  have : n.toUInt8.toNat = n := by simp [Nat.toUInt8]; omega
  rw [this]
set_option maxRecDepth 100000 in
set_option maxHeartbeats 4000000 in
theorem mark_calls (i : Nat) (hi : i ≤ 1000) (w : World) : Calls Tryd.prog 34 #[.int .i64 (i : Int)] w fun e w' => e = .returned (.string (mkT i)) ∧ Below w.heap.size w w' := by
  have hconv : (convert 56 9 (.slice (some ⟨w.heap.size, 0, none⟩) 3 3)).run Tryd.prog (w.alloc (.cells #[.int .u8 (48 + (i : Int) % 10), .int .u8 (48 + (i : Int) / 10 % 10), .int .u8 (48 + (i : Int) / 100 % 10)] 5)) = .ok (.string (mkD i)) (w.alloc (.cells #[.int .u8 (48 + (i : Int) % 10), .int .u8 (48 + (i : Int) / 10 % 10), .int .u8 (48 + (i : Int) / 100 % 10)] 5)) := by
    refine Go.run_convert_bytes_back (P := Tryd.prog) _ 56 9 5 ⟨w.heap.size, 0, none⟩ 3 [(48 + i % 10).toUInt8, (48 + i / 10 % 10).toUInt8, (48 + i / 100 % 10).toUInt8] Tryd.underlying56 Tryd.underlying5 Tryd.underlying9 fun j hj => ?_
    rw [Addr.add_lit, Nat.zero_add, cell_of_row _ _ j _ _ _ (heap_alloc_new w _)]
    have hj3 : j = 0 ∨ j = 1 ∨ j = 2 := by simp at hj; omega
    rcases hj3 with rfl | rfl | rfl
    · have := u8_back (48 + i % 10) (by omega)
      simp only [List.getElem_cons_zero]
      rw [this]; simp
    · have := u8_back (48 + i / 10 % 10) (by omega)
      simp only [List.getElem_cons_succ, List.getElem_cons_zero]
      rw [this]; simp
    · have := u8_back (48 + i / 100 % 10) (by omega)
      simp only [List.getElem_cons_succ, List.getElem_cons_zero]
      rw [this]; simp
  have HMT : Hid (mkT i = ⟨#[35]⟩ ++ mkD i) := rfl
  have hmd : (mkD i).size = 3 := rfl
  have hmd2 : (mkD i).size ≤ 3 := Nat.le_of_eq hmd
  clear hmd
  generalize mkT i = mt at *
  generalize mkD i = md at *
  go_enter Tryd.func34, Tryd.ntmps34
  go_wp2
  go_ret
  exact ⟨by rw [HMT.out]; rfl, (Below.refl _ _).alloc (Nat.le_refl _) _⟩
end Go.Proofs.YtmogbkgchhplkabDoor
