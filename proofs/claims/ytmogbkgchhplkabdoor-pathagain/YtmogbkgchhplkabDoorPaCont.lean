/- strings.Contains of a slash. -/
import Derived.Test.YtmogbkgchhplkabDoorPaLeave
import Derived.Lib.Bytealg
import Derived.Laws.Externs
namespace Go.Proofs.YtmogbkgchhplkabDoor
open Go.RowKit

set_option maxRecDepth 100000 in
set_option maxHeartbeats 2000000 in
theorem indexByte_calls (s : ByteArray) (c : Int) (w : World) : Calls Tryd.prog 57 #[.string s, .int .u8 c] w fun e w' => e = .returned (.int .i64 (Lib.indexByte s.data.toList c.toNat.toUInt8)) ∧ w' = w := by
  go_enter Tryd.func57, Tryd.ntmps57
  go_wp2
  rw [run_callFunc_extern Tryd.func62 (by kernel_rfl) (by kernel_rfl) (by kernel_rfl) (e := Extern.BytealgIndexByte.indexByte) (by kernel_rfl), Lib.run_indexByteString]
  simp only [Result.andThen]
  rw [Oper.upon_value]
  go_wp2
  go_ret
  exact ⟨rfl, rfl⟩
set_option maxRecDepth 100000 in
set_option maxHeartbeats 2000000 in
theorem index1_calls (s : ByteArray) (w : World) : Calls Tryd.prog 51 #[.string s, .string ⟨#[47]⟩] w fun e w' => e = .returned (.int .i64 (Lib.indexByte s.data.toList 47)) ∧ w' = w := by
  have H : Hid (Calls Tryd.prog 57 #[.string s, .int .u8 47] w fun e w' => e = .returned (.int .i64 (Lib.indexByte s.data.toList 47)) ∧ w' = w) := indexByte_calls s 47 w
  have h47 : ((((⟨#[47]⟩ : ByteArray)[0]'(by decide)).toNat : Nat) : Int) = 47 := rfl
  cases he : ([47] == s.toList) with
  | true =>
    have hd : s.data.toList = [47] := by
      rw [ByteArray.toList_eq] at he
      exact (eq_of_beq he).symm
    have HV : Hid (Lib.indexByte s.data.toList 47 = 0) := by show _ = _; rw [hd]; rfl
    clear hd
    go_enter Tryd.func51, Tryd.ntmps51
    go_wp2
    go_ret
    exact ⟨by rw [HV.out]; rfl, rfl⟩
  | false =>
    go_enter Tryd.func51, Tryd.ntmps51
    go_wp2_with fail
    refine (unhide H).mono ?_
    rintro e w1 ⟨rfl, hw1⟩
    obtain rfl := hw1.symm
    clear hw1
    go_wp2
    go_ret
    exact ⟨rfl, rfl⟩
set_option maxHeartbeats 1000000 in
theorem index_calls (s : ByteArray) (w : World) : Calls Tryd.prog 46 #[.string s, .string ⟨#[47]⟩] w fun e w' => e = .returned (.int .i64 (Lib.indexByte s.data.toList 47)) ∧ w' = w := by
  have H := hide (index1_calls s w)
  generalize Lib.indexByte s.data.toList 47 = q at *
  go_enter Tryd.func46, Tryd.ntmps46
  go_wp2_with fail
  refine (unhide H).mono ?_
  rintro e w1 ⟨rfl, hw1⟩
  obtain rfl := hw1.symm
  clear hw1
  go_wp2
  go_ret
  exact ⟨rfl, rfl⟩
/-- Is there a slash in it? -/
def slashB (s : ByteArray) : Bool := decide (0 ≤ Lib.indexByte s.data.toList 47)
set_option maxHeartbeats 1000000 in
theorem contains_calls (s : ByteArray) (w : World) : Calls Tryd.prog 35 #[.string s, .string ⟨#[47]⟩] w fun e w' => e = .returned (.bool (slashB s)) ∧ w' = w := by
  have H := hide (index_calls s w)
  unfold slashB
  generalize Lib.indexByte s.data.toList 47 = q at *
  go_enter Tryd.func35, Tryd.ntmps35
  go_wp2_with fail
  refine (unhide H).mono ?_
  rintro e w1 ⟨rfl, hw1⟩
  obtain rfl := hw1.symm
  clear hw1
  go_wp2
  go_ret
  exact ⟨rfl, rfl⟩
/-- Does reading end at something that can't be? -/
def wrongB (s : ByteArray) : Bool := decide ((lvS s).1 < s.size ∨ (lvS s).1 = (lvS s).2)
/-- Is it a name? -/
def nameB (s : ByteArray) : Bool := !(wrongB s) && !(slashB s)
set_option maxRecDepth 100000 in
set_option maxHeartbeats 1000000 in
theorem name_calls (s : ByteArray) (hs : s.size ≤ 140737488360000) (w : World) : Calls Tryd.prog 23 #[.string s] w fun e w' => e = .returned (.bool (nameB s)) ∧ Below w.heap.size w w' := by
  have H1 : Hid (Calls Tryd.prog 32 #[.string s] w fun e w' => e = .returned (.tuple #[.int .i64 (((lvS s).1 : Nat) : Int), .bool (wrongB s)]) ∧ Below w.heap.size w w') := leave_calls s hs w
  have H2 : Hid (∀ W, Calls Tryd.prog 35 #[.string s, .string ⟨#[47]⟩] W fun e w' => e = .returned (.bool (slashB s)) ∧ w' = W) := fun W => contains_calls s W
  have HQ : Hid (nameB s = (!(wrongB s) && !(slashB s))) := rfl
  generalize nameB s = q at *
  generalize wrongB s = b1 at *
  generalize slashB s = b2 at *
  generalize (lvS s).1 = p at *
  cases b1 with
  | true =>
    go_enter Tryd.func23, Tryd.ntmps23
    go_wp2_with fail
    refine (unhide H1).mono ?_
    rintro e w1 ⟨rfl, hb1⟩
    go_wp2
    go_ret
    exact ⟨by rw [HQ.out]; rfl, hb1⟩
  | false =>
    go_enter Tryd.func23, Tryd.ntmps23
    go_wp2_with fail
    refine (unhide H1).mono ?_
    rintro e w1 ⟨rfl, hb1⟩
    go_wp2_with fail
    refine (unhide H2 w1).mono ?_
    rintro e w2 ⟨rfl, hw2⟩
    obtain rfl := hw2.symm
    clear hw2
    go_wp2
    go_ret
    exact ⟨by rw [HQ.out]; rfl, hb1⟩
end Go.Proofs.YtmogbkgchhplkabDoor
