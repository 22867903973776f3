/- Many rows of the call's own beside one another: what changes some of them alone. The functions of one byte, and of one kind. -/
import Derived.Test.YtfhfobikbfbajaaGreatDoorTAB
import Derived.Test.YtfhfobikbfbajaaGreatDoorProg
import Derived.Test.YtfhfobikbfbajaaGreatDoorTAA
import Derived.WalkKit
import Derived.Below
import Derived.Laws.Strings
import Derived.Deep.RegionHeld3
import Derived.Deep.QuietTactic
import Derived.BigQuiet
namespace Go.Proofs.YtfhfobikbfbajaaGreatDoor
open Go.RowKit

/-- Nothing is changed but blocks from B on and below S, and new ones. -/
structure Out (B S : Nat) (w w' : World) : Prop where
  os : w'.os = w.os
  tape : w'.tape = w.tape
  output : w'.output = w.output
  size : w.heap.size ≤ w'.heap.size
  block : ∀ k, k < w.heap.size → (k < B ∨ S ≤ k) → w'.heap[k]? = w.heap[k]?
theorem Out.refl (B S : Nat) (w : World) : Out B S w w := ⟨rfl, rfl, rfl, Nat.le_refl _, fun _ _ _ => rfl⟩
theorem Out.trans {B S : Nat} {a b c : World} (h : Out B S a b) (k : Out B S b c) : Out B S a c :=
  ⟨k.os.trans h.os, k.tape.trans h.tape, k.output.trans h.output, Nat.le_trans h.size k.size, fun i hi ho => (k.block i (Nat.lt_of_lt_of_le hi h.size) ho).trans (h.block i hi ho)⟩
theorem Out.of_below {B S : Nat} {w w' : World} (h : Below w.heap.size w w') : Out B S w w' := ⟨h.os, h.tape, h.output, h.size, fun k hk _ => h.block k hk⟩
theorem Out.below {B S k : Nat} {w w' : World} (h : Out B S w w') (h1 : k ≤ B) (h2 : k ≤ w.heap.size) : Below k w w' := ⟨h.os, h.tape, h.output, h.size, fun i hi => h.block i (by omega) (Or.inl (by omega))⟩
theorem Out.grown {B S : Nat} {a w w' : World} {row : Option Nat} (h : Out B S a w) (hg : w.grownBy w' row) (hr : ∀ k, row = some k → (B ≤ k ∧ k < S) ∨ a.heap.size ≤ k) : Out B S a w' :=
  ⟨hg.os.trans h.os, hg.tape.trans h.tape, hg.output.trans h.output, Nat.le_trans h.size hg.size, fun k hk ho => (hg.block k (Nat.lt_of_lt_of_le hk h.size) (fun e => by have := hr k e.symm; omega)).trans (h.block k hk ho)⟩
theorem Out.of_grown {B S : Nat} {w w' : World} {row : Option Nat} (hg : w.grownBy w' row) (hr : ∀ k, row = some k → B ≤ k ∧ k < S) : Out B S w w' := (Out.refl B S w).grown hg fun k hk => Or.inl (hr k hk)
theorem Row.out {w w' : World} {B S b : Nat} {t : TypeId} {v : Value} {xs : List Value} (h : Row w b t v xs) (ho : Out B S w w') (hne : ∀ k, v.ownBlock = some k → k < B ∨ S ≤ k) : Row w' b t v xs := by
  refine ⟨h.1, ?_⟩
  rcases h.2 with hn | ⟨g, cap, cur, rfl, hb, hgg, rest⟩
  · exact .inl hn
  · refine .inr ⟨g, cap, cur, rfl, hb, ?_, rest⟩
    rw [ho.block g (Array.getElem?_eq_some_iff.1 hgg).1 (hne g rfl)]
    exact hgg
theorem Out.cell {B S : Nat} {w w' : World} (h : Out B S w w') {p : Addr} (hp : p.block < w.heap.size) (ho : p.block < B ∨ S ≤ p.block) : w'.cell? p = w.cell? p := World.cell?_of_block (h.block p.block hp ho)

/-- A cell of a row is set. -/
theorem Row.set {w : World} {B : Nat} {t : TypeId} {g n c : Nat} {xs : List Value} (h : Row w B t (.slice (some ⟨g, 0, none⟩) n c) xs) (j : Nat) (u : Value) : Row (w.setCell ⟨g, j, none⟩ u) B t (.slice (some ⟨g, 0, none⟩) n c) (xs.set j u) ∧ w.grownBy (w.setCell ⟨g, j, none⟩ u) (some g) := by
  obtain ⟨a, c2, hv⟩ := h.shape
  injection hv with _ e2 _
  subst e2
  have := World.ownsRow.stored h j u
  unfold Row
  rw [List.length_set]
  exact this
theorem Row.cellAt {w : World} {B : Nat} {t : TypeId} {g n c : Nat} {xs : List Value} (h : Row w B t (.slice (some ⟨g, 0, none⟩) n c) xs) {j : Nat} (hj : j < xs.length) : w.cell? ⟨g, j, none⟩ = xs[j]? := by
  obtain ⟨a, c2, hv⟩ := h.shape
  injection hv with _ e2 _
  subst e2
  exact World.ownsRow.cellAt h j (by omega)
end Go.Proofs.YtfhfobikbfbajaaGreatDoor

namespace Go.Proofs.YtfhfobikbfbajaaGreatDoor
open Go.RowKit

theorem kdrewn_below (w : World) (n : Nat) : Below w.heap.size w (w.drewN n) := by
  refine ⟨rfl, by simp, rfl, Nat.le_refl _, fun _ _ => rfl⟩
def stI (x : Int) : Bool := decide (32 ≤ x ∧ x ≤ 126 ∧ x ≠ 34 ∧ x ≠ 92)
set_option maxRecDepth 100000 in
set_option maxHeartbeats 4000000 in
theorem stands_calls (x : Int) (h0 : 0 ≤ x) (h1 : x ≤ 255) (w : World) : Calls Tryz.prog 115 #[.int .u8 x] w fun e w' => e = .returned (.bool (stI x)) ∧ w' = w := by
  obtain ⟨q, hq⟩ : ∃ q, q = stI x := ⟨_, rfl⟩
  have HQ := hide hq
  rw [← hq]
  clear hq
  rcases (by omega : (0 ≤ x ∧ x ≤ 31) ∨ (32 ≤ x ∧ x ≤ 33) ∨ x = 34 ∨ (35 ≤ x ∧ x ≤ 91) ∨ x = 92 ∨ (93 ≤ x ∧ x ≤ 126) ∨ (127 ≤ x ∧ x ≤ 255)) with ⟨i0, i1⟩ | ⟨i0, i1⟩ | rfl | ⟨i0, i1⟩ | rfl | ⟨i0, i1⟩ | ⟨i0, i1⟩
  · have HV : Hid (q = false) := by
      show _ = _
      rw [HQ.out]
      unfold stI
      first | (exact decide_eq_true (by omega)) | (exact decide_eq_false (by omega)) | (repeat' split; all_goals first | rfl | omega)
    have a0 : (x == 34) = false := by simp; omega
    have a1 : (x == 92) = false := by simp; omega
    have a2 : ¬ (32 : Int) ≤ x := by omega
    have a3 : x ≤ (126 : Int) := by omega
    clear HQ
    go_enter Tryz.func115, Tryz.ntmps115
    go_wp2
    go_ret
    exact ⟨by rw [HV.out]; first | rfl | (show Ending.returned (Value.int .i64 (x - 97 + 10)) = _; rw [show x - 97 + 10 = x - 87 by omega]), rfl⟩
  · have HV : Hid (q = true) := by
      show _ = _
      rw [HQ.out]
      unfold stI
      first | (exact decide_eq_true (by omega)) | (exact decide_eq_false (by omega)) | (repeat' split; all_goals first | rfl | omega)
    have a0 : (x == 34) = false := by simp; omega
    have a1 : (x == 92) = false := by simp; omega
    have a2 : (32 : Int) ≤ x := by omega
    have a3 : x ≤ (126 : Int) := by omega
    clear HQ
    go_enter Tryz.func115, Tryz.ntmps115
    go_wp2
    go_ret
    exact ⟨by rw [HV.out]; first | rfl | (show Ending.returned (Value.int .i64 (x - 97 + 10)) = _; rw [show x - 97 + 10 = x - 87 by omega]), rfl⟩
  · have HV : Hid (q = false) := by show _ = _; rw [HQ.out]; first | rfl | decide
    clear h0 h1 HQ
    go_enter Tryz.func115, Tryz.ntmps115
    go_wp2
    go_ret
    exact ⟨by rw [HV.out]; first | rfl | (show Ending.returned (Value.int .i64 (x - 97 + 10)) = _; rw [show x - 97 + 10 = x - 87 by omega]), rfl⟩
  · have HV : Hid (q = true) := by
      show _ = _
      rw [HQ.out]
      unfold stI
      first | (exact decide_eq_true (by omega)) | (exact decide_eq_false (by omega)) | (repeat' split; all_goals first | rfl | omega)
    have a0 : (x == 34) = false := by simp; omega
    have a1 : (x == 92) = false := by simp; omega
    have a2 : (32 : Int) ≤ x := by omega
    have a3 : x ≤ (126 : Int) := by omega
    clear HQ
    go_enter Tryz.func115, Tryz.ntmps115
    go_wp2
    go_ret
    exact ⟨by rw [HV.out]; first | rfl | (show Ending.returned (Value.int .i64 (x - 97 + 10)) = _; rw [show x - 97 + 10 = x - 87 by omega]), rfl⟩
  · have HV : Hid (q = false) := by show _ = _; rw [HQ.out]; first | rfl | decide
    clear h0 h1 HQ
    go_enter Tryz.func115, Tryz.ntmps115
    go_wp2
    go_ret
    exact ⟨by rw [HV.out]; first | rfl | (show Ending.returned (Value.int .i64 (x - 97 + 10)) = _; rw [show x - 97 + 10 = x - 87 by omega]), rfl⟩
  · have HV : Hid (q = true) := by
      show _ = _
      rw [HQ.out]
      unfold stI
      first | (exact decide_eq_true (by omega)) | (exact decide_eq_false (by omega)) | (repeat' split; all_goals first | rfl | omega)
    have a0 : (x == 34) = false := by simp; omega
    have a1 : (x == 92) = false := by simp; omega
    have a2 : (32 : Int) ≤ x := by omega
    have a3 : x ≤ (126 : Int) := by omega
    clear HQ
    go_enter Tryz.func115, Tryz.ntmps115
    go_wp2
    go_ret
    exact ⟨by rw [HV.out]; first | rfl | (show Ending.returned (Value.int .i64 (x - 97 + 10)) = _; rw [show x - 97 + 10 = x - 87 by omega]), rfl⟩
  · have HV : Hid (q = false) := by
      show _ = _
      rw [HQ.out]
      unfold stI
      first | (exact decide_eq_true (by omega)) | (exact decide_eq_false (by omega)) | (repeat' split; all_goals first | rfl | omega)
    have a0 : (x == 34) = false := by simp; omega
    have a1 : (x == 92) = false := by simp; omega
    have a2 : (32 : Int) ≤ x := by omega
    have a3 : ¬ x ≤ (126 : Int) := by omega
    clear HQ
    go_enter Tryz.func115, Tryz.ntmps115
    go_wp2
    go_ret
    exact ⟨by rw [HV.out]; first | rfl | (show Ending.returned (Value.int .i64 (x - 97 + 10)) = _; rw [show x - 97 + 10 = x - 87 by omega]), rfl⟩
end Go.Proofs.YtfhfobikbfbajaaGreatDoor
