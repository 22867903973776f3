/- SpaceOnce's walk. -/
import Derived.Test.YtifmfnkpogconaaDoorOnce5
import Derived.Test.YtifmfnkpogconaaDoorWay6a
import Derived.Deep.DeepCutAuto
import Derived.Deep.CutRange
namespace Go.Proofs.YtifmfnkpogconaaDoor
open Go.RowKit

theorem pl_id {z : Int} {n : Nat} (h0 : 0 ≤ z) (h1 : z < (n : Int)) : pl z n = z.toNat := by
  unfold pl
  rw [Int.tmod_eq_of_lt h0 h1, if_neg (by omega)]
theorem take_len (A : List Nat) (j : Nat) : A.take j = A.take (A.take j).length := by
  rw [List.length_take]
  by_cases h : j ≤ A.length
  · rw [Nat.min_eq_left h]
  · rw [Nat.min_eq_right (by omega), List.take_of_length_le (by omega), List.take_length]
def OnceRel (w : World) (g gw gg n f t L : Nat) (fv iv : Value) (W : World) : Prop := ∃ k ws bs, k ≤ L ∧ k ≤ 300 ∧ fv = .int .i64 (((allR f bs).length : Nat) : Int) ∧ iv = .int .i64 ((k : Nat) : Int) ∧ Om w W g gw gg n f t ws bs ∧ Tw f t ws bs
def OnceMid (w : World) (g gw gg n f t : Nat) (fv lv : Value) (W : World) : Prop := ∃ ws bs l j, fv = .int .i64 (((allR f bs).length : Nat) : Int) ∧ Row W w.heap.size 3 lv (iV l) ∧ l = (allR f bs).take j ∧ Om w W g gw gg n f t ws bs ∧ Tw f t ws (clrR f bs l)
def OnceIn (w : World) (g gw gg n f t : Nat) (ws : List Nat) (lv : Value) (l : List Nat) (fv av kv : Value) (W : World) : Prop := ∃ k bs a, k ≤ l.length ∧ a ≤ n ∧ fv = .int .i64 (((allR f bs).length : Nat) : Int) ∧ av = .int .i64 ((a : Nat) : Int) ∧ kv = .int .i64 ((k : Nat) : Int) ∧ Om w W g gw gg n f t ws bs ∧ (∀ i, i < a → bs.getD i false = false) ∧ l.drop k = (allR f bs).take (l.length - k) ∧ Tw f t ws (clrR f bs (l.drop k)) ∧ Row W w.heap.size 3 lv (iV l)
end Go.Proofs.YtifmfnkpogconaaDoor
