/- The program's words and the document's list beside one another: what claiming needs. -/
import Derived.Test.YtifmfnkpogconaaDoorRsSet
import Derived.Test.YtifmfnkpogconaaDoorSpNew
namespace Go.Proofs.YtifmfnkpogconaaDoor
open Go.RowKit

/-- The list says of each number what the words say. -/
structure Tw (fr to_ : Nat) (ws : List Nat) (bs : List Bool) : Prop where
  len : bs.length = to_ - fr
  wide : to_ - fr ≤ 64 * ws.length
  at_ : ∀ i, i < to_ - fr → bs.getD i false = bitAt ws i
theorem Tw.has {fr to_ : Nat} {ws : List Nat} {bs : List Bool} (h : Tw fr to_ ws bs) (n : Int) : hasR fr to_ bs n = hasB fr to_ ws n := by
  unfold hasR hasB
  by_cases hn : (fr : Int) ≤ n ∧ n < (to_ : Int)
  · rw [h.at_ _ (by omega)]
  · rw [decide_eq_false hn]; rfl
theorem Tw.set {fr to_ : Nat} {ws : List Nat} {bs : List Bool} (h : Tw fr to_ ws bs) {a : Nat} (ha : a < to_ - fr) {b : Bool} (hb : bitAt ws a = !b) : Tw fr to_ (flip ws a) (bs.set a b) := by
  have hw := h.wide
  refine ⟨by rw [List.length_set]; exact h.len, by rw [flip_len]; exact hw, fun i hi => ?_⟩
  rw [flip_bit (by omega), List.getD_eq_getElem?_getD]
  by_cases hia : i = a
  · rw [if_pos hia, hia, List.getElem?_set_self (by rw [h.len]; exact ha), hb]
    simp
  · rw [if_neg hia, List.getElem?_set_ne (fun e => hia e.symm), ← List.getD_eq_getElem?_getD, h.at_ i hi]
theorem Tw.claim {fr to_ : Nat} {ws : List Nat} {bs : List Bool} (h : Tw fr to_ ws bs) (n : Int) : Tw fr to_ (claimW fr to_ ws n) (claimR fr to_ bs n) := by
  unfold claimW claimR
  rw [h.has n]
  by_cases hb : hasB fr to_ ws n = true
  · rw [if_pos hb, if_pos hb]
    unfold hasB at hb
    simp only [Bool.and_eq_true, decide_eq_true_eq] at hb
    exact h.set (by omega) (by rw [hb.2]; rfl)
  · rw [if_neg hb, if_neg hb]
    exact h
theorem Tw.new {fr to_ : Nat} (h : fr < to_) : Tw fr to_ (newW (to_ - fr)) (List.replicate (to_ - fr) true) := by
  refine ⟨by rw [List.length_replicate], by rw [newW_len (by omega)]; omega, fun i hi => ?_⟩
  rw [newW_bit (by omega), decide_eq_true hi, List.getD_eq_getElem?_getD, List.getElem?_replicate, if_pos hi]
  rfl
end Go.Proofs.YtifmfnkpogconaaDoor
