/- SpaceWay: pure facts. -/
import Derived.Test.YtifmfnkpogconaaDoorMakes4
namespace Go.Proofs.YtifmfnkpogconaaDoor
open Go.RowKit

/-- Words of one space that say the same of each number are the same words. -/
theorem ws_eq {w1 w2 : World} {B1 B2 g1 g2 gw1 gw2 fr to_ : Nat} {ws1 ws2 : List Nat} (h1 : Sp w1 B1 g1 gw1 fr to_ ws1) (h2 : Sp w2 B2 g2 gw2 fr to_ ws2) (hb : ∀ i, i < to_ - fr → bitAt ws1 i = bitAt ws2 i) : ws1 = ws2 := by
  have hl : ws1.length = ws2.length := by rw [h1.len, h2.len]
  have hall : ∀ i, bitAt ws1 i = bitAt ws2 i := fun i => by
    by_cases hi : i < to_ - fr
    · exact hb i hi
    · rw [h1.top i (by omega), h2.top i (by omega)]
  refine List.ext_getElem hl fun k hk1 hk2 => Nat.eq_of_testBit_eq fun j => ?_
  by_cases hj : j < 64
  · have := hall (64 * k + j)
    unfold bitAt at this
    rw [show (64 * k + j) / 64 = k by omega, show (64 * k + j) % 64 = j by omega, List.getD_eq_getElem?_getD, List.getD_eq_getElem?_getD, List.getElem?_eq_getElem hk1, List.getElem?_eq_getElem hk2] at this
    exact this
  · have hp : (18446744073709551616 : Nat) ≤ 2 ^ j := by
      have : 2 ^ 64 ≤ 2 ^ j := Nat.pow_le_pow_right (by decide) (by omega)
      have e : (2 : Nat) ^ 64 = 18446744073709551616 := by decide
      omega
    rw [Nat.testBit_lt_two_pow (Nat.lt_of_lt_of_le (h1.wd _ (List.getElem_mem hk1)) hp), Nat.testBit_lt_two_pow (Nat.lt_of_lt_of_le (h2.wd _ (List.getElem_mem hk2)) hp)]
section
variable {f t : Nat} {ws : List Nat} {bs : List Bool}
theorem Tw.hasAt (h : Tw f t ws bs) {k : Nat} (hk : k < t - f) : hasB f t ws ((f : Int) + (k : Int)) = bs.getD k false := by
  unfold hasB
  rw [decide_eq_true (by omega), Bool.true_and, show (((f : Int) + (k : Int)) - (f : Int)).toNat = k by omega, h.at_ k hk]
theorem Tw.claimAt (h : Tw f t ws bs) {k : Nat} (hk : k < t - f) : Tw f t (claimW f t ws ((f : Int) + (k : Int))) (bs.set k false) := by
  have h1 := h.claim ((f : Int) + (k : Int))
  have e : claimR f t bs ((f : Int) + (k : Int)) = bs.set k false := by
    unfold claimR
    rw [h.has, h.hasAt hk, show (((f : Int) + (k : Int)) - (f : Int)).toNat = k by omega]
    by_cases hb : bs.getD k false = true
    · rw [if_pos hb]
    · rw [if_neg hb]
      have hb2 : bs.getD k false = false := by simpa using hb
      have hk2 : k < bs.length := by rw [h.len]; exact hk
      refine (List.ext_getElem? fun j => ?_).symm
      by_cases hj : k = j
      · subst hj
        rw [List.getElem?_set_self hk2, List.getElem?_eq_getElem hk2]
        rw [List.getD_eq_getElem?_getD, List.getElem?_eq_getElem hk2] at hb2
        rw [← hb2]; rfl
      · rw [List.getElem?_set_ne hj]
  rw [← e]; exact h1
theorem Tw.giveAtB (h : Tw f t ws bs) {k : Nat} (hk : k < t - f) : Go.Proofs.YtifmfnkpogconaaDoor.giveB f t ws ((f : Int) + (k : Int)) = !(bs.getD k false) := by
  unfold Go.Proofs.YtifmfnkpogconaaDoor.giveB
  rw [decide_eq_true (by omega), Bool.true_and, show (((f : Int) + (k : Int)) - (f : Int)).toNat = k by omega, h.at_ k hk]
theorem Tw.giveAt (h : Tw f t ws bs) {k : Nat} (hk : k < t - f) (hb : bs.getD k false = false) : Tw f t (giveW f t ws ((f : Int) + (k : Int))) (bs.set k true) := by
  have h1 := h.give ((f : Int) + (k : Int))
  have e : giveR f t bs ((f : Int) + (k : Int)) = bs.set k true := by
    unfold giveR
    rw [h.giveB, h.giveAtB hk, hb, show (((f : Int) + (k : Int)) - (f : Int)).toNat = k by omega]
    rfl
  rw [← e]; exact h1
end
theorem getD_set {bs : List Bool} {k j : Nat} {b : Bool} (hk : k < bs.length) : (bs.set k b).getD j false = if j = k then b else bs.getD j false := by
  rw [List.getD_eq_getElem?_getD, List.getD_eq_getElem?_getD]
  by_cases e : j = k
  · subst e; rw [List.getElem?_set_self hk, if_pos rfl]; rfl
  · rw [List.getElem?_set_ne (fun h => e h.symm), if_neg e]
theorem allR_full (f n : Nat) : allR f (List.replicate n true) = (List.range n).map (f + ·) := by
  unfold allR setR
  rw [List.length_replicate]
  congr 1
  refine List.filter_eq_self.2 fun i hi => ?_
  have := List.mem_range.1 hi
  simp [List.getD_eq_getElem?_getD, this]
theorem clr_get (f : Nat) : ∀ (l : List Nat) (bs : List Bool) (k : Nat), (∀ x ∈ l, f ≤ x ∧ x - f < bs.length) → (clrR f bs l).getD k false = if f + k ∈ l then false else bs.getD k false
  | [], bs, k, _ => by simp [clrR]
  | a :: l, bs, k, h => by
    show (clrR f (bs.set (a - f) false) l).getD k false = _
    have ha := h a (List.mem_cons_self ..)
    rw [clr_get f l (bs.set (a - f) false) k fun x hx => by rw [List.length_set]; exact h x (List.mem_cons_of_mem _ hx), getD_set ha.2]
    by_cases e1 : f + k ∈ l
    · rw [if_pos e1, if_pos (List.mem_cons_of_mem _ e1)]
    · rw [if_neg e1]
      by_cases e2 : k = a - f
      · have e3 : f + k = a := by omega
        rw [if_pos e2, if_pos (by rw [e3]; exact List.mem_cons_self ..)]
      · rw [if_neg e2, if_neg (fun hm => by rcases List.mem_cons.1 hm with hm | hm; exact e2 (by omega); exact e1 hm)]
theorem clr_full (f n : Nat) : clrR f (List.replicate n true) ((allR f (List.replicate n true)).take n) = List.replicate n false := by
  have hl : (allR f (List.replicate n true)).take n = (List.range n).map (f + ·) := by rw [allR_full, List.take_of_length_le (by simp)]
  refine List.ext_getElem? fun k => ?_
  have hlen : (clrR f (List.replicate n true) ((allR f (List.replicate n true)).take n)).length = n := by rw [clrR_len, List.length_replicate]
  by_cases hk : k < n
  · have h1 := clr_get f ((allR f (List.replicate n true)).take n) (List.replicate n true) k (fun x hx => by
      rw [hl] at hx
      obtain ⟨i, hi, rfl⟩ := List.mem_map.1 hx
      have := List.mem_range.1 hi
      simp only [List.length_replicate]
      omega)
    rw [if_pos (by rw [hl]; exact List.mem_map.2 ⟨k, List.mem_range.2 hk, rfl⟩), List.getD_eq_getElem?_getD, List.getElem?_eq_getElem (by omega)] at h1
    rw [List.getElem?_eq_getElem (by omega), List.getElem?_replicate, if_pos hk]
    congr 1
  · rw [List.getElem?_eq_none (by omega), List.getElem?_replicate, if_neg hk]
theorem free_new {w : World} {B g gw f t : Nat} (h : Sp w B g gw f t (newW (t - f))) (hft : f < t) : freeN (newW (t - f)) = t - f := by
  rw [← freeN_allF f, ← (Tw.new hft).all h, allR_full]
  simp
end Go.Proofs.YtifmfnkpogconaaDoor
