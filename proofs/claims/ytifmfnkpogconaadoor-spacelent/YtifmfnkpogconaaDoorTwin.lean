/- The program's words and the document's list beside one another: pure facts. -/
import Derived.Test.YtifmfnkpogconaaDoorSameI
import Derived.Test.YtifmfnkpogconaaDoorTwA
namespace Go.Proofs.YtifmfnkpogconaaDoor
open Go.RowKit

theorem Tw.giveB {fr to_ : Nat} {ws : List Nat} {bs : List Bool} (h : Tw fr to_ ws bs) (n : Int) : giveRB fr to_ bs n = giveB fr to_ ws n := by
  unfold giveRB Go.Proofs.YtifmfnkpogconaaDoor.giveB
  by_cases hn : (fr : Int) ≤ n ∧ n < (to_ : Int)
  · rw [h.at_ _ (by omega)]
  · rw [decide_eq_false hn]; rfl
theorem Tw.give {fr to_ : Nat} {ws : List Nat} {bs : List Bool} (h : Tw fr to_ ws bs) (n : Int) : Tw fr to_ (giveW fr to_ ws n) (giveR fr to_ bs n) := by
  unfold giveW giveR
  rw [h.giveB n]
  by_cases hb : Go.Proofs.YtifmfnkpogconaaDoor.giveB fr to_ ws n = true
  · rw [if_pos hb, if_pos hb]
    unfold Go.Proofs.YtifmfnkpogconaaDoor.giveB at hb
    simp only [Bool.and_eq_true, decide_eq_true_eq, Bool.not_eq_true'] at hb
    exact h.set (by omega) (by rw [hb.2]; rfl)
  · rw [if_neg hb, if_neg hb]
    exact h
theorem Tw.all {fr to_ : Nat} {ws : List Nat} {bs : List Bool} (h : Tw fr to_ ws bs) {w : World} {B g gw : Nat} (hs : Sp w B g gw fr to_ ws) : allR fr bs = allF fr 0 ws := by
  rw [hs.all]
  unfold allR setR setB
  rw [h.len]
  congr 1
  exact List.filter_congr fun i hi => by rw [h.at_ i (List.mem_range.1 hi)]
/-- Numbers that are free, each once, taken out of both. -/
theorem Tw.clr {fr to_ : Nat} : ∀ (l : List Nat) {ws : List Nat} {bs : List Bool}, Tw fr to_ ws bs → l.Nodup → (∀ n ∈ l, hasB fr to_ ws (n : Int) = true) → Tw fr to_ (claimAll fr to_ ws l) (clrR fr bs l)
  | [], _, _, h, _, _ => h
  | n :: l, ws, bs, h, hnd, hin => by
    have h0 := hin n (List.mem_cons_self ..)
    have h1 := h.claim (n : Int)
    have e1 : claimR fr to_ bs (n : Int) = bs.set (n - fr) false := by
      unfold claimR
      rw [h.has, if_pos h0, show ((n : Int) - (fr : Int)).toNat = n - fr by omega]
    rw [e1] at h1
    show Tw fr to_ (claimAll fr to_ (claimW fr to_ ws (n : Int)) l) (clrR fr (bs.set (n - fr) false) l)
    refine Tw.clr l h1 (List.nodup_cons.1 hnd).2 fun m hm => ?_
    have hm0 := hin m (List.mem_cons_of_mem _ hm)
    have hne : m ≠ n := fun e => (List.nodup_cons.1 hnd).1 (e ▸ hm)
    have hw := h.wide
    unfold claimW
    rw [if_pos h0]
    unfold hasB at hm0 h0 ⊢
    simp only [Bool.and_eq_true, decide_eq_true_eq] at hm0 h0 ⊢
    refine ⟨hm0.1, ?_⟩
    rw [flip_bit (by omega), if_neg (by omega)]
    exact hm0.2
theorem setR_nodup (bs : List Bool) (n : Nat) : (setR bs n).Nodup := List.Pairwise.filter _ List.nodup_range
theorem allR_nodup (fr : Nat) (bs : List Bool) : (allR fr bs).Nodup := by
  unfold allR
  exact List.Pairwise.map _ (fun a b h => by simpa using h) (setR_nodup bs _)
theorem Tw.takeAll {fr to_ : Nat} {ws : List Nat} {bs : List Bool} (h : Tw fr to_ ws bs) {w : World} {B g gw : Nat} (hs : Sp w B g gw fr to_ ws) (k : Nat) : Tw fr to_ (claimAll fr to_ ws ((allF fr 0 ws).take k)) (clrR fr bs ((allR fr bs).take k)) := by
  rw [h.all hs]
  refine Tw.clr _ h ?_ fun n hn => (hs.mem (List.mem_of_mem_take hn)).1
  have := allR_nodup fr bs
  rw [h.all hs] at this
  exact this.sublist (List.take_sublist _ _)
end Go.Proofs.YtifmfnkpogconaaDoor
