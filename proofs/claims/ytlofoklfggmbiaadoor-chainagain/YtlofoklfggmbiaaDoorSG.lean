/- chain: two writers and a reader of one disk, beside one another. Spaces, in words: what is free behind so many were taken. The program's words and the document's list beside one another: what claiming needs. Slices of ints that may be negative. chain's statements: numbers and sectors made of any. chain's statements: an image, sector by sector. chain's statements: a scene in memory, and its steps. chain's statements: a scene laid: the disk, the space, the document's space. -/
import Derived.Test.YtlofoklfggmbiaaDoorRL
import Derived.Test.YtlofoklfggmbiaaDoorSH
import Derived.Test.YtlofoklfggmbiaaDoorQV
import Derived.Test.YtlofoklfggmbiaaDoorQA
import Derived.Test.YtlofoklfggmbiaaDoorRJ
import Derived.Test.YtlofoklfggmbiaaDoorRI
namespace Go.Proofs.YtlofoklfggmbiaaDoor
open Go.RowKit Go.Maps

end Go.Proofs.YtlofoklfggmbiaaDoor

namespace Go.Proofs.YtlofoklfggmbiaaDoor
open Go.RowKit Go.Maps

theorem has_claim_self {fr to_ : Nat} {ws : List Nat} (hl : ws.length = (to_ - fr + 63) / 64) (n : Int) : hasB fr to_ (claimW fr to_ ws n) n = false := by
 by_cases hn : hasB fr to_ ws n = true
 · have hn' := hn
   unfold claimW
   rw [if_pos hn]
   unfold hasB at hn'
   simp only [Bool.and_eq_true, decide_eq_true_eq] at hn'
   unfold hasB
   rw [flip_bit (by omega), if_pos rfl, hn'.2]
   simp
 · unfold claimW
   rw [if_neg hn]
   simpa using hn
theorem has_claimAll {fr to_ : Nat} : ∀ (l : List Nat) {ws : List Nat}, ws.length = (to_ - fr + 63) / 64 → ∀ x : Int, hasB fr to_ (claimAll fr to_ ws l) x = (hasB fr to_ ws x && decide (∀ n ∈ l, (n : Int) ≠ x))
 | [], ws, _, x => by simp [claimAll]
 | n :: l, ws, hl, x => by
   have ih := has_claimAll l (ws := claimW fr to_ ws (n : Int)) (by rw [claimW_len]; exact hl) x
   show hasB fr to_ (claimAll fr to_ (claimW fr to_ ws (n : Int)) l) x = _
   rw [ih]
   by_cases e : x = (n : Int)
   · rw [e, has_claim_self hl]
     have : decide (∀ m ∈ n :: l, (m : Int) ≠ (n : Int)) = false := decide_eq_false (fun h => h n (by simp) rfl)
     rw [this]
     simp
   · rw [has_claim hl _ _ e]
     congr 1
     apply decide_eq_decide.2
     constructor
     · intro h m hm
       rcases List.mem_cons.1 hm with rfl | hm
       · exact fun h2 => e h2.symm
       · exact h m hm
     · exact fun h m hm => h m (List.mem_cons_of_mem _ hm)
theorem allF_nodup {w : World} {B g gw fr to_ : Nat} {ws : List Nat} (h : Sp w B g gw fr to_ ws) : (allF fr 0 ws).Nodup := by
 rw [h.all]
 unfold setB
 refine List.Pairwise.map _ (fun a b hab e => hab (by omega)) (List.Pairwise.filter _ List.nodup_range)
theorem filter_drop : ∀ {l : List Nat}, l.Nodup → ∀ k, l.filter (fun x => decide (x ∉ l.take k)) = l.drop k
 | [], _, k => by simp
 | x :: l, h, 0 => by simp
 | x :: l, h, k + 1 => by
   have hx : x ∉ l := (List.nodup_cons.1 h).1
   rw [List.take_succ_cons, List.drop_succ_cons, List.filter_cons, if_neg (by simp), ← filter_drop (List.nodup_cons.1 h).2 k]
   apply List.filter_congr
   intro y hy
   apply decide_eq_decide.2
   constructor
   · exact fun h2 h3 => h2 (List.mem_cons_of_mem _ h3)
   · intro h2 h3
     rcases List.mem_cons.1 h3 with rfl | h3
     · exact hx hy
     · exact h2 h3
theorem bit_has {fr to_ : Nat} (ws : List Nat) {i : Nat} (hi : i < to_ - fr) : bitAt ws i = hasB fr to_ ws ((fr + i : Nat) : Int) := by
 unfold hasB
 rw [decide_eq_true (by omega), show (((fr + i : Nat) : Int) - (fr : Int)).toNat = i by omega, Bool.true_and]
/-- What is free behind so many were taken. -/
theorem allF_taken {w w' : World} {B g gw fr to_ B' g' gw' : Nat} {ws : List Nat} {k : Nat} (h : Sp w B g gw fr to_ ws) (h' : Sp w' B' g' gw' fr to_ (claimAll fr to_ ws ((allF fr 0 ws).take k))) : allF fr 0 (claimAll fr to_ ws ((allF fr 0 ws).take k)) = (allF fr 0 ws).drop k := by
 rw [← filter_drop (allF_nodup h) k, h'.all]
 generalize hK : (allF fr 0 ws).take k = K at *
 rw [h.all, List.filter_map]
 congr 1
 unfold setB
 rw [List.filter_filter]
 apply List.filter_congr
 intro i hi
 have hi := List.mem_range.1 hi
 rw [bit_has _ hi, has_claimAll K h.len, bit_has ws hi, Bool.and_comm]
 congr 1
 simp only [Function.comp]
 apply decide_eq_decide.2
 constructor
 · exact fun h2 h3 => h2 _ h3 rfl
 · exact fun h2 n hn e => h2 (by have h9 : n = fr + i := (by omega); rw [← h9]; exact hn)
theorem allF_new {w : World} {B g gw fr to_ : Nat} (h : Sp w B g gw fr to_ (newW (to_ - fr))) : allF fr 0 (newW (to_ - fr)) = (List.range (to_ - fr)).map (fr + ·) := by
 rw [h.all]
 unfold setB
 congr 1
 rw [List.filter_eq_self]
 intro i hi
 have := h.rng
 rw [newW_bit (by omega)]
 exact decide_eq_true (List.mem_range.1 hi)
end Go.Proofs.YtlofoklfggmbiaaDoor

namespace Go.Proofs.YtlofoklfggmbiaaDoor
open Go.RowKit

end Go.Proofs.YtlofoklfggmbiaaDoor

namespace Go.Proofs.YtlofoklfggmbiaaDoor

end Go.Proofs.YtlofoklfggmbiaaDoor

namespace Go.Proofs.YtlofoklfggmbiaaDoor
open Go.RowKit Go.Maps

end Go.Proofs.YtlofoklfggmbiaaDoor

namespace Go.Proofs.YtlofoklfggmbiaaDoor
open Go.RowKit Go.Maps

end Go.Proofs.YtlofoklfggmbiaaDoor

namespace Go.Proofs.YtlofoklfggmbiaaDoor
open Go.RowKit Go.Maps

end Go.Proofs.YtlofoklfggmbiaaDoor

namespace Go.Proofs.YtlofoklfggmbiaaDoor
open Go.RowKit Go.Maps

end Go.Proofs.YtlofoklfggmbiaaDoor
