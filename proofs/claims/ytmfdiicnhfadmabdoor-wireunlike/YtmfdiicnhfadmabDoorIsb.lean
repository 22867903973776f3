/- The writers' answers as slices that read lists; same of like and of unlike bytes. -/
import Derived.Test.YtmfdiicnhfadmabDoorStart
import Derived.Test.YtmfdiicnhfadmabDoorBytes
import Derived.Test.YtmfdiicnhfadmabDoorCodes
namespace Go.Proofs.YtmfdiicnhfadmabDoor
open Go.RowKit

theorem uint_isB {V : Int} (w : World) (h0 : 0 ≤ V) (h1 : V < 2 * 128 ^ 9) : Calls Tryd.prog 9 #[.int .u64 V] w fun e w' => ∃ v, e = .returned v ∧ IsB w' v (uBytes V) ∧ Below w.heap.size w w' := by
  refine (uint_calls V w h0 h1).mono ?_
  rintro e w' ⟨v, rfl, hown, hb⟩
  exact ⟨v, rfl, isB_owns hown (uBytes_bytes h0 h1), hb⟩
theorem bytes_isB {w : World} {v : Value} {xs : List Int} (h : IsB w v xs) (hl : xs.length ≤ 140737488351232) :
    Calls Tryd.prog 12 #[v] w fun e w' => ∃ v, e = .returned v ∧ IsB w' v (bB xs) ∧ Below w.heap.size w w' := by
  refine (bytes_calls h hl).mono ?_
  rintro e w' ⟨v, rfl, hown, hb⟩
  exact ⟨v, rfl, isB_owns hown (bB_bytes (by omega) h.mem), hb⟩
theorem same_no {w : World} {va vb : Value} {xs ys : List Int} (ha : IsB w va xs) (hb : IsB w vb ys) (h : xs ≠ ys) :
    Calls Tryd.prog 10 #[va, vb] w fun e w' => e = .returned (.bool false) ∧ w' = w := by
  have := same_calls ha hb
  rwa [decide_eq_false h] at this
/-- The first bytes of a slice. -/
theorem IsB.first {w : World} {b off n cap k : Nat} {ys : List Int} (h : IsB w (.slice (some ⟨b, off, none⟩) n cap) ys) (hk : k ≤ n) (hn : 0 < n) : IsB w (.slice (some ⟨b, off, none⟩) k cap) (ys.take k) := by
  obtain ⟨hb, a, cp, hv, hl, hm, hz, hc⟩ := h
  injection hv with e1 e2 e3
  subst e1 e2 e3
  obtain ⟨b', off', ha, hcell⟩ := hc hn
  injection ha with ha
  injection ha with hb1 ho1
  subst hb1 ho1
  have hlen : (ys.take k).length = k := by simp; omega
  refine ⟨fun j => ?_, some ⟨b, off, none⟩, cap, by rw [hlen], by omega, hm, (fun h => by cases h), fun _ => ⟨b, off, rfl, fun j hj => ?_⟩⟩
  · by_cases hj : j < k
    · rw [List.getElem?_take_of_lt hj]; exact hb j
    · rw [List.getElem?_eq_none (by omega)]; simp
  · rw [hcell j (by omega), List.getD_eq_getElem?_getD, List.getD_eq_getElem?_getD, List.getElem?_take_of_lt (by omega)]
end Go.Proofs.YtmfdiicnhfadmabDoor
