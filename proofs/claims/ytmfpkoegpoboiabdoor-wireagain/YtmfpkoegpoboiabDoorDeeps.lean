/- Arguments that are slices of slices of bytes, opened; the form's own reach in depth. -/
import Derived.Test.YtmfpkoegpoboiabDoorLaw
import Derived.Deep.Slices
namespace Go.Proofs.YtmfpkoegpoboiabDoor
open Go.ChangeShapes Go.WideShapes Go.ChangeAt Go.RowKit Go.Deep
section
variable {H : Type} {enc : TypeId × Value → H}

theorem cellsSl : Tryd.prog.cellsOf 23 = 1 := by kernel_rfl
theorem bytesSl : Tryd.prog.bytesOf 23 = 24 := by kernel_rfl

theorem weights_slice {t e : TypeId} {elems spare : List (DataW H)} (ht : Tryd.prog.underlying t = some (.slice e)) (hw : ∀ n ∈ (DataW.slice elems spare).weights Tryd.prog t, n ≤ reachBytes) :
    (elems.length + spare.length) * Tryd.prog.bytesOf e ≤ reachBytes ∧ ∀ d ∈ elems, ∀ n ∈ d.weights Tryd.prog e, n ≤ reachBytes := by
  simp only [DataW.weights, ht] at hw
  refine ⟨hw _ (by simp), fun d hd n hn => hw n ?_⟩
  refine List.mem_cons_of_mem _ (List.mem_append_left _ ?_)
  clear hw
  induction elems with
  | nil => simp at hd
  | cons a r ih =>
    simp only [DataW.weightsAll, List.mem_append]
    rcases List.mem_cons.1 hd with rfl | hd
    · exact Or.inl hn
    · exact Or.inr (ih hd)
theorem weights_of {ts : List TypeId} {ds : List (DataW H)} (hsz : (DataW.weightsEach Tryd.prog ts ds).all (· ≤ reachBytes) = true) {j : Nat} {t : TypeId} {d : DataW H} (ht : ts[j]? = some t) (hd : ds[j]? = some d) :
    ∀ n ∈ d.weights Tryd.prog t, n ≤ reachBytes := fun n hn => by
  simpa using List.all_eq_true.1 hsz n (DataW.weights_mem_each ht hd n hn)

/-- A slice of bytes, wherever it lies. -/
theorem open_bytes1 {W : World} {fuel : Nat} {v : Value} {x : DataW H × List MemPlace} (hf : DataW.trod enc Tryd.prog W 0 (fun _ => true) true fuel 23 [v] = some x) :
    ∃ xs, IsB W v xs ∧ (xs = [] ∨ ∃ spare, x.1 = .slice (lits .u8 xs) spare) := by
  rcases open_ints Tryd.underlying23 Tryd.underlying5 cells8 hf with ⟨hcs, hx⟩ | ⟨ad, len, cap, zs, hcs, _, hl, hm, hz, hx, hcell, hwz⟩
  · simp only [List.cons.injEq, and_true] at hcs
    subst hcs
    exact ⟨[], ⟨by simp, none, 0, rfl, by simp, by omega, fun _ => rfl, fun h => by simp at h⟩, Or.inl rfl⟩
  · simp only [List.cons.injEq, and_true] at hcs
    subst hcs
    simp only [if_true] at hz
    have hlen : (zs.take len).length = len := by simp; omega
    refine ⟨zs.take len, ⟨?_, some ad, cap, by rw [hlen], by omega, by simpa [maxLen] using hm, (fun h => by cases h), ?_⟩, Or.inr ⟨lits .u8 (zs.drop len), by rw [hx]⟩⟩
    · refine bytes_mem fun x hxm => ?_
      have := hwz x (List.mem_of_mem_take hxm)
      have := bounds_u8 this
      omega
    · intro hp
      obtain ⟨b, off, rfl, hc⟩ := ints_at hcell (by omega)
      refine ⟨b, off, rfl, fun j hj => ?_⟩
      rw [hc j (by omega), List.getD_eq_getElem?_getD, List.getD_eq_getElem?_getD, List.getElem?_take_of_lt (by omega)]
theorem bytes1_len {d : DataW H} {xs : List Int} (h : xs = [] ∨ ∃ spare, d = .slice (lits .u8 xs) spare) (hw : ∀ n ∈ d.weights Tryd.prog 23, n ≤ reachBytes) : xs.length ≤ 140737488351232 := by
  rcases h with rfl | ⟨spare, rfl⟩
  · simp
  · have := (weights_slice Tryd.underlying23 hw).1
    rw [bytes8] at this
    simp only [lits, List.length_map, reachBytes] at this
    omega

/-- A slice of slices of bytes. -/
theorem open_bytess1 {W : World} {fuel : Nat} {v : Value} {x : DataW H × List MemPlace} (hf : DataW.trod enc Tryd.prog W 0 (fun _ => true) true fuel 37 [v] = some x) (hw : ∀ n ∈ x.1.weights Tryd.prog 37, n ≤ reachBytes) :
    ∃ xss, IsBB W v xss ∧ xss.length * 24 ≤ 140737488351232 ∧ ∀ xs ∈ xss, xs.length ≤ 140737488351232 := by
  rcases open_slice1 Tryd.underlying37 cellsSl hf with ⟨hcs, hx⟩ | ⟨ad, len, cap, m, n, V, D, Pl, hcs, _, hl, hm, hmm, hx, hcell⟩
  · simp only [List.cons.injEq, and_true] at hcs
    subst hcs
    exact ⟨[], ⟨none, 0, rfl, by simp, by omega, fun h => by simp at h⟩, by simp, fun xs h => by simp at h⟩
  · simp only [List.cons.injEq, and_true] at hcs
    subst hcs
    simp only [if_true] at hmm
    obtain rfl := hmm.symm
    rw [hx] at hw
    have hw2 := weights_slice Tryd.underlying37 hw
    obtain ⟨X, hX⟩ := choose_lt (α := List Int) (n := len) (p := fun i xs => IsB W (V i) xs ∧ xs.length ≤ 140737488351232) (fun i hi => by
      obtain ⟨xs, h1, h2⟩ := open_bytes1 (hcell i (by omega)).2
      exact ⟨xs, h1, bytes1_len h2 (hw2.2 (D i) (List.mem_map.2 ⟨i, by simpa using hi, rfl⟩))⟩)
    have hlen : ((List.range len).map X).length = len := by simp
    refine ⟨(List.range len).map X, ⟨some ad, cap, by rw [hlen], by omega, by simpa [maxLen] using hm, fun hp => ?_⟩, ?_, fun xs hxs => ?_⟩
    · rw [hlen] at hp ⊢
      obtain ⟨b, off, spot⟩ := ad
      have hspot : spot = none := by simpa [Addr.add] using World.cell?_spot (hcell 0 (by omega)).1
      subst hspot
      refine ⟨b, off, rfl, fun j hj => ⟨V j, by rw [← Go.WideShapes.add_plain]; exact (hcell j (by omega)).1, ?_⟩⟩
      have e : ((List.range len).map X).getD j [] = X j := by simp [List.getD_eq_getElem?_getD, hj]
      rw [e]
      exact (hX j hj).1
    · have := hw2.1
      rw [bytesSl] at this
      simp only [List.length_map, List.length_range, reachBytes] at this ⊢
      omega
    · obtain ⟨i, hi, rfl⟩ := List.mem_map.1 hxs
      exact (hX i (by simpa using hi)).2
end
end Go.Proofs.YtmfpkoegpoboiabDoor
