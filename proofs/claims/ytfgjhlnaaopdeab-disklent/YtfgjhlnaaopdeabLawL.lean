/- An argument that is a list of numbers, opened, with how many there may be. -/
import Derived.Test.YtfgjhlnaaopdeabLawNB
import Derived.Test.YtfgjhlnaaopdeabInts
namespace Go.Proofs.Ytfgjhlnaaopdeab
open Go.ChangeShapes Go.WideShapes Go.ChangeAt Go.RowKit Go.Deep

theorem cellsI : Try.prog.cellsOf 3 = 1 := by kernel_rfl
theorem bytesI : Try.prog.bytesOf 3 = 8 := by kernel_rfl
section
variable {H : Type} {enc : TypeId × Value → H}
theorem weights_slice {t e : TypeId} {elems spare : List (DataW H)} (ht : Try.prog.underlying t = some (.slice e)) (hw : ∀ n ∈ (DataW.slice elems spare).weights Try.prog t, n ≤ reachBytes) :
    (elems.length + spare.length) * Try.prog.bytesOf e ≤ reachBytes := by
  simp only [DataW.weights, ht] at hw
  exact hw _ (by simp)
theorem weights_of {ts : List TypeId} {ds : List (DataW H)} (hsz : (DataW.weightsEach Try.prog ts ds).all (· ≤ reachBytes) = true) {j : Nat} {t : TypeId} {d : DataW H} (ht : ts[j]? = some t) (hd : ds[j]? = some d) :
    ∀ n ∈ d.weights Try.prog t, n ≤ reachBytes := fun n hn => by
  simpa using List.all_eq_true.1 hsz n (DataW.weights_mem_each ht hd n hn)
set_option maxRecDepth 100000 in
theorem open_bytesD {W : World} {base : Nat} {v : Value} {d : DataW H} {p : List MemPlace} (hv : Value.okWide Try.prog W .any base 23 v) (h : DataW.Trod enc Try.prog W 0 (fun _ => true) true 23 v d p) : ∃ xs, IsB W v xs := by
  obtain ⟨xs, h1, _⟩ := open_bytes hv h
  exact ⟨xs, h1⟩
set_option maxRecDepth 100000 in
theorem open_isIw {W : World} {base : Nat} {v : Value} {d : DataW H} {p : List MemPlace} (hv : Value.okWide Try.prog W .any base 40 v) (h : DataW.Trod enc Try.prog W 0 (fun _ => true) true 40 v d p) (hw : ∀ n ∈ d.weights Try.prog 40, n ≤ reachBytes) :
    ∃ cs, IsI W v cs ∧ (∀ n c, v = .slice none n c → c = 0) ∧ cs.length * 8 ≤ 140737488351232 := by
  obtain ⟨a, len, cap, rfl⟩ := okWide_slice Try.underlying40 hv
  obtain ⟨fuel, hf⟩ := h
  rcases open_ints Try.underlying40 Try.underlying3 cellsI hf with ⟨hcs, hx⟩ | ⟨ad, len', cap', zs, hcs, _, hl, hm, hz, hx, hcell, hwz⟩
  · simp [Value.cells] at hcs
    obtain ⟨rfl, rfl, rfl⟩ := hcs
    exact ⟨[], ⟨by simp, none, 0, rfl, by simp, by omega, fun h => by simp at h⟩, fun n c h => by cases h; rfl, by simp⟩
  · simp [Value.cells] at hcs
    obtain ⟨rfl, rfl, rfl⟩ := hcs
    simp only [if_true] at hz
    have hlen : (zs.take len).length = len := by simp; omega
    refine ⟨zs.take len, ⟨?_, some ad, cap, by rw [hlen], by omega, by simpa [maxLen] using hm, ?_⟩, (fun n c h => by cases h), ?_⟩
    · intro x hxm
      have := bounds_i64 (hwz x (List.mem_of_mem_take hxm))
      constructor <;> omega
    · intro hp
      obtain ⟨b, off, rfl, hc⟩ := ints_at hcell (by omega)
      refine ⟨b, off, rfl, fun j hj => ?_⟩
      rw [hc j (by omega), List.getD_eq_getElem?_getD, List.getD_eq_getElem?_getD, List.getElem?_take_of_lt (by omega)]
    · injection hx with hx
      subst hx
      have := weights_slice Try.underlying40 hw
      rw [bytesI] at this
      simp only [lits, List.length_map, reachBytes] at this
      omega
end
end Go.Proofs.Ytfgjhlnaaopdeab
