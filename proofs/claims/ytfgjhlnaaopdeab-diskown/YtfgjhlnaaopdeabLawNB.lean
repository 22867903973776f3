/- An argument that is a slice of slices of bytes, opened. -/
import Derived.Test.YtfgjhlnaaopdeabLawN
import Derived.Test.YtfgjhlnaaopdeabBB
import Derived.Deep.Slices
namespace Go.Proofs.Ytfgjhlnaaopdeab
open Go.ChangeShapes Go.WideShapes Go.ChangeAt Go.RowKit Go.Deep
section
variable {H : Type} {enc : TypeId × Value → H}

theorem cellsSl : Try.prog.cellsOf 23 = 1 := by kernel_rfl
/-- A slice of bytes, wherever it lies. -/
theorem open_bytes1 {W : World} {fuel : Nat} {v : Value} {x : DataW H × List MemPlace} (hf : DataW.trod enc Try.prog W 0 (fun _ => true) true fuel 23 [v] = some x) :
    ∃ xs, IsB W v xs ∧ (xs = [] ∨ ∃ spare, x.1 = .slice (lits .u8 xs) spare) := by
  rcases open_ints Try.underlying23 Try.underlying5 cells8 hf with ⟨hcs, hx⟩ | ⟨ad, len, cap, zs, hcs, _, hl, hm, hz, hx, hcell, hwz⟩
  · simp only [List.cons.injEq, and_true] at hcs
    subst hcs
    exact ⟨[], ⟨by simp, none, 0, rfl, by simp, by omega, fun _ => rfl, fun h => by simp at h⟩, Or.inl rfl⟩
  · simp only [List.cons.injEq, and_true] at hcs
    subst hcs
    simp only [if_true] at hz
    have hlen : (zs.take len).length = len := by simp; omega
    refine ⟨zs.take len, ⟨?_, some ad, cap, by rw [hlen], by omega, by simpa [maxLen] using hm, (fun h => by cases h), ?_⟩, Or.inr ⟨lits .u8 (zs.drop len), by rw [hx]⟩⟩
    · refine bytes_mem fun x hxm => ?_
      have := hwz x (List.mem_of_mem_take hxm)
      have := bounds_u8 this
      omega
    · intro hp
      obtain ⟨b, off, rfl, hc⟩ := ints_at hcell (by omega)
      refine ⟨b, off, rfl, fun j hj => ?_⟩
      rw [hc j (by omega), List.getD_eq_getElem?_getD, List.getD_eq_getElem?_getD, List.getElem?_take_of_lt (by omega)]
/-- A slice of slices of bytes. -/
theorem open_bytess1 {W : World} {fuel : Nat} {v : Value} {x : DataW H × List MemPlace} (hf : DataW.trod enc Try.prog W 0 (fun _ => true) true fuel 33 [v] = some x) :
    ∃ xss, IsBB W v xss := by
  rcases open_slice1 Try.underlying33 cellsSl hf with ⟨hcs, hx⟩ | ⟨ad, len, cap, m, n, V, D, Pl, hcs, _, hl, hm, hmm, hx, hcell⟩
  · simp only [List.cons.injEq, and_true] at hcs
    subst hcs
    exact ⟨[], isBB_nil W none 0 (by decide)⟩
  · simp only [List.cons.injEq, and_true] at hcs
    subst hcs
    simp only [if_true] at hmm
    obtain rfl := hmm.symm
    obtain ⟨X, hX⟩ := choose_lt (α := List Int) (n := len) (p := fun i xs => IsB W (V i) xs) (fun i hi => by
      obtain ⟨xs, h1, _⟩ := open_bytes1 (hcell i (by omega)).2
      exact ⟨xs, h1⟩)
    have hlen : ((List.range len).map X).length = len := by simp
    refine ⟨(List.range len).map X, ⟨some ad, cap, by rw [hlen], by omega, by simpa [maxLen] using hm, fun hp => ?_⟩⟩
    rw [hlen] at hp ⊢
    obtain ⟨b, off, spot⟩ := ad
    have hspot : spot = none := by simpa [Addr.add] using World.cell?_spot (hcell 0 (by omega)).1
    subst hspot
    refine ⟨b, off, rfl, fun j hj => ⟨V j, by rw [← Go.WideShapes.add_plain]; exact (hcell j (by omega)).1, ?_⟩⟩
    have e : ((List.range len).map X).getD j [] = X j := by simp [List.getD_eq_getElem?_getD, hj]
    rw [e]
    exact hX j hj
set_option maxRecDepth 100000 in
/-- An argument that is a slice of slices of bytes. -/
theorem open_bytess {W : World} {base : Nat} {v : Value} {d : DataW H} {p : List MemPlace} (hv : Value.okWide Try.prog W .any base 33 v) (h : DataW.Trod enc Try.prog W 0 (fun _ => true) true 33 v d p) : ∃ xss, IsBB W v xss := by
  obtain ⟨a, len, cap, rfl⟩ := okWide_slice Try.underlying33 hv
  obtain ⟨fuel, hf⟩ := h
  exact open_bytess1 hf
end
end Go.Proofs.Ytfgjhlnaaopdeab
