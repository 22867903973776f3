/- An argument that is a slice of slices of bytes, opened, with the second form's bound. -/
import Derived.Test.YtmfpkoegpoboiabDoorDeeps
namespace Go.Proofs.YtmfpkoegpoboiabDoor
open Go.ChangeShapes Go.WideShapes Go.ChangeAt Go.RowKit Go.Deep
section
variable {H : Type} {enc : TypeId × Value → H}
theorem bulk_flat (X : Nat → List Int) (D : Nat → DataW H) : ∀ l : List Nat, (∀ i ∈ l, (X i).length ≤ Rows.uptoBulk (D i)) → (l.map X).flatten.length ≤ Rows.uptoBulkAll (l.map D)
  | [], _ => by simp
  | i :: l, h => by
    have h1 := h i (by simp)
    have h2 := bulk_flat X D l (fun j hj => h j (by simp [hj]))
    simp only [List.map_cons, List.flatten_cons, List.length_append, Rows.uptoBulkAll]
    omega
theorem open_bytess_u {W : World} {base : Nat} {v : Value} {d : DataW H} {p : List MemPlace} (hv : Value.okWide Tryd.prog W .any base 37 v) (h : DataW.Trod enc Tryd.prog W 0 (fun _ => true) true 37 v d p) :
    ∃ xss, IsBB W v xss ∧ (∀ xs ∈ xss, ∀ x ∈ xs, 0 ≤ x ∧ x ≤ 255) ∧ xss.flatten.length ≤ Rows.uptoBulk d := by
  obtain ⟨a, len, cap, rfl⟩ := okWide_slice Tryd.underlying37 hv
  obtain ⟨fuel, hf⟩ := h
  rcases open_slice1 Tryd.underlying37 cellsSl hf with ⟨hcs, hx⟩ | ⟨ad, len', cap', m, n, V, D, Pl, hcs, _, hl, hm, hmm, hx, hcell⟩
  · simp [Value.cells] at hcs
    obtain ⟨rfl, rfl, rfl⟩ := hcs
    exact ⟨[], ⟨none, 0, rfl, by simp, by omega, fun h => by simp at h⟩, by simp, by simp⟩
  · simp [Value.cells] at hcs
    obtain ⟨rfl, rfl, rfl⟩ := hcs
    simp only [if_true] at hmm
    obtain rfl := hmm.symm
    simp only [Prod.mk.injEq] at hx
    obtain ⟨rfl, _⟩ := hx
    obtain ⟨X, hX⟩ := choose_lt (α := List Int) (n := len) (p := fun i xs => IsB W (V i) xs ∧ xs.length ≤ Rows.uptoBulk (D i)) (fun i hi => by
      obtain ⟨xs, h1, h2⟩ := open_bytes1 (hcell i (by omega)).2
      refine ⟨xs, h1, ?_⟩
      rcases h2 with rfl | ⟨spare, h2⟩
      · simp
      · have h3 : D i = .slice (lits .u8 xs) spare := h2
        rw [h3]
        simp only [Rows.uptoBulk, upto_lits]
        omega)
    have hlen : ((List.range len).map X).length = len := by simp
    refine ⟨(List.range len).map X, ⟨some ad, cap, by rw [hlen], by omega, by simpa [maxLen] using hm, fun hp => ?_⟩, fun xs hxs => ?_, ?_⟩
    · rw [hlen] at hp ⊢
      obtain ⟨b, off, spot⟩ := ad
      have hspot : spot = none := by simpa [Addr.add] using World.cell?_spot (hcell 0 (by omega)).1
      subst hspot
      refine ⟨b, off, rfl, fun j hj => ⟨V j, by rw [← Go.WideShapes.add_plain]; exact (hcell j (by omega)).1, ?_⟩⟩
      have e : ((List.range len).map X).getD j [] = X j := by simp [List.getD_eq_getElem?_getD, hj]
      rw [e]
      exact (hX j hj).1
    · obtain ⟨i, hi, rfl⟩ := List.mem_map.1 hxs
      exact (hX i (by simpa using hi)).1.mem
    · have h1 := bulk_flat X D (List.range len) (fun i hi => (hX i (by simpa using hi)).2)
      simp only [Rows.uptoBulk]
      omega
end
end Go.Proofs.YtmfpkoegpoboiabDoor
