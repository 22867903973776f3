/- Arguments that are lists of lists of writes, or bytes, opened. -/
import Derived.Test.YtfgjhlnaaopdeaaLawW
import Derived.Test.YtfgjhlnaaopdeaaOtH
namespace Go.Proofs.Ytfgjhlnaaopdeaa
open Go.ChangeShapes Go.WideShapes Go.ChangeAt Go.RowKit Go.Deep

section
variable {H : Type} {enc : TypeId × Value → H}
theorem cellsWs : Try.prog.cellsOf 51 = 1 := by kernel_rfl
set_option maxRecDepth 100000 in
theorem open_wss {W : World} {base : Nat} {v : Value} {d : DataW H} {p : List MemPlace} (hv : Value.okWide Try.prog W .any base 65 v) (h : DataW.Trod enc Try.prog W 0 (fun _ => true) true 65 v d p) : ∃ ls, IsWrs W v ls := by
  obtain ⟨a, len, cap, rfl⟩ := okWide_slice Try.underlying65 hv
  obtain ⟨fuel, hf⟩ := h
  rcases open_slice1 Try.underlying65 cellsWs hf with ⟨hcs, hx⟩ | ⟨ad, len', cap', m, n, V, D, Pl, hcs, _, hl, hm, hmm, hx, hcell⟩
  · simp [Value.cells] at hcs
    obtain ⟨rfl, rfl, rfl⟩ := hcs
    exact ⟨[], ⟨none, 0, rfl, by simp, by omega, fun h => by simp at h⟩⟩
  · simp [Value.cells] at hcs
    obtain ⟨rfl, rfl, rfl⟩ := hcs
    simp only [if_true] at hmm
    obtain rfl := hmm.symm
    obtain ⟨X, hX⟩ := choose_lt (α := Ats) (n := len) (p := fun i l => IsWr W (V i) l) (fun i hi => open_ws1 (hcell i (by omega)).2)
    have hlen : ((List.range len).map X).length = len := by simp
    refine ⟨(List.range len).map X, ⟨some ad, cap, by rw [hlen], by omega, by simpa [maxLen] using hm, fun hp => ?_⟩⟩
    rw [hlen] at hp ⊢
    obtain ⟨b, off, spot⟩ := ad
    have hspot : spot = none := by simpa [Addr.add] using World.cell?_spot (hcell 0 (by omega)).1
    subst hspot
    refine ⟨b, off, rfl, fun j hj => ⟨V j, by rw [← Go.WideShapes.add_plain]; exact (hcell j (by omega)).1, ?_⟩⟩
    have e : ((List.range len).map X).getD j [] = X j := by simp [List.getD_eq_getElem?_getD, hj]
    rw [e]
    exact hX j hj
set_option maxRecDepth 100000 in
theorem open_bytesD {W : World} {base : Nat} {v : Value} {d : DataW H} {p : List MemPlace} (hv : Value.okWide Try.prog W .any base 27 v) (h : DataW.Trod enc Try.prog W 0 (fun _ => true) true 27 v d p) : ∃ xs, IsB W v xs := by
  obtain ⟨xs, h1, _⟩ := open_bytes hv h
  exact ⟨xs, h1⟩
end
end Go.Proofs.Ytfgjhlnaaopdeaa
