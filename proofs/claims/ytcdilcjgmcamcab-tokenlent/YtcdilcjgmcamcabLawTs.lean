/- An argument that is a slice of texts, opened. -/
import Derived.Test.YtcdilcjgmcamcabLawTk
import Derived.Test.YtcdilcjgmcamcabTkLp
namespace Go.Proofs.Ytcdilcjgmcamcab
open Go.ChangeShapes Go.WideShapes Go.ChangeAt Go.RowKit

section
variable {H : Type} {enc : TypeId × Value → H}
/-- An argument that is a slice of texts. -/
theorem open_isS {W : World} {base : Nat} {v : Value} {d : DataW H} {p : List MemPlace} (hv : Value.okWide Try.prog W .any base 42 v) (h : DataW.Trod enc Try.prog W 0 (fun _ => true) true 42 v d p) : ∃ l, IsS W v l := by
  obtain ⟨a, len, cap, rfl⟩ := okWide_slice Try.underlying42 hv
  obtain ⟨fuel, hf⟩ := h
  rcases Go.Deep.open_strs Try.underlying42 Try.underlying9 cellsS hf with ⟨hcs, _⟩ | ⟨ad, len', cap', m, Sx, hcs, _, hl, hm, hmm, _, hcell⟩
  · simp [Value.cells] at hcs
    obtain ⟨rfl, rfl, rfl⟩ := hcs
    exact ⟨[], IsS.nil W⟩
  · simp [Value.cells] at hcs
    obtain ⟨rfl, rfl, rfl⟩ := hcs
    simp only [if_true] at hmm
    subst hmm
    have hlen : ((List.range len).map Sx).length = len := by simp
    refine ⟨(List.range len).map Sx, some ad, m, by rw [hlen], by omega, by simpa [maxLen] using hm, fun h => (by cases h), fun hp => ?_⟩
    rw [hlen] at hp
    obtain ⟨b, off, rfl⟩ : ∃ b off, ad = ⟨b, off, none⟩ := by
      have h0 := (hcell 0 (by omega)).1
      obtain ⟨b, off, spot⟩ := ad
      have hspot : spot = none := by simpa [Addr.add] using World.cell?_spot h0
      subst hspot
      exact ⟨b, off, rfl⟩
    refine ⟨b, off, rfl, fun j hj => ?_⟩
    rw [hlen] at hj
    have := (hcell j (by omega)).1
    rw [Addr.add_lit] at this
    rw [this, List.getD_eq_getElem?_getD, List.getElem?_map, List.getElem?_range hj]
    rfl

end
end Go.Proofs.Ytcdilcjgmcamcab
