/- An argument that is one write, opened. -/
import Derived.Test.YtfgjhlnaaopdeabLawW
namespace Go.Proofs.Ytfgjhlnaaopdeab
open Go.ChangeShapes Go.WideShapes Go.ChangeAt Go.RowKit Go.Deep

section
variable {H : Type} {enc : TypeId × Value → H}
set_option maxRecDepth 100000 in
theorem open_wv {W : World} {base : Nat} {v : Value} {d : DataW H} {p : List MemPlace} (hv : Value.okWide Try.prog W .any base 25 v) (h : DataW.Trod enc Try.prog W 0 (fun _ => true) true 25 v d p) : ∃ (i : Int) (u : Value) (s : List Int), v = .agg #[.int .i64 i, u] ∧ IsB W u s := by
  obtain ⟨cs, rfl⟩ : ∃ cs, v = .agg cs := by
    unfold Value.okWide at hv
    rw [Try.underlying25] at hv
    obtain ⟨cs, h1, _⟩ := hv
    exact ⟨cs, h1⟩
  obtain ⟨fuel, hf⟩ := h
  obtain ⟨i, u, s, hcs, hB⟩ := open_w hf
  refine ⟨i, u, s, ?_, hB⟩
  have : cs = #[.int .i64 i, u] := by
    apply Array.toList_inj.1
    exact hcs
  rw [this]
end
end Go.Proofs.Ytfgjhlnaaopdeab
