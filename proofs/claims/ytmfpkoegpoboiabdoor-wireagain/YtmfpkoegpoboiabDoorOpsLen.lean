/- How many calls a slice of calls can have, by the form's own reach. -/
import Derived.Test.YtmfpkoegpoboiabDoorOps
namespace Go.Proofs.YtmfpkoegpoboiabDoor
open Go.ChangeShapes Go.WideShapes Go.ChangeAt Go.RowKit Go.Deep

section
variable {H : Type} {enc : TypeId × Value → H}
theorem bytesOp : 1 ≤ Tryd.prog.bytesOf 56 := by decide +kernel
theorem ops_len {W : World} {base : Nat} {v : Value} {d : DataW H} {p : List MemPlace} (hv : Value.okWide Tryd.prog W .any base 50 v) (h : DataW.Trod enc Tryd.prog W 0 (fun _ => true) true 50 v d p)
    (hw : ∀ n ∈ d.weights Tryd.prog 50, n ≤ reachBytes) {os : List OpF} (ho : IsOps W v os) : os.length ≤ 140737488351232 := by
  obtain ⟨a2, cap2, hv2, _⟩ := ho.val
  obtain ⟨a, len, cap, rfl⟩ := okWide_slice Tryd.underlying50 hv
  injection hv2 with _ e2 _
  rw [← e2]
  obtain ⟨fuel, hf⟩ := h
  rcases open_slice Tryd.underlying50 hf with ⟨hcs, hx⟩ | ⟨ad, len', cap', m, n, D, Pl, hcs, _, hl, hm, hmm, hx, hcell⟩
  · simp [Value.cells] at hcs
    omega
  · simp [Value.cells] at hcs
    obtain ⟨rfl, rfl, rfl⟩ := hcs
    simp only [Prod.mk.injEq] at hx
    obtain ⟨rfl, _⟩ := hx
    have hw2 := (weights_slice Tryd.underlying50 hw).1
    simp only [List.length_map, List.length_range] at hw2
    have h3 := Nat.le_trans (Nat.le_mul_of_pos_right _ bytesOp) hw2
    have h4 : reachBytes = 140737488351232 := rfl
    rw [h4] at h3
    omega
end
end Go.Proofs.YtmfpkoegpoboiabDoor
