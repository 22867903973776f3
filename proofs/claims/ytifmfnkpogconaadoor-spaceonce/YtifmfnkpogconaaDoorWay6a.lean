/- What SpaceWay and SpaceOnce share. -/
import Derived.Test.YtifmfnkpogconaaDoorWay5
namespace Go.Proofs.YtifmfnkpogconaaDoor
open Go.RowKit

theorem infoBo : (Tryd.prog.info? 4).map (fun i => (i.zero, i.size, i.bytes)) = some (some (.bool false), 1, 1) := by kernel_rfl
/-- The cells of a script, in each later world. -/
theorem IsOps.cells {w : World} {v : Value} {os : List OpI} (h : IsOps w v os) : ∃ a c, v = .slice a os.length c ∧ os.length ≤ c ∧ c ≤ 9223372036854775807 ∧ ∀ W, Below w.heap.size w W → ∀ k, k < os.length → ∃ b off, a = some ⟨b, off, none⟩ ∧ W.cell? ⟨b, off + k * 3, none⟩ = some (.int .i64 (os.getD k .nul).K) ∧ W.cell? ⟨b, off + k * 3 + 1, none⟩ = some (.int .i64 (os.getD k .nul).O) ∧ W.cell? ⟨b, off + k * 3 + 2, none⟩ = some (.int .i64 (os.getD k .nul).N) := by
  obtain ⟨av, cv, hvv, hvc, hvm, hvo⟩ := h.val
  refine ⟨av, cv, hvv, hvc, hvm, fun W hW k hk => ?_⟩
  obtain ⟨b, off, e1, e2⟩ := hvo (by omega)
  obtain ⟨f1, f2, f3⟩ := e2 k hk
  exact ⟨b, off, e1, (hW.cell (p := ⟨b, _, none⟩) (World.block_lt_of_cell? _ _ f1)).trans f1, (hW.cell (p := ⟨b, _, none⟩) (World.block_lt_of_cell? _ _ f2)).trans f2, (hW.cell (p := ⟨b, _, none⟩) (World.block_lt_of_cell? _ _ f3)).trans f3⟩
end Go.Proofs.YtifmfnkpogconaaDoor
