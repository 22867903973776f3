/- among: what it was, or one of the writes to that sector. -/
import Derived.Test.YtfgjhlnaaopdeabOtJ
namespace Go.Proofs.Ytfgjhlnaaopdeab
open Go.RowKit Go.Maps

theorem drewn_b (w : World) (n : Nat) : Below w.heap.size w (w.drewN n) := ⟨rfl, rfl, rfl, Nat.le_refl _, fun _ _ => rfl⟩
end Go.Proofs.Ytfgjhlnaaopdeab
