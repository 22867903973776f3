/- The document's words behind one block. -/
import Derived.Test.YtlofoklfggmbiaaDoorQX
import Derived.Test.YtlofoklfggmbiaaDoorQL
namespace Go.Proofs.YtlofoklfggmbiaaDoor
open Go.RowKit

/-- The j-th word. -/
def H8.at_ (s : H8) (j : Nat) : Int := [s.a, s.b, s.c, s.d, s.e, s.f, s.g, s.h].getD j 0
theorem H8.vals_at (s : H8) : ∀ j, j < 8 → s.vals[j]? = some (.int .u32 (s.at_ j))
 | 0, _ => rfl | 1, _ => rfl | 2, _ => rfl | 3, _ => rfl | 4, _ => rfl | 5, _ => rfl | 6, _ => rfl | 7, _ => rfl
 | _ + 8, h => by omega
end Go.Proofs.YtlofoklfggmbiaaDoor
