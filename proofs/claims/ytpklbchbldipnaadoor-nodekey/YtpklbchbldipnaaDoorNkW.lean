/- NodeKey: the walk. -/
import Derived.Test.YtpklbchbldipnaaDoorNkWax
import Derived.Test.YtpklbchbldipnaaDoorNkWay
import Derived.Test.YtpklbchbldipnaaDoorNkWbx
import Derived.Test.YtpklbchbldipnaaDoorNkWby
import Derived.Test.YtpklbchbldipnaaDoorNkWcx
import Derived.Test.YtpklbchbldipnaaDoorNkWcy
import Derived.Test.YtpklbchbldipnaaDoorNkWdx
import Derived.Test.YtpklbchbldipnaaDoorNkWdy
namespace Go.Proofs.YtpklbchbldipnaaDoor
open Go.RowKit Go.Maps Classical

theorem nodeKey_walk {w : World} {v vr : Value} {l0 : List Ent} {rs : List Rf} {x y z : Int} (hx : -9223372036854775808 ≤ x ∧ x ≤ 9223372036854775807) (hy : -9223372036854775808 ≤ y ∧ y ≤ 9223372036854775807) (h : IsEn w v l0) (hR : IsRf w vr rs) (hT : Tabs w) : Calls Tryd.prog 8 #[v, vr, .int .i64 x, .int .i64 y, .int .i64 z] w fun e w' => e = .returned (.bool true) ∧ Below w.heap.size w w' := by
  by_cases hxy : (l0.take 1100).length ≤ rs.length
  · by_cases h0 : y.tmod 4 = 0
    · exact nodeKey_walk_ax hx hy h hR hT h0 hxy
    · by_cases h1 : y.tmod 4 = 1
      · exact nodeKey_walk_bx hx hy h hR hT h1 hxy
      · by_cases h2 : y.tmod 4 = 2
        · exact nodeKey_walk_cx hx hy h hR hT h2 hxy
        · exact nodeKey_walk_dx hx hy h hR hT ⟨h0, h1, h2⟩ hxy
  · by_cases h0 : y.tmod 4 = 0
    · exact nodeKey_walk_ay hx hy h hR hT h0 (by omega)
    · by_cases h1 : y.tmod 4 = 1
      · exact nodeKey_walk_by hx hy h hR hT h1 (by omega)
      · by_cases h2 : y.tmod 4 = 2
        · exact nodeKey_walk_cy hx hy h hR hT h2 (by omega)
        · exact nodeKey_walk_dy hx hy h hR hT ⟨h0, h1, h2⟩ (by omega)
end Go.Proofs.YtpklbchbldipnaaDoor
