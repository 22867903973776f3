/- What the row's list gives: SHA-256's two tables lie in memory as the program's text lays them. -/
import Derived.Test.YtmnmnepiikeomaaDoorLawC
import Derived.Test.YtmnmnepiikeomaaDoorShaNew
import Derived.Stop.LaidErr
namespace Go.Proofs.YtmnmnepiikeomaaDoor
open Go.ChangeShapes Go.WideShapes Go.ChangeAt Go.RowKit

theorem cells32 : Tryd.prog.cellsOf 55 = 1 := by kernel_rfl
theorem cellsS : Tryd.prog.cellsOf 61 = 8 := by kernel_rfl
theorem cellsK : Tryd.prog.cellsOf 57 = 64 := by kernel_rfl
theorem gS : Tryd.prog.globalNamed "kiln/sha.startWords" = some 0 := by kernel_rfl
theorem gK : Tryd.prog.globalNamed "kiln/sha.roundWords" = some 1 := by kernel_rfl
theorem gSType : (Tryd.prog.globals[0]?).map (·.type) = some 61 := by kernel_rfl
theorem gKType : (Tryd.prog.globals[1]?).map (·.type) = some 57 := by kernel_rfl
def sTab : List Int := [1779033703, 3144134277, 1013904242, 2773480762, 1359893119, 2600822924, 528734635, 1541459225]
theorem tabS_of {W : World} (h : laidMetH Tryd.prog [("kiln/sha.startWords", Rows.laid_kiln_sha_startWords), ("kiln/sha.roundWords", Rows.laid_kiln_sha_roundWords)] W) : TabS W := by
  have ht : Lib.TabIs Tryd.prog W "kiln/sha.startWords" .u32 sTab := Lib.tabIs_of_head gS gSType Tryd.underlying61 Tryd.underlying55 cells32 cellsS h
  intro i hi
  have h1 := ht.cell gS i hi
  rw [h1]
  have hl : i < sTab.length := hi
  rcases (show i = 0 ∨ i = 1 ∨ i = 2 ∨ i = 3 ∨ i = 4 ∨ i = 5 ∨ i = 6 ∨ i = 7 by omega) with rfl | rfl | rfl | rfl | rfl | rfl | rfl | rfl <;> rfl
theorem tabK_of {W : World} (h : laidMetH Tryd.prog [("kiln/sha.startWords", Rows.laid_kiln_sha_startWords), ("kiln/sha.roundWords", Rows.laid_kiln_sha_roundWords)] W) : TabK W := by
  have h2 : laidMet Tryd.prog [("kiln/sha.startWords", Rows.laid_kiln_sha_startWords), ("kiln/sha.roundWords", Rows.laid_kiln_sha_roundWords)] W := h
  have h3 := laidMet.tail h2
  have ht : Lib.TabIs Tryd.prog W "kiln/sha.roundWords" .u32 kTab := Lib.tabIs_of_head gK gKType Tryd.underlying57 Tryd.underlying55 cells32 cellsK h3
  intro i hi
  exact ht.cell gK i hi
end Go.Proofs.YtmnmnepiikeomaaDoor
