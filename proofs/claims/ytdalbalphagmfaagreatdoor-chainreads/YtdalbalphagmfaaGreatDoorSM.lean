/- The document's Free, TakeAll, Take. The program's words and the document's list beside one another: pure facts. The document's Take, Copy. The document's Copy. chain: two writers over one space, stepped by turns, and a reader behind one of them. -/
import Derived.Test.YtdalbalphagmfaaGreatDoorSH
import Derived.Test.YtdalbalphagmfaaGreatDoorSG
import Derived.Test.YtdalbalphagmfaaGreatDoorQT
import Derived.Deep.AppendLies
namespace Go.Proofs.YtdalbalphagmfaaGreatDoor
open Go.RowKit

end Go.Proofs.YtdalbalphagmfaaGreatDoor

namespace Go.Proofs.YtdalbalphagmfaaGreatDoor
open Go.RowKit

theorem Tw.all {fr to_ : Nat} {ws : List Nat} {bs : List Bool} (h : Tw fr to_ ws bs) {w : World} {B g gw : Nat} (hs : Sp w B g gw fr to_ ws) : allR fr bs = allF fr 0 ws := by
 rw [hs.all]
 unfold allR setR setB
 rw [h.len]
 congr 1
 exact List.filter_congr fun i hi => by rw [h.at_ i (List.mem_range.1 hi)]
end Go.Proofs.YtdalbalphagmfaaGreatDoor

namespace Go.Proofs.YtdalbalphagmfaaGreatDoor
open Go.RowKit

end Go.Proofs.YtdalbalphagmfaaGreatDoor

namespace Go.Proofs.YtdalbalphagmfaaGreatDoor
open Go.RowKit

end Go.Proofs.YtdalbalphagmfaaGreatDoor

namespace Go.Proofs.YtdalbalphagmfaaGreatDoor
open Go.RowKit Go.Maps

theorem done_calls {w : World} {g : Nat} {dn : Int} (h36 : w.cell? ⟨g, 36, none⟩ = some (.int .i64 dn)) : Calls Tryz.prog 65 #[.pointer (some ⟨g, 0, none⟩)] w fun e w' => e = .returned (.int .i64 dn) ∧ w' = w := by
 go_enter Tryz.func65, Tryz.ntmps65
 go_wp2
 go_ret
 exact ⟨rfl, rfl⟩
theorem done_enter (v : Value) (W : World) : (callFunc 65 #[v]).run Tryz.prog W = .ok (.enter 65 #[v]) W := by kernel_rfl
theorem Wr.done {w : World} {p pw gn cn : Nat} {rv : Value} {bs : List Int} {ks : List Nat} {j : Nat} (h : Wr w p pw gn cn rv bs ks j) : Calls Tryz.prog 65 #[.pointer (some ⟨pw, 0, none⟩)] w fun e w' => e = .returned (.int .i64 (j : Int)) ∧ w' = w := by
 obtain ⟨_, _, _, _, hV36, _⟩ := writerV_cells (p := p) (shaOf_len bs) ((ks.getD 0 0 : Nat) : Int) (bs.length : Int) (.slice (some ⟨gn, 0, none⟩) ks.length cn) (j : Int) rv
 exact done_calls (arr_cell h.arr hV36)
theorem Wr.pos {w : World} {p pw gn cn : Nat} {rv : Value} {bs : List Int} {ks : List Nat} {j : Nat} (h : Wr w p pw gn cn rv bs ks j) : 1 ≤ ks.length ∧ ks.length ≤ 2185 := by
 have h1 := h.cnt
 have h2 := h.len
 have h3 := secN_hi (bs.length : Int)
 refine ⟨?_, by omega⟩
 unfold secN at h1
 rw [if_neg (by omega), if_neg (by omega)] at h1
 omega
end Go.Proofs.YtdalbalphagmfaaGreatDoor
