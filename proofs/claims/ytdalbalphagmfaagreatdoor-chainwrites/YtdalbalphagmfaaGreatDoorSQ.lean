/- chain's statements: a scene that was laid, under a walk. -/
import Derived.Test.YtdalbalphagmfaaGreatDoorSO
import Derived.Test.YtdalbalphagmfaaGreatDoorSK
import Derived.Test.YtdalbalphagmfaaGreatDoorRL
namespace Go.Proofs.YtdalbalphagmfaaGreatDoor
open Go.RowKit Go.Maps

theorem IsSpots.belowW {w w' : World} {v : Value} {l : List (Int × List Int)} (h : IsSpots w v l) (hb : Below w.heap.size w w') : IsSpots w' v l := by
 obtain ⟨a, cap, e, h1, h2, h3⟩ := h.val
 refine ⟨a, cap, e, h1, h2, fun hp => ?_⟩
 obtain ⟨b, off, q1, q2⟩ := h3 hp
 refine ⟨b, off, q1, fun j hj => ?_⟩
 obtain ⟨q3, u, q4, q5⟩ := q2 j hj
 exact ⟨bkeptC hb q3, u, bkeptC hb q4, q5.below hb⟩
theorem isT_belowW {w w' : World} {v : Value} {l : List Int} (h : IsT w v l) (hb : Below w.heap.size w w') : IsT w' v l := by
 obtain ⟨a, cap, e, h1, h2, h3⟩ := h.val
 refine ⟨a, cap, e, h1, h2, fun hp => ?_⟩
 obtain ⟨b, off, q1, q2⟩ := h3 hp
 exact ⟨b, off, q1, fun j hj => bkeptC hb (q2 j hj)⟩
theorem lies_enter (v : Value) (W : World) : (callFunc 8 #[v]).run Tryz.prog W = .ok (.enter 8 #[v]) W := by kernel_rfl
theorem started_enterW (W : World) : (callFunc 9 #[]).run Tryz.prog W = .ok (.enter 9 #[]) W := by kernel_rfl
theorem now0 {ims : List (List Int)} {n : Nat} (hn : ims.length = n) (i : Nat) (hi : i < n) : (⟨ims, fun _ => [], 0, 0, 0⟩ : AD).now i = ims.getD i [] := by
 show ims.getD i zsec = ims.getD i []
 rw [List.getD_eq_getElem?_getD, List.getD_eq_getElem?_getD, List.getElem?_eq_getElem (by omega)]
 rfl
/-- A scene that was laid. -/
theorem Ld.bc {w W : World} {B gx : Nat} {SC : List Value} {ims : List (List Int)} {p gl gm m1 g gw m2 gr gb fr to_ n : Nat} {V : Nat → Value} {ws : List Nat} {bl : List Bool} (h : Ld w B gx SC W ims p gl gm V m1 g gw m2 gr gb fr to_ ws bl) (hn : ims.length = n) (h0 : 0 < n) (hT : TT W) : ∃ ga ca us, Bc W gx ga ca n us ims p gl gm V ⟨ims, fun _ => [], 0, 0, 0⟩ g gr B ∧ B ≤ ga := by
 obtain ⟨ga, c, us, _, hI, hA⟩ := h.l6.image hn h0
 refine ⟨ga, c, us, ⟨hA, hI.ig, hn, h.dk, hn, hT⟩, ?_⟩
 exact (row_blk hI.own (g := ga) rfl).1
end Go.Proofs.YtdalbalphagmfaaGreatDoor
