/- chain: the document's Next and Sound. chain: the document's Sound; a copy with room behind it. -/
import Derived.Test.YtdalbalphagmfaaGreatDoorQI
namespace Go.Proofs.YtdalbalphagmfaaGreatDoor
open Go.RowKit Go.Maps

end Go.Proofs.YtdalbalphagmfaaGreatDoor

namespace Go.Proofs.YtdalbalphagmfaaGreatDoor
open Go.RowKit Go.Maps

set_option maxRecDepth 100000 in
theorem roomy6_calls {w : World} {v : Value} {xs : List Int} (h : IsB w v xs) (hl : xs.length ≤ 140737488351300) :
 Calls Tryz.prog 24 #[v] w fun e w' => ∃ u, e = .returned u ∧ Own8 w' w.heap.size u (xs ++ [201, 202, 203, 204, 205]) ∧ Below w.heap.size w w' := by
 obtain ⟨a, n, c, rfl⟩ := h.shape
 have HI := hide h
 have HO := hide (Own8.nil w w.heap.size)
 have HB := hide (Below.refl w.heap.size w)
 clear h
 have hl1 : ([] : List Int).length + xs.length ≤ 140737488355328 := by simp; omega
 have hl2 : ([] ++ xs).length + [(201 : Int), 202, 203, 204, 205].length ≤ 140737488355328 := by simp; omega
 have hs0 : w.heap.size ≤ w.heap.size := Nat.le_refl _
 go_enter Tryz.func24, Tryz.ntmps24
 go_wp2_with (first
  | (at_builtin; refine wpList_appB rfl (.tmp 4) (.tmp 5) rfl rfl HO.out rfl HI.out hl1 (Nat.le_refl _) ?_; intro v1 w1 ho1 hg1
     have hb1 := below_own8 HB.out HO.out hg1 (Nat.le_refl _)
     obtain ⟨a1, m1, c1, rfl⟩ := ho1.shape
     have hbz := (Below.refl w1.heap.size w1).alloc (Nat.le_refl _) (.cells #[.int .u8 201, .int .u8 202, .int .u8 203, .int .u8 204, .int .u8 205] 5)
     have HO2 := hide (ho1.below hbz)
     have HB2 := hide (hb1.trans (hbz.mono hb1.size))
     have hs2 : w.heap.size ≤ (w1.alloc (.cells #[.int .u8 201, .int .u8 202, .int .u8 203, .int .u8 204, .int .u8 205] 5)).heap.size := Nat.le_trans hb1.size hbz.size
     have HI2 := hide (isB_lit w1 [201, 202, 203, 204, 205] (by decide) (by decide))
     clear ho1 hg1 hb1 hbz)
  | (at_builtin; refine wpList_appB rfl (.tmp 7) (.tmp 8) rfl rfl HO2.out rfl HI2.out hl2 hs2 ?_; intro v3 w3 ho3 hg3
     have hb3 := below_own8 HB2.out HO2.out hg3 hs2
     have HE := hide (And.intro ho3 hb3)
     clear ho3 hg3 hb3 HO2 HI2 HB2))
 go_ret
 exact ⟨_, rfl, HE.out.1, HE.out.2⟩
end Go.Proofs.YtdalbalphagmfaaGreatDoor
