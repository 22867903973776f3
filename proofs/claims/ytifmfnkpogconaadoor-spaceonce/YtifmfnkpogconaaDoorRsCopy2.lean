/- The document's Copy. -/
import Derived.Test.YtifmfnkpogconaaDoorRsCopy
import Derived.Deep.AppendLies
namespace Go.Proofs.YtifmfnkpogconaaDoor
open Go.RowKit

set_option maxRecDepth 100000 in
set_option maxHeartbeats 4000000 in
theorem rcopy_calls {w : World} {B g gb fr to_ : Nat} {bs : List Bool} (h : Rs w B g gb fr to_ bs) :
    Calls Tryd.prog 37 #[.pointer (some ⟨g, 0, none⟩)] w fun e w' => ∃ g2 gb2, e = .returned (.pointer (some ⟨g2, 0, none⟩)) ∧ Rs w' w.heap.size g2 gb2 fr to_ bs ∧ w.heap.size ≤ g2 ∧ Below w.heap.size w w' := by
  obtain ⟨i0, hi, hz0, hz1, hz2⟩ := info_part infoB
  obtain ⟨c, c0, c1, c2, hLc, hcm, hne, hr', hblk, hcells⟩ := h.view
  have HC := hide hcells
  have HRG := hide h.rng
  have HLN := hide h.len
  have hpos : 0 < bs.length := by have := h.rng; have := h.len; omega
  have hmax : bs.length ≤ 65536 := by have := h.rng; have := h.len; omega
  have HR := hide hr'
  obtain ⟨L, hL⟩ : ∃ L, L = bs.length := ⟨_, rfl⟩
  rw [← hL] at c2 hLc hpos hmax
  have HL := hide hL
  clear h hcells hr' hblk hL
  go_enter Tryd.func37, Tryd.ntmps37
  go_wp2_with fail
  go_region
  have hk1 : (w.alloc (.cells #[.int .i64 (fr : Int), .int .i64 (to_ : Int), .slice none 0 0] 68)).drew.heap[w.heap.size]? = some (.cells #[.int .i64 (fr : Int), .int .i64 (to_ : Int), .slice none 0 0] 68 (0, 0)) := heap_alloc_new w _
  have hb1 : Below w.heap.size w (w.alloc (.cells #[.int .i64 (fr : Int), .int .i64 (to_ : Int), .slice none 0 0] 68)).drew := ((Below.refl _ _).alloc (Nat.le_refl _) _).drew
  generalize (w.alloc (.cells #[.int .i64 (fr : Int), .int .i64 (to_ : Int), .slice none 0 0] 68)).drew = w1 at hk1 hb1 ⊢
  have hlt1 : w.heap.size < w1.heap.size := (Array.getElem?_eq_some_iff.1 hk1).1
  have d2 : w1.cell? ⟨g, 2, none⟩ = some (.slice (some ⟨gb, 0, none⟩) L c) := (hb1.cell (p := ⟨g, 2, none⟩) (World.block_lt_of_cell? _ _ c2)).trans c2
  have d3 : w1.cell? ⟨w.heap.size, 2, none⟩ = some (.slice none 0 0) := by rw [cell_of_row w1 w.heap.size 2 _ _ _ hk1]; rfl
  have HNW : Hid (∀ W, Below w1.heap.size w1 W → ∀ j u, (bV bs)[j]? = some u → W.cell? ((⟨gb, 0, none⟩ : Addr).add j) = some u) := fun W hW j u hu => by
    have hj : j < bs.length := by
      have := (List.getElem?_eq_some_iff.1 hu).1
      rw [bV_len] at this
      exact this
    have e : w.cell? ⟨gb, j, none⟩ = some u := by
      rw [HC.out j hj]
      rw [← hu]
      simp [bV, List.getElem?_map, List.getD_eq_getElem?_getD, List.getElem?_eq_getElem hj]
    have hlt := World.block_lt_of_cell? _ _ e
    have e2 := (hb1.cell (p := ⟨gb, j, none⟩) hlt).trans e
    have e3 := (hW.cell (p := ⟨gb, j, none⟩) (World.block_lt_of_cell? _ _ e2)).trans e2
    have ea : (⟨gb, 0, none⟩ : Addr).add j = ⟨gb, j, none⟩ := by rw [Addr.add_lit, Nat.zero_add]
    rw [ea]
    exact e3
  have HX : Hid (∀ W w6, Below w1.heap.size w1 W → W.grownBy w6 (Value.slice none 0 0).ownBlock → w6.cell? ⟨w.heap.size, 2, none⟩ = some (.slice none 0 0) ∧ w6.frozen? ⟨w.heap.size, 2, none⟩ = false ∧ Hid (w6.heap[w.heap.size]? = some (.cells #[.int .i64 (fr : Int), .int .i64 (to_ : Int), .slice none 0 0] 68 (0, 0)) ∧ Below w.heap.size w w6)) := fun W w6 hW hg => by
    have e : w6.heap[w.heap.size]? = some (.cells #[.int .i64 (fr : Int), .int .i64 (to_ : Int), .slice none 0 0] 68 (0, 0)) := by
      rw [hg.block w.heap.size (Nat.lt_of_lt_of_le hlt1 hW.size) (by simp [Value.ownBlock]), hW.block _ hlt1]
      exact hk1
    refine ⟨by rw [cell_of_row w6 w.heap.size 2 _ _ _ e]; rfl, frozen_of_row w6 w.heap.size 2 _ _ e, e, ?_⟩
    exact (hb1.trans (hW.mono hb1.size)).grown hg (Nat.le_trans hb1.size hW.size) (fun b hb => by simp [Value.ownBlock] at hb)
  have HBL := hide (show (bV bs).length = L * 1 by rw [bV_len, HL.out, Nat.mul_one])
  have hsz1 := hlt1
  clear c2 c1 c0 hk1
  go_wp2_with fail
  focus (go_region_law (refine step_append_lies _ (by rfl) _ _ _ (by rfl) (w.heap.size + 1) 4 i0 _ 1 1 Tryd.underlying48 hi hz0 hz1 hz2 rfl (by omega) _ 0 [] (by rfl) (World.ownsRow_nil _ _ _ _) ⟨gb, 0, none⟩ L c (bV bs) (by rfl) HBL.out (unhide HNW _ (Below.drew (Below.refl _ _))) (by intro u hu; simp only [bV, List.mem_map] at hu; obtain ⟨b, _, rfl⟩ := hu; rfl) (by omega) (by unfold maxLen; omega) (by omega) (by simp; omega) _ rfl ?_; intro g6 c6 w6 hr6 hg6 hat6 hlt6; obtain ⟨hc66, hf66, HK6⟩ := unhide HX _ w6 (Below.drew (Below.refl _ _)) hg6))
  all_goals (
    go_wp2
    go_ret
    have hr7 : Row w6 (w.heap.size + 1) 4 (.slice (some ⟨g6, 0, none⟩) L c6) (bV bs) := by
      rw [Nat.zero_add, List.nil_append] at hr6
      unfold Row
      rw [bV_len, ← HL.out]
      exact hr6
    have hge := (hr7.lt g6 rfl).1
    obtain ⟨K1, K2⟩ := HK6.out
    have hgs := grown_sets w6 w.heap.size 2 (.slice (some ⟨g6, 0, none⟩) L c6)
    have hb7 : Below w.heap.size w (w6.setCell ⟨w.heap.size, 2, none⟩ (.slice (some ⟨g6, 0, none⟩) L c6)) := K2.grown hgs K2.size (fun b hb => by injection hb with hb; omega)
    have hd := (Below.refl (w6.setCell ⟨w.heap.size, 2, none⟩ (.slice (some ⟨g6, 0, none⟩) L c6)).heap.size (w6.setCell ⟨w.heap.size, 2, none⟩ (.slice (some ⟨g6, 0, none⟩) L c6))).drew
    have hrs : Rs (w6.setCell ⟨w.heap.size, 2, none⟩ (.slice (some ⟨g6, 0, none⟩) L c6)) w.heap.size w.heap.size g6 fr to_ bs := by
      refine ⟨⟨c6, ?_, ?_⟩, HRG.out, HLN.out⟩
      · rw [heap_setCell_same w6 w.heap.size 2 _ _ _ K1, ← HL.out]
        rfl
      · rw [← HL.out]
        exact (hr7.mono (Nat.le_succ _)).kept hgs (Or.inr fun e => by have := (hr7.lt _ e).1; omega)
    first
    | exact ⟨_, _, rfl, hrs, Nat.le_refl _, hb7⟩
    | exact ⟨_, _, rfl, hrs.below hd, Nat.le_refl _, hb7.drew⟩)
end Go.Proofs.YtifmfnkpogconaaDoor
