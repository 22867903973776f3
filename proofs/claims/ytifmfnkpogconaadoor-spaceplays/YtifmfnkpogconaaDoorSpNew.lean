/- New. -/
import Derived.Test.YtifmfnkpogconaaDoorSpRep
namespace Go.Proofs.YtifmfnkpogconaaDoor
open Go.RowKit

theorem grown_sets (w : World) (g j : Nat) (u : Value) : w.grownBy (w.setCell ⟨g, j, none⟩ u) (some g) :=
  ⟨rfl, rfl, rfl, by simp, fun k _ hk => heap_setCell_other w ⟨g, j, none⟩ k u (fun e => hk (by simp [e]))⟩
/-- The words of a space of which all are free. -/
def newW (size : Nat) : List Nat := List.replicate ((size + 63) / 64 - 1) 18446744073709551615 ++ [18446744073709551615 / 2 ^ (64 * ((size + 63) / 64) - size)]
theorem newW_len {size : Nat} (h : 0 < size) : (newW size).length = (size + 63) / 64 := by simp [newW]; omega
theorem max_bit (j : Nat) : (18446744073709551615 : Nat).testBit j = decide (j < 64) := by
  have := Nat.testBit_two_pow_sub_one 64 j
  exact this
theorem newW_bit {size : Nat} (h : 0 < size) (i : Nat) : bitAt (newW size) i = decide (i < size) := by
  unfold bitAt newW
  obtain ⟨L, hL⟩ : ∃ L, L = (size + 63) / 64 := ⟨_, rfl⟩
  rw [← hL, List.getD_eq_getElem?_getD]
  by_cases h1 : i / 64 < L - 1
  · rw [List.getElem?_append_left (by simpa using h1), List.getElem?_replicate, if_pos h1, Option.getD_some, max_bit, decide_eq_true (by omega), decide_eq_true (by omega)]
  · rw [List.getElem?_append_right (by simp; omega), List.length_replicate]
    by_cases h2 : i / 64 = L - 1
    · rw [h2, Nat.sub_self, List.getElem?_cons_zero, Option.getD_some, Nat.testBit_div_two_pow, max_bit]
      congr 1
      simp only [eq_iff_iff]
      omega
    · rw [List.getElem?_eq_none (by simp; omega)]
      simp
      omega
theorem newW_lt {size : Nat} : ∀ x ∈ newW size, x < 18446744073709551616 := by
  intro x hx
  rcases List.mem_append.1 hx with hx | hx
  · rw [List.eq_of_mem_replicate hx]; decide
  · rw [List.mem_singleton.1 hx]
    have := Nat.div_le_self 18446744073709551615 (2 ^ (64 * ((size + 63) / 64) - size))
    omega
set_option maxRecDepth 100000 in
set_option maxHeartbeats 4000000 in
theorem spNew_calls {w : World} (fr to_ : Nat) (h1 : fr < to_) (h2 : to_ ≤ 65536) :
    Calls Tryd.prog 16 #[.int .i64 (fr : Int), .int .i64 (to_ : Int)] w fun e w' => ∃ g gw, e = .returned (.tuple #[.pointer (some ⟨g, 0, none⟩), .int .i64 0]) ∧ Sp w' w.heap.size g gw fr to_ (newW (to_ - fr)) ∧ w.heap.size ≤ g ∧ Below w.heap.size w w' := by
  obtain ⟨L, hL⟩ : ∃ L, L = (to_ - fr + 63) / 64 := ⟨_, rfl⟩
  have hL1 : 0 < L := by omega
  have hL2 : L ≤ 1024 := by omega
  have HR := hide (repeat_calls (w := w) L hL1 hL2 18446744073709551615)
  have e1 : ((to_ : Int) - (fr : Int) + 64 - 1) / 64 = (L : Int) := by omega
  have HL := hide hL
  clear hL
  go_enter Tryd.func16, Tryd.ntmps16
  go_wp2_with fail
  refine (unhide HR).mono ?_
  rintro e w1 ⟨gw, rfl, hgw, hblk, hb1⟩
  have hc1 : w1.cell? ⟨gw, L - 1, none⟩ = some (.int .u64 18446744073709551615) := by
    rw [cell_of_row w1 gw (L - 1) _ _ _ hblk, List.getElem?_toArray, List.getElem?_replicate, if_pos (by omega)]
  have hf1 := frozen_of_row w1 gw (L - 1) _ _ hblk
  have HBK := hide hblk
  have hLs : to_ - fr ≤ L * 64 := by have := HL.out; omega
  have hLs2 : L * 64 < to_ - fr + 64 := by have := HL.out; omega
  have e2 : ((L : Int) - 1).toNat = L - 1 := by omega
  clear hblk
  go_wp2
  have hp : 18446744073709551615 / (2 : Int) ^ (L * 64 - (to_ - fr)) = ((18446744073709551615 / 2 ^ (L * 64 - (to_ - fr)) : Nat) : Int) := by simp
  rw [hp]
  obtain ⟨y, hy⟩ : ∃ y, y = 18446744073709551615 / 2 ^ (L * 64 - (to_ - fr)) := ⟨_, rfl⟩
  rw [← hy]
  have hnw : newW (to_ - fr) = List.replicate (L - 1) 18446744073709551615 ++ [y] := by
    unfold newW
    rw [← HL.out, hy, Nat.mul_comm 64 L]
  have hlen : (newW (to_ - fr)).length = L := by rw [newW_len (by omega), HL.out]
  have hs := heap_setCell_same w1 gw (L - 1) _ _ (.int .u64 (y : Int)) HBK.out
  have hcur : (List.replicate L (Value.int .u64 18446744073709551615)).toArray.setIfInBounds (L - 1) (.int .u64 (y : Int)) = (w64 (newW (to_ - fr))).toArray := by
    rw [List.setIfInBounds_toArray, hnw]
    congr 1
    unfold w64
    obtain ⟨j, rfl⟩ : ∃ j, L = j + 1 := ⟨L - 1, by omega⟩
    rw [Nat.add_sub_cancel, List.replicate_succ', List.set_append_right _ _ (by simp), List.length_replicate, Nat.sub_self, List.map_append, List.map_replicate]
    rfl
  rw [hcur] at hs
  have hg := grown_sets w1 gw (L - 1) (.int .u64 (y : Int))
  have hb2 : Below w.heap.size w (w1.setCell ⟨gw, L - 1, none⟩ (.int .u64 (y : Int))) := hb1.grown hg hb1.size (fun b hb => by injection hb with hb; omega)
  have hrow : Row (w1.setCell ⟨gw, L - 1, none⟩ (.int .u64 (y : Int))) w.heap.size 71 (.slice (some ⟨gw, 0, none⟩) L L) (w64 (newW (to_ - fr))) := by
    refine ⟨by simp, .inr ⟨gw, L, _, by rw [w64_len, hlen], hgw, hs, by rw [w64_len, hlen]; exact Nat.le_refl _, by unfold maxLen; omega, by simp [w64_len, hlen], ?_⟩⟩
    simp
  have hsz : w1.heap.size = (w1.setCell ⟨gw, L - 1, none⟩ (.int .u64 (y : Int))).heap.size := by simp
  generalize (w1.setCell ⟨gw, L - 1, none⟩ (.int .u64 (y : Int))) = w2 at *
  go_ret2
  refine ⟨_, gw, rfl, ⟨⟨L, ?_, ?_⟩, ⟨h1, h2⟩, newW_len (by omega), newW_lt, fun i hi => ?_⟩, ?_, hb2.alloc hb2.size _⟩
  · rw [hlen, hsz]
    exact heap_alloc_new w2 _
  · rw [hlen]
    exact hrow.kept (World.grownBy_alloc w2 _ none) (by simp [Value.ownBlock])
  · rw [newW_bit (by omega), decide_eq_false (by omega)]
  · exact hb1.size
end Go.Proofs.YtifmfnkpogconaaDoor
