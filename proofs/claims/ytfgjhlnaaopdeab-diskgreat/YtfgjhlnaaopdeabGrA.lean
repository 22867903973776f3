/- mark: what the j-th write of a sector writes. -/
import Derived.Test.YtfgjhlnaaopdeabOtP
namespace Go.Proofs.Ytfgjhlnaaopdeab
open Go.RowKit Go.Maps

def markL (n j : Nat) : List Int := ((((zsec.set 0 ((n : Int) % 256)).set 1 ((n : Int) / 256 % 256)).set 2 ((j : Int) % 256)).set 3 ((j : Int) / 256 % 256)).set 511 (1 + (n : Int) % 7)
theorem set_byte {xs : List Int} (h : ∀ x ∈ xs, 0 ≤ x ∧ x ≤ 255) (k : Nat) (y : Int) : ∀ x ∈ xs.set k (y % 256), 0 ≤ x ∧ x ≤ 255 := fun x hx => by
  rcases List.mem_or_eq_of_mem_set hx with hx | hx
  · exact h x hx
  · subst hx; omega
theorem set_l512 {cs : List Value} (h : cs.length = 512) (k : Nat) (v : Value) : (cs.set k v).length = 512 := by rw [List.length_set]; exact h
theorem markL_is (n j : Nat) : IsSec (markL n j) := by
  refine ⟨by unfold markL; rw [List.length_set, List.length_set, List.length_set, List.length_set, List.length_set]; exact zsec_is.1, ?_⟩
  unfold markL
  intro x hx
  rcases List.mem_or_eq_of_mem_set hx with hx | hx
  · exact set_byte (set_byte (set_byte (set_byte zsec_is.2 _ _) _ _) _ _) _ _ x hx
  · subst hx; omega
set_option maxRecDepth 100000 in
set_option maxHeartbeats 2000000 in
theorem mark_calls {w : World} {n j : Nat} (hn : n ≤ 1000000) (hj : j ≤ 1000000) :
    Calls Try.prog 31 #[.int .i64 (n : Int), .int .i64 (j : Int)] w fun e w' => ∃ g, e = .returned (.slice (some ⟨g, 0, none⟩) 512 512) ∧ w.heap.size ≤ g ∧ Own8 w' w.heap.size (.slice (some ⟨g, 0, none⟩) 512 512) (markL n j) ∧ Below w.heap.size w w' := by
  have hd1 : (n : Int).tdiv 256 = (n : Int) / 256 := Int.tdiv_eq_ediv_of_nonneg (by omega)
  have hd2 : (j : Int).tdiv 256 = (j : Int) / 256 := Int.tdiv_eq_ediv_of_nonneg (by omega)
  have hd3 : (n : Int).tmod 7 = (n : Int) % 7 := Int.tmod_eq_emod_of_nonneg (by omega)
  have HL : Hid (∀ W, Arr W w.heap.size 5 ((((((List.replicate 512 (Value.int .u8 0)).set 0 (.int .u8 ((n : Int) % 256))).set 1 (.int .u8 ((n : Int) / 256 % 256))).set 2 (.int .u8 ((j : Int) % 256))).set 3 (.int .u8 ((j : Int) / 256 % 256))).set 511 (.int .u8 (1 + (n : Int) % 7))) → Own8 W w.heap.size (.slice (some ⟨w.heap.size, 0, none⟩) 512 512) (markL n j)) := fun W hA => by
    have e : ((((((List.replicate 512 (Value.int .u8 0)).set 0 (.int .u8 ((n : Int) % 256))).set 1 (.int .u8 ((n : Int) / 256 % 256))).set 2 (.int .u8 ((j : Int) % 256))).set 3 (.int .u8 ((j : Int) / 256 % 256))).set 511 (.int .u8 (1 + (n : Int) % 7))) = (markL n j).map (Value.int .u8) := by
      unfold markL zsec
      rw [List.map_set, List.map_set, List.map_set, List.map_set, List.map_set, List.map_replicate]
    rw [e] at hA
    have := own8_arr hA (Nat.le_refl _) (markL_is n j).2 (by rw [(markL_is n j).1]; decide)
    rw [(markL_is n j).1] at this
    exact this
  obtain ⟨i0, hi, hz0, hz1, hz2⟩ := info_parts info8
  go_enter Try.func31, Try.ntmps31
  have mk : ∀ (cs : List Value) (W : World), Arr W w.heap.size 5 cs → cs.length = 512 → ∀ k, k < 512 → ∃ z, W.cell? ⟨w.heap.size, k, none⟩ = some z := fun cs W hA hl k hk => ⟨_, hA.cell_of (List.getElem?_eq_getElem (by rw [hl]; exact hk))⟩
  go_wp2_with (first
    | (at_make; refine wpList_make_full _ rfl _ _ 23 rfl w.heap.size 5 i0 (.int .u8 0) 1 Try.underlying23 hi hz0 hz1 _ _ _ _ 512 rfl rfl rfl rfl (by omega) (by unfold maxLen; omega) (Nat.le_refl _) ?_; intro w1 hr1 hg1; rw [made8n] at hr1
       have hA1 := (arr_full hr1).1
       have hB1 := below_none hg1
       have hl1 : (List.replicate 512 (Value.int .u8 0)).length = 512 := List.length_replicate
       obtain ⟨z1, hc1⟩ := mk _ _ hA1 hl1 0 (by omega)
       have hf1 := hA1.frozen 0
       have hA2 := hA1.set 0 (.int .u8 ((n : Int) % 256))
       have hB2 := hB1.setCell (p := ⟨w.heap.size, 0, none⟩) (Nat.le_refl _) (.int .u8 ((n : Int) % 256))
       have hl2 := set_l512 hl1 0 (Value.int .u8 ((n : Int) % 256))
       obtain ⟨z2, hc2⟩ := mk _ _ hA2 hl2 1 (by omega)
       have hf2 := hA2.frozen 1
       have hA3 := hA2.set 1 (.int .u8 ((n : Int) / 256 % 256))
       have hB3 := hB2.setCell (p := ⟨w.heap.size, 1, none⟩) (Nat.le_refl _) (.int .u8 ((n : Int) / 256 % 256))
       have hl3 := set_l512 hl2 1 (Value.int .u8 ((n : Int) / 256 % 256))
       obtain ⟨z3, hc3⟩ := mk _ _ hA3 hl3 2 (by omega)
       have hf3 := hA3.frozen 2
       have hA4 := hA3.set 2 (.int .u8 ((j : Int) % 256))
       have hB4 := hB3.setCell (p := ⟨w.heap.size, 2, none⟩) (Nat.le_refl _) (.int .u8 ((j : Int) % 256))
       have hl4 := set_l512 hl3 2 (Value.int .u8 ((j : Int) % 256))
       obtain ⟨z4, hc4⟩ := mk _ _ hA4 hl4 3 (by omega)
       have hf4 := hA4.frozen 3
       have hA5 := hA4.set 3 (.int .u8 ((j : Int) / 256 % 256))
       have hB5 := hB4.setCell (p := ⟨w.heap.size, 3, none⟩) (Nat.le_refl _) (.int .u8 ((j : Int) / 256 % 256))
       have hl5 := set_l512 hl4 3 (Value.int .u8 ((j : Int) / 256 % 256))
       obtain ⟨z5, hc5⟩ := mk _ _ hA5 hl5 511 (by omega)
       have hf5 := hA5.frozen 511
       have hA6 := hA5.set 511 (.int .u8 (1 + (n : Int) % 7))
       have hB6 := hB5.setCell (p := ⟨w.heap.size, 511, none⟩) (Nat.le_refl _) (.int .u8 (1 + (n : Int) % 7))
       have hl6 := set_l512 hl5 511 (Value.int .u8 (1 + (n : Int) % 7))
       have HO := hide (unhide HL _ hA6)
       have HB := hide hB6
       clear hr1 hg1 mk HL hz0 hz1 hz2 hi hA1 hB1 hl1 hA2 hB2 hl2 hA3 hB3 hl3 hA4 hB4 hl4 hA5 hB5 hl5 hA6 hB6 hl6))
  go_ret
  exact ⟨w.heap.size, rfl, Nat.le_refl _, HO.out, HB.out⟩
end Go.Proofs.Ytfgjhlnaaopdeab
