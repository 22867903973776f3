/- The statements' sector and body. -/
import Derived.Test.YtfgjhlnaaopdeabDkS
namespace Go.Proofs.Ytfgjhlnaaopdeab
open Go.RowKit Go.Maps

/-- So many bytes made of xs over and over, zeros behind. -/
def fillN (N : Nat) (xs : List Int) (k : Nat) : List Int := (List.range N).map fun j => if j < k then xs.getD (j % xs.length) 0 else 0
theorem fillN_len (N : Nat) (xs : List Int) (k : Nat) : (fillN N xs k).length = N := by simp [fillN]
theorem fillN_step {N k : Nat} (xs : List Int) : (fillN N xs k).set k (xs.getD (k % xs.length) 0) = fillN N xs (k + 1) := by
  apply List.ext_getElem
  · simp [fillN]
  · intro j h1 h2
    rw [List.getElem_set]
    simp only [fillN, List.getElem_map, List.getElem_range]
    by_cases e : k = j
    · subst e; rw [if_pos rfl, if_pos (by omega)]
    · rw [if_neg e]
      by_cases hj : j < k
      · rw [if_pos hj, if_pos (by omega)]
      · rw [if_neg hj, if_neg (by omega)]
theorem fillN_zero (N : Nat) (xs : List Int) : fillN N xs 0 = List.replicate N 0 := by
  apply List.ext_getElem
  · simp [fillN]
  · intro j h1 h2; simp [fillN]
theorem fillN_byte {N k : Nat} {xs : List Int} (h : ∀ x ∈ xs, 0 ≤ x ∧ x ≤ 255) : ∀ x ∈ fillN N xs k, 0 ≤ x ∧ x ≤ 255 := by
  intro x hx
  obtain ⟨j, _, rfl⟩ := List.mem_map.1 hx
  split
  · by_cases hl : j % xs.length < xs.length
    · rw [getD_eq hl]; exact h _ (List.getElem_mem hl)
    · rw [List.getD_eq_getElem?_getD, List.getElem?_eq_none (by omega)]; decide
  · decide
def secOf (xs : List Int) : List Int := if xs.length = 0 then zsec else fillN 512 xs 512
theorem secOf_is {xs : List Int} (h : ∀ x ∈ xs, 0 ≤ x ∧ x ≤ 255) : IsSec (secOf xs) := by
  unfold secOf
  split
  · exact zsec_is
  · exact ⟨fillN_len _ _ _, fillN_byte h⟩
theorem own8_arr {w : World} {B g : Nat} {xs : List Int} (h : Arr w g 5 (xs.map (Value.int .u8))) (hB : B ≤ g) (hb : ∀ x ∈ xs, 0 ≤ x ∧ x ≤ 255) (hl : xs.length ≤ 1000) : Own8 w B (.slice (some ⟨g, 0, none⟩) xs.length xs.length) xs := by
  refine ⟨⟨by simp, .inr ⟨g, xs.length, _, rfl, hB, h, Nat.le_refl _, by unfold maxLen; omega, by simp, by simp [List.take_of_length_le]⟩⟩, hb⟩
set_option maxRecDepth 100000 in
set_option maxHeartbeats 2000000 in
theorem sector_calls {w : World} {v : Value} {xs : List Int} (h : IsB w v xs) (hl : xs.length ≤ 9223372036854775807) :
    Calls Try.prog 17 #[v] w fun e w' => ∃ g, e = .returned (.slice (some ⟨g, 0, none⟩) 512 512) ∧ Own8 w' w.heap.size (.slice (some ⟨g, 0, none⟩) 512 512) (secOf xs) ∧ Below w.heap.size w w' := by
  obtain ⟨a, m, c, rfl⟩ := h.shape
  have hm := h.lenEq
  have HB := hide h
  have HM := hide hm
  have hml : m ≤ 9223372036854775807 := by omega
  have HBY := hide h.mem
  have HS : Hid (∀ k, (fillN 512 xs k).set k (xs.getD (k % xs.length) 0) = fillN 512 xs (k + 1)) := fun k => fillN_step xs
  have HMAP : Hid (∀ k (x : Int), ((fillN 512 xs k).set k x).map (Value.int .u8) = ((fillN 512 xs k).map (Value.int .u8)).set k (.int .u8 x)) := fun k x => List.map_set
  have HL : Hid (∀ k, ((fillN 512 xs k).map (Value.int .u8)).length = 512) := fun k => by rw [List.length_map, fillN_len]
  have HZ : Hid ((fillN 512 xs 0).map (Value.int .u8) = List.replicate 512 (.int .u8 0)) := hide (by rw [fillN_zero, List.map_replicate])
  have HF : Hid (∀ k W, Arr W w.heap.size 5 ((fillN 512 xs k).map (Value.int .u8)) → fillN 512 xs k = secOf xs → Own8 W w.heap.size (.slice (some ⟨w.heap.size, 0, none⟩) 512 512) (secOf xs)) := fun k W hA e => by
    have := own8_arr hA (Nat.le_refl _) (fillN_byte h.mem) (by rw [fillN_len]; decide)
    rw [fillN_len, e] at this
    exact this
  have HE0 : Hid (xs.length = 0 → fillN 512 xs 0 = secOf xs) := fun h0 => by unfold secOf zsec; rw [if_pos h0, fillN_zero]
  have HE1 : Hid (¬ xs.length = 0 → fillN 512 xs 512 = secOf xs) := fun h0 => by unfold secOf; rw [if_neg h0]
  obtain ⟨i0, hi, hz0, hz1, hz2⟩ := info_parts info8
  clear h hm
  go_enter Try.func17, Try.ntmps17
  go_wp2_with (first
    | (at_make; refine wpList_make_full _ rfl _ _ 23 rfl w.heap.size 5 i0 (.int .u8 0) 1 Try.underlying23 hi hz0 hz1 _ _ _ _ 512 rfl rfl rfl rfl (by omega) (by unfold maxLen; omega) (Nat.le_refl _) ?_; intro w1 hr1 hg1))
  rw [made8n] at hr1
  obtain ⟨hA1, _⟩ := arr_full hr1
  rw [← HZ.out] at hA1
  have hB1 := below_none hg1
  clear hr1 hg1 hz0
  go_loopw [4] (fun iv wr => ∃ k : Nat, k ≤ 512 ∧ (m = 0 → k = 0) ∧ iv = .int .i64 (k : Int) ∧ Arr wr w.heap.size 5 ((fillN 512 xs k).map (Value.int .u8)) ∧ Below w.heap.size w wr) (fun iv _ => 512 - (intOf iv).toNat)
  case atStart => exact ⟨0, by omega, fun _ => rfl, rfl, hA1, hB1⟩
  case round =>
    clear hA1 hB1
    obtain ⟨k, hk, hk0, rfl, hA, hnx⟩ := hrel
    have hsz := hnx.size
    by_cases hm0 : m = 0
    · have hkz := hk0 hm0
      have HKZ := hide hkz
      have HM0 := hide hm0
      have hmd : decide (0 < m) = false := by simp; omega
      have hkd : k < 512 := by omega
      clear hk0 hkz hm0
      go_wp2
      go_ret
      exact ⟨w.heap.size, rfl, unhide HF k wr hA (by rw [HKZ.out]; exact unhide HE0 (by have := HM.out; have := HM0.out; omega)), hnx⟩
    · by_cases hlt : k < 512
      · obtain ⟨b, off, hab, hcell⟩ : ∃ b off, a = some ⟨b, off, none⟩ ∧ ∀ j, j < m → wr.cell? ⟨b, off + j, none⟩ = some (.int .u8 (xs.getD j 0)) := by
          obtain ⟨_, a', c', hv, _, _, _, hc⟩ := HB.out.below hnx
          injection hv with e1 e2 e3
          obtain ⟨b, off, h1, h2⟩ := hc (by have := HM.out; omega)
          exact ⟨b, off, by rw [e1, h1], fun j hj => h2 j (by have := HM.out; omega)⟩
        subst hab
        obtain ⟨q, hq⟩ : ∃ q, k % m = q := ⟨_, rfl⟩
        have hqm : q < m := by rw [← hq]; exact Nat.mod_lt _ (by omega)
        have hq1 : (k : Int) % (m : Int) = (q : Int) := by rw [← hq]; simp
        have hq2 : (k : Int).tmod (m : Int) = (q : Int) := by rw [Int.tmod_eq_emod_of_nonneg (by omega)]; exact hq1
        have hcq := hcell q hqm
        have hck : ∃ z, wr.cell? ⟨w.heap.size, k, none⟩ = some z := ⟨_, hA.cell_of (List.getElem?_eq_getElem (by rw [unhide HL k]; exact hlt))⟩
        obtain ⟨z, hz⟩ := hck
        have hfz := hA.frozen k
        have hmp : 0 < m := by omega
        have hset := hA.set k (.int .u8 (xs.getD q 0))
        have HSET : Hid (Arr (wr.setCell ⟨w.heap.size, k, none⟩ (.int .u8 (xs.getD q 0))) w.heap.size 5 ((fillN 512 xs (k + 1)).map (Value.int .u8))) := by
          have h9 := unhide HS k
          rw [← HM.out, hq] at h9
          rw [← h9, unhide HMAP]
          exact hset
        have HBN : Hid (Below w.heap.size w (wr.setCell ⟨w.heap.size, k, none⟩ (.int .u8 (xs.getD q 0)))) := hide (hnx.setCell (Nat.le_refl _) _)
        clear hcell hset hA hnx hq hk0
        generalize xs.getD q 0 = bv at *
        go_wp2
        go_roundw
        case rel => exact ⟨k + 1, by omega, fun h => absurd h hm0, by go_num, HSET.out, HBN.out⟩
        case measure => simp [intOf]; omega
      · have hke : k = 512 := by omega
        have HKE := hide hke
        clear hke hk0
        go_wp2
        go_ret
        exact ⟨w.heap.size, rfl, unhide HF k wr hA (by rw [HKE.out]; exact unhide HE1 (by have := HM.out; omega)), hnx⟩
/-- What a Write is handed. -/
def bodyOf (z : Int) (xs : List Int) : List Int := if z = 0 then secOf xs else xs
set_option maxRecDepth 100000 in
set_option maxHeartbeats 2000000 in
theorem body_calls {w : World} {k x y z : Int} {v vf : Value} {xs : List Int} (h : IsB w v xs) (hl : xs.length ≤ 140737488355328) (hf : ∃ a n c, vf = .slice a n c) :
    Calls Try.prog 42 #[.agg #[.int .i64 k, .int .i64 x, .int .i64 y, v, .int .i64 z, vf]] w fun e w' => ∃ u, e = .returned u ∧ Own8 w' w.heap.size u (bodyOf z xs) ∧ Below w.heap.size w w' := by
  obtain ⟨a, n, c, rfl⟩ := h.shape
  obtain ⟨fa, fn, fc, rfl⟩ := hf
  have hb1 := (Below.refl w.heap.size w).alloc (Nat.le_refl _) (.cells #[.int .i64 k, .int .i64 x, .int .i64 y, .slice a n c, .int .i64 z, .slice fa fn fc] 67)
  have HC := hide (copy_calls (h.below hb1) hl)
  have HS := hide (sector_calls (h.below hb1) (by omega))
  clear h
  by_cases hz : z = 0
  · have HE : Hid (bodyOf z xs = secOf xs) := hide (by unfold bodyOf; rw [if_pos hz])
    subst hz
    go_enter Try.func42, Try.ntmps42
    go_wp2_with (go_at_call 17; refine (unhide HS).mono ?_; rintro e w2 ⟨g, rfl, hu, hb2⟩)
    go_ret
    exact ⟨_, rfl, by rw [HE.out]; exact hu.mono (by simp), below_then hb1 hb2⟩
  · have HE : Hid (bodyOf z xs = xs) := hide (by unfold bodyOf; rw [if_neg hz])
    go_enter Try.func42, Try.ntmps42
    go_wp2_with (go_at_call 51; refine (unhide HC).mono ?_; rintro e w2 ⟨u, rfl, hu, hb2⟩)
    go_ret
    exact ⟨_, rfl, by rw [HE.out]; exact hu.mono (by simp), below_then hb1 hb2⟩
end Go.Proofs.Ytfgjhlnaaopdeab
