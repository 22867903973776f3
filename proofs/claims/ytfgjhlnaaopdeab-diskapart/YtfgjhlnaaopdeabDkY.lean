/- The document's turned. -/
import Derived.Test.YtfgjhlnaaopdeabDkV
namespace Go.Proofs.Ytfgjhlnaaopdeab
open Go.RowKit Go.Maps

theorem own8_head {w : World} {B : Nat} {u : Value} {s : List Int} (h : Own8 w B u s) (hp : 0 < s.length) : ∃ g c, u = .slice (some ⟨g, 0, none⟩) s.length c ∧ s.length ≤ c ∧ c ≤ 9223372036854775807 ∧ B ≤ g ∧ (∀ j, j < s.length → w.cell? ⟨g, j, none⟩ = some (.int .u8 (s.getD j 0)) ∧ w.frozen? ⟨g, j, none⟩ = false) ∧
    ∀ (j : Nat) (x : Int), j < s.length → 0 ≤ x → x ≤ 255 → Own8 (w.setCell ⟨g, j, none⟩ (.int .u8 x)) B (.slice (some ⟨g, 0, none⟩) s.length c) (s.set j x) := by
  obtain ⟨h1, h2⟩ := h
  rcases h1.2 with ⟨rfl, h0⟩ | ⟨g, cap, cur, rfl, hb, hg, hle, hm, hsz, ht⟩
  · omega
  · simp only [Nat.mul_one] at hsz ht
    have hcell : ∀ j, j < s.length → w.cell? ⟨g, j, none⟩ = some (.int .u8 (s.getD j 0)) := fun j hj => by
      have := h1.cells (g := g) rfl j (.int .u8 (s.getD j 0)) (by rw [List.getElem?_map, List.getElem?_eq_getElem hj, List.getD_eq_getElem?_getD, List.getElem?_eq_getElem hj]; rfl)
      rw [Addr.add_lit, Nat.zero_add] at this
      exact this
    refine ⟨g, cap, rfl, hle, by simpa [maxLen] using hm, hb, fun j hj => ⟨hcell j hj, by unfold World.frozen?; rw [hg]; simp⟩, fun j x hj h0 h255 => ⟨⟨by simp, .inr ⟨g, cap, _, by rw [List.length_set], hb, heap_setCell_same w g j cur 5 (.int .u8 x) hg, by rw [List.length_set]; exact hle, hm, by simp [hsz], ?_⟩⟩, fun y hy => ?_⟩⟩
    · rw [List.length_set, Nat.mul_one, List.map_set, ← ht]
      apply List.ext_getElem?
      intro q
      simp only [Array.toList_setIfInBounds]
      rw [List.take_set]
    · rcases List.mem_or_eq_of_mem_set hy with hy | hy
      · exact h2 y hy
      · omega
theorem Own8.drew {w : World} {B : Nat} {u : Value} {s : List Int} (h : Own8 w B u s) : Own8 w.drew B u s := h
set_option maxRecDepth 100000 in
set_option maxHeartbeats 2000000 in
theorem rturned_calls {w : World} {v : Value} {s : List Int} {bit : Nat} (h : IsB w v s) (hs : IsSec s) (hb : bit < 4096) :
    Calls Try.prog 54 #[v, .int .i64 (bit : Int)] w fun e w' => ∃ u, e = .returned u ∧ Own8 w' w.heap.size u (turnB s bit) ∧ Below w.heap.size w w' := by
  have HC := hide (copy_calls h (by rw [hs.1]; decide))
  have hsl := hs.1
  obtain ⟨q, hq⟩ : ∃ q, bit / 8 = q := ⟨_, rfl⟩
  obtain ⟨r, hr⟩ : ∃ r, bit % 8 = r := ⟨_, rfl⟩
  have hr8 : r < 8 := by omega
  have hq5 : q < 512 := by omega
  have hdiv : (bit : Int).tdiv 8 = (q : Int) := by rw [Int.tdiv_eq_ediv_of_nonneg (by omega)]; omega
  have hmod : (bit : Int).tmod 8 = (r : Int) := by rw [Int.tmod_eq_emod_of_nonneg (by omega)]; omega
  have hdiv2 : (bit : Int) / 8 = (q : Int) := by omega
  have hmod2 : (bit : Int) % 8 = (r : Int) := by omega
  have hx := hs.2 _ (List.getElem_mem (show q < s.length by omega))
  have hgx : s.getD q 0 = s[q]'(by omega) := getD_eq (by omega) 0
  rw [← hgx] at hx
  have HT : Hid (turnB s bit = s.set q (((s.getD q 0).toNat ^^^ 2 ^ r : Nat) : Int)) := hide (by unfold turnB; rw [hq, hr]; rfl)
  have hy : bits .xor .u8 (s.getD q 0) ((2 : Int) ^ r % 256) = (((s.getD q 0).toNat ^^^ 2 ^ r : Nat) : Int) := by
    have hp : (2 : Nat) ^ r < 2 ^ 8 := Nat.pow_lt_pow_right (by omega) hr8
    have e : ((2 : Int) ^ r % 256) = ((2 ^ r : Nat) : Int) := by
      have : (2 : Int) ^ r = ((2 ^ r : Nat) : Int) := by simp
      rw [this]
      generalize (2 : Nat) ^ r = pw at hp
      omega
    rw [e, u8_xor _ _ hx.1 (by omega) (by omega) (by omega), Int.toNat_natCast]
  have hyb : 0 ≤ (((s.getD q 0).toNat ^^^ 2 ^ r : Nat) : Int) ∧ (((s.getD q 0).toNat ^^^ 2 ^ r : Nat) : Int) ≤ 255 := by
    have h1 : ((s.getD q 0).toNat) < 2 ^ 8 := by omega
    have h2 : 2 ^ r < 2 ^ 8 := Nat.pow_lt_pow_right (by omega) hr8
    have h3 := Nat.xor_lt_two_pow h1 h2
    generalize ((s.getD q 0).toNat ^^^ 2 ^ r) = zz at h3
    omega
  have HY := hide hy
  have HYB := hide hyb
  obtain ⟨va, vn, vc, rfl⟩ := h.shape
  clear h hs hgx hy hyb hq hr
  go_enter Try.func54, Try.ntmps54
  go_wp2_with (go_at_call 51; refine (unhide HC).mono ?_; rintro e w2 ⟨u, rfl, hu, hb2⟩; obtain ⟨g, c, rfl, hle, hcm, hBg, hcell, hset⟩ := own8_head hu (by omega))
  obtain ⟨hc, hf⟩ := hcell q (by omega)
  have HSET := hide hset
  have hx0 : ¬ s.getD q 0 < 0 := by omega
  clear hcell hset hu HC
  generalize hxx : s.getD q 0 = x at *
  clear hxx
  go_region
  rw [HY.out]
  have hfin := unhide HSET q (((x.toNat ^^^ 2 ^ r : Nat) : Int)) (by omega) HYB.out.1 HYB.out.2
  go_wp2
  go_ret
  refine ⟨_, rfl, ?_, ?_⟩
  · rw [HT.out]
    have e : s.length = 512 := hsl
    rw [e] at hfin
    exact hfin.drew
  · exact (hb2.setCell hBg _).drew
end Go.Proofs.Ytfgjhlnaaopdeab
