/- What upTo answers of a script of calls; the walks of WireNumbers, WireStrings and WirePlays. -/
import Derived.Test.YtmfpkoegpoboiaaDoorPlays
namespace Go.Proofs.YtmfpkoegpoboiaaDoor
open Go.RowKit

set_option maxRecDepth 100000 in
set_option maxHeartbeats 2000000 in
theorem upTo_calls {w : World} {v : Value} {os : List OpF} (h : IsOps w v os) (ht : Tab w) (lo hi : Int) :
    Calls Tryd.prog 11 #[v, .int .i64 lo, .int .i64 hi] w fun e w' => e = .returned (.bool true) ∧ Below w.heap.size w w' := by
  have h' := h
  obtain ⟨⟨a, cap, rfl, hl, hm, hc⟩, he⟩ := h
  obtain ⟨n, hn⟩ : ∃ n, n = os.length := ⟨_, rfl⟩
  rw [← hn] at hl hc he h' ⊢
  have HC := hide hc
  have HE := hide he
  have HT := hide ht
  clear hc he ht hn h'
  go_enter Tryd.func11, Tryd.ntmps11
  go_wp2_with fail
  go_loopw [7] (fun i wr => ∃ k : Nat, k ≤ n ∧ i = .int .i64 (k : Int) ∧ Below w.heap.size w wr) (fun i _ => n + 1 - (intOf i).toNat)
  case atStart => exact ⟨0, by omega, rfl, Below.refl _ _⟩
  case round =>
    obtain ⟨k, hk, rfl, hnx⟩ := hrel
    by_cases hkn : k < n
    · obtain ⟨b, off, rfl, hcell⟩ := unhide HC (by omega)
      have hok := unhide HE k hkn
      obtain ⟨o, hoe⟩ : ∃ o, o = os.getD k .nul := ⟨_, rfl⟩
      have hcs := hcell k hkn
      rw [← hoe] at hok hcs
      clear hoe hcell
      have hok' := hok.below hnx
      have hT' := (unhide HT).below hnx
      have hc : ∀ f u, f < 6 → o.cells[f]? = some u → wr.cell? ⟨b, off + (k * 6 + f), none⟩ = some u := fun f u hf hu => by
        have h1 := (hcs f hf).trans hu
        exact (hnx.cell (World.block_lt_of_cell? _ _ h1)).trans h1
      have hc0 := hc 0 _ (by omega) rfl
      have hc1 := hc 1 _ (by omega) rfl
      have hc2 := hc 2 _ (by omega) rfl
      have hc3 := hc 3 _ (by omega) rfl
      have hc4 := hc 4 _ (by omega) rfl
      have hc5 := hc 5 _ (by omega) rfl
      simp only [Nat.add_zero] at hc0
      simp only [← Nat.add_assoc] at hc1 hc2 hc3 hc4 hc5
      clear hc hcs hok
      by_cases h1 : lo ≤ o.K
      · by_cases h2 : o.K ≤ hi
        · go_wp2_with fail
          refine (plays_calls hok' hT').mono ?_
          rintro e w1 ⟨rfl, hb1⟩
          have hB1 := below_step hnx hb1
          go_wp2
          go_roundw
          case rel => exact ⟨k + 1, by omega, by go_num, hB1⟩
          case measure => simp [intOf]; omega
        · go_wp2
          go_roundw
          case rel => exact ⟨k + 1, by omega, by go_num, hnx⟩
          case measure => simp [intOf]; omega
      · go_wp2
        go_roundw
        case rel => exact ⟨k + 1, by omega, by go_num, hnx⟩
        case measure => simp [intOf]; omega
    · go_wp2
      go_ret
      exact ⟨rfl, hnx⟩

theorem wireNumbers_walk {w : World} {v : Value} {os : List OpF} (h : IsOps w v os) (ht : Tab w) : Calls Tryd.prog 3 #[v] w fun e w' => e = .returned (.bool true) ∧ Below w.heap.size w w' := by
  have HO := hide h
  have HT := hide ht
  clear h ht
  go_enter Tryd.func3, Tryd.ntmps3
  go_wp2_with fail
  refine (started_calls w (unhide HT)).mono ?_
  rintro e w1 ⟨rfl, hb1⟩
  go_wp2_with fail
  refine (both_calls w1).mono ?_
  rintro e w2 ⟨rfl, hb2⟩
  have hB2 := below_step hb1 hb2
  go_wp2_with fail
  refine (upTo_calls ((unhide HO).below hB2) ((unhide HT).below hB2) 1 4).mono ?_
  rintro e w3 ⟨rfl, hb3⟩
  have hB3 := below_step hB2 hb3
  go_wp2
  go_ret
  exact ⟨rfl, hB3⟩
theorem wireStrings_walk {w : World} {v : Value} {os : List OpF} (h : IsOps w v os) (ht : Tab w) : Calls Tryd.prog 4 #[v] w fun e w' => e = .returned (.bool true) ∧ Below w.heap.size w w' := by
  have HO := hide h
  have HT := hide ht
  clear h ht
  go_enter Tryd.func4, Tryd.ntmps4
  go_wp2_with fail
  refine (started_calls w (unhide HT)).mono ?_
  rintro e w1 ⟨rfl, hb1⟩
  go_wp2_with fail
  refine (both_calls w1).mono ?_
  rintro e w2 ⟨rfl, hb2⟩
  have hB2 := below_step hb1 hb2
  go_wp2_with fail
  refine (upTo_calls ((unhide HO).below hB2) ((unhide HT).below hB2) 5 7).mono ?_
  rintro e w3 ⟨rfl, hb3⟩
  have hB3 := below_step hB2 hb3
  go_wp2
  go_ret
  exact ⟨rfl, hB3⟩
theorem wirePlays_walk {w : World} {v : Value} {os : List OpF} (h : IsOps w v os) (ht : Tab w) : Calls Tryd.prog 5 #[v] w fun e w' => e = .returned (.bool true) ∧ Below w.heap.size w w' := by
  have HO := hide h
  have HT := hide ht
  clear h ht
  go_enter Tryd.func5, Tryd.ntmps5
  go_wp2_with fail
  refine (started_calls w (unhide HT)).mono ?_
  rintro e w1 ⟨rfl, hb1⟩
  go_wp2_with fail
  refine (upTo_calls ((unhide HO).below hb1) ((unhide HT).below hb1) 1 7).mono ?_
  rintro e w3 ⟨rfl, hb3⟩
  have hB3 := below_step hb1 hb3
  go_wp2
  go_ret
  exact ⟨rfl, hB3⟩
end Go.Proofs.YtmfpkoegpoboiaaDoor
