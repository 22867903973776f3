/- turned, where there is nothing to turn over. -/
import Derived.Test.YtmfpkoegpoboiabDoorTurned
namespace Go.Proofs.YtmfpkoegpoboiabDoor
open Go.RowKit

set_option maxRecDepth 100000 in
set_option maxHeartbeats 2000000 in
theorem turned_m0 {w : World} {ga ba : Option Addr} {n cap bc : Nat} {xs : List Int} (hb : IsB w (.slice ga n cap) xs) (hl : xs.length ≤ 140737488351232) :
    Calls Tryd.prog 17 #[.slice ga n cap, .slice ba 0 bc] w fun e w' => e = .returned (.bool false) ∧ Below w.heap.size w w' := by
  have HG := hide hb
  have HL := hide hl
  clear hb hl
  go_enter Tryd.func17, Tryd.ntmps17
  go_wp2_with fail
  have hbs := isBB_lit w [.slice ga n cap] [xs] _ rfl 1 rfl rfl (by decide) (fun j hj => by
    match j, hj with
    | 0, _ => exact unhide HG)
  have hbw : Below w.heap.size w (w.alloc (.cells #[.slice ga n cap] 23)) := (Below.refl _ _).alloc (Nat.le_refl _) _
  refine (join_calls hbs (by simpa using (unhide HG).mem) (by have := HL.out; simp; omega)).mono ?_
  rintro e w1 ⟨va, vn, vc, rfl, hO1, hb1⟩
  rw [show [xs].flatten = xs by simp] at hO1
  have hB1 : Below w.heap.size w w1 := hbw.trans (hb1.mono hbw.size)
  have HS := hide (same_yes hO1.isB ((unhide HG).below hB1))
  clear hbs hbw hb1 hO1
  go_wp2_with fail
  refine wp_loop_rounds 1 ?_
  rw [rounds_succ]
  go_wp2_with fail
  refine (unhide HS).mono ?_
  rintro e w2 ⟨rfl, hw2⟩
  obtain rfl := hw2.symm
  clear hw2
  go_wp2
  go_ret
  exact ⟨rfl, hB1⟩

set_option maxRecDepth 100000 in
set_option maxHeartbeats 2000000 in
theorem turned_n0 {w : World} {ga : Option Addr} {cap bb bo m bc : Nat} {bs : List Int} (hb : IsB w (.slice ga 0 cap) []) (hmc : m ≤ bc) (hbc : bc ≤ 9223372036854775807) (hcell : ∀ j, j < m → w.cell? ⟨bb, bo + j, none⟩ = some (.int .i64 (bs.getD j 0))) :
    Calls Tryd.prog 17 #[.slice ga 0 cap, .slice (some ⟨bb, bo, none⟩) m bc] w fun e w' => e = .returned (.bool false) ∧ Below w.heap.size w w' := by
  have HG := hide hb
  have HC := hide hcell
  clear hb hcell
  go_enter Tryd.func17, Tryd.ntmps17
  go_wp2_with fail
  have hbs := isBB_lit w [.slice ga 0 cap] [[]] _ rfl 1 rfl rfl (by decide) (fun j hj => by
    match j, hj with
    | 0, _ => exact unhide HG)
  have hbw : Below w.heap.size w (w.alloc (.cells #[.slice ga 0 cap] 23)) := (Below.refl _ _).alloc (Nat.le_refl _) _
  refine (join_calls hbs (by simp) (by simp)).mono ?_
  rintro e w1 ⟨va, vn, vc, rfl, hO1, hb1⟩
  rw [show [([] : List Int)].flatten = [] by simp] at hO1
  have hB1 : Below w.heap.size w w1 := hbw.trans (hb1.mono hbw.size)
  have HS := hide (same_yes hO1.isB ((unhide HG).below hB1))
  clear hbs hbw hb1 hO1
  go_wp2_with fail
  go_loop [6] (fun i => ∃ k : Nat, k ≤ m ∧ i = .int .i64 (k : Int)) (fun i => m - (intOf i).toNat)
  case atStart => exact ⟨0, by omega, rfl⟩
  case round =>
    obtain ⟨k, hk, rfl⟩ := hrel
    by_cases hlt : k < m
    · obtain ⟨J, hJ⟩ : ∃ J, J = bs.getD k 0 := ⟨_, rfl⟩
      have hcb0 := unhide HC k hlt
      have hcb : w1.cell? ⟨bb, bo + k, none⟩ = some (.int .i64 J) := by rw [hJ]; exact (hB1.cell (World.block_lt_of_cell? w _ hcb0)).trans hcb0
      clear hcb0 hJ
      by_cases hJ0 : J < 0
      · go_wp2
        go_round
        case rel => exact ⟨k + 1, by omega, by go_num⟩
        case measure => simp [intOf]; omega
      · go_wp2
        go_round
        case rel => exact ⟨k + 1, by omega, by go_num⟩
        case measure => simp [intOf]; omega
    · go_wp2_with fail
      refine (unhide HS).mono ?_
      rintro e w2 ⟨rfl, hw2⟩
      obtain rfl := hw2.symm
      clear hw2
      go_wp2
      go_ret
      exact ⟨rfl, hB1⟩
end Go.Proofs.YtmfpkoegpoboiabDoor
