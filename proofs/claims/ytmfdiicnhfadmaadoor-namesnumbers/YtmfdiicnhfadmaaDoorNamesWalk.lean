/- NamesNumbers' walk, out of what its two tables answer. -/
import Derived.Test.YtmfdiicnhfadmaaDoorNames
namespace Go.Proofs.YtmfdiicnhfadmaaDoor
open Go.RowKit

theorem errno_calls (n : Int) (w : World) : Calls Tryd.prog 11 #[.int .i64 n] w fun e w' => e = .returned (.int .i64 n) ∧ w' = w := by
  go_enter Tryd.func11, Tryd.ntmps11
  go_wp2
  go_ret
  exact ⟨rfl, rfl⟩

set_option maxRecDepth 100000 in
set_option maxHeartbeats 1000000 in
theorem names_of (hE : ∀ w : World, Calls Tryd.prog 9 #[] w fun e w' => e = .returned (.slice (some ⟨w.heap.size, 0, none⟩) 64 64) ∧ Pairs w' w.heap.size 64 ∧ Below w.heap.size w w')
    (hM : ∀ w : World, Calls Tryd.prog 10 #[] w fun e w' => e = .returned (.slice (some ⟨w.heap.size, 0, none⟩) 49 49) ∧ Pairs w' w.heap.size 49 ∧ Below w.heap.size w w')
    (w : World) (hp : w.cell? ⟨1, 0, none⟩ = some (.int .u64 1)) :
    Calls Tryd.prog 3 #[] w fun e w' => e = .returned (.bool true) ∧ Below w.heap.size w w' := by
  have HE := hide hE
  have HM := hide hM
  have HP := hide hp
  clear hE hM hp
  go_enter Tryd.func3, Tryd.ntmps3
  go_wp2_with fail
  refine (unhide HE _).mono ?_
  rintro e w1 ⟨rfl, hq1, hb1⟩
  have HQ1 := hide hq1
  clear hq1
  go_wp2_with fail
  go_loopw [8] (fun i wr => ∃ k : Nat, k ≤ 64 ∧ i = .int .i64 (k : Int) ∧ Below w1.heap.size w1 wr) (fun i _ => 64 - (intOf i).toNat)
  case atStart => exact ⟨0, by omega, rfl, Below.refl _ _⟩
  case round =>
    obtain ⟨k, hk, rfl, hnx⟩ := hrel
    have hsz := hnx.size
    by_cases hlt : k < 64
    · obtain ⟨c, hc1, hc2⟩ := (unhide HQ1).below hnx k hlt
      go_wp2
      go_roundw
      case rel => exact ⟨k + 1, by omega, by go_num, hnx.alloc hsz _⟩
      case measure => simp [intOf]; omega
    · have hB1 := hb1.trans (hnx.mono hb1.size)
      clear hb1 hnx
      go_wp2_with fail
      refine (unhide HM _).mono ?_
      rintro e w2 ⟨rfl, hq2, hb2⟩
      have HQ2 := hide hq2
      have hB2 := hB1.trans (hb2.mono hB1.size)
      clear hq2 hb2
      go_wp2_with fail
      go_loopw [20] (fun i wq => ∃ j : Nat, j ≤ 49 ∧ i = .int .i64 (j : Int) ∧ Below w2.heap.size w2 wq) (fun i _ => 49 - (intOf i).toNat)
      case atStart => exact ⟨0, by omega, rfl, Below.refl _ _⟩
      case round =>
        obtain ⟨j, hj, rfl, hny⟩ := hrel
        have hsz2 := hny.size
        by_cases hlt2 : j < 49
        · obtain ⟨c, hc1, hc2⟩ := (unhide HQ2).below hny j hlt2
          go_wp2
          go_roundw
          case rel => exact ⟨j + 1, by omega, by go_num, hny.alloc hsz2 _⟩
          case measure => simp [intOf]; omega
        · have hB3 := hB2.trans (hny.mono hB2.size)
          have hp3 := (hB3.cell (p := ⟨1, 0, none⟩) (World.block_lt_of_cell? w _ (unhide HP))).trans (unhide HP)
          have HP3 := hide hp3
          clear hp3 hB2 hny
          go_wp2_with (first | (go_at_call 11; refine (errno_calls _ _).mono ?_; rintro e w' ⟨rfl, hw'⟩; obtain rfl := hw'.symm))
          refine (error_83 _).mono ?_
          rintro e w' ⟨rfl, hw'⟩
          obtain rfl := hw'.symm
          clear hw'
          go_wp2_with fail
          refine (error_5 _ (unhide HP3)).mono ?_
          rintro e w4 ⟨rfl, hb4⟩
          go_wp2
          go_ret
          exact ⟨rfl, hB3.trans (hb4.mono hB3.size)⟩
end Go.Proofs.YtmfdiicnhfadmaaDoor
