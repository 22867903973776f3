/- What Cut, Laid, Same and Intact answer. -/
import Derived.Test.YtoiidhkpbekpiaaDoorKA
import Derived.Deep.QuietTactic
import Derived.BigQuiet
import Derived.WalkSmall
namespace Go.Proofs.YtoiidhkpbekpiaaDoor
open Go.RowKit

def marks : List Int := [201, 202, 203] ++ List.replicate 70 206
set_option maxHeartbeats 1000000 in
/-- Same, of like bytes. -/
theorem same_calls {w : World} {va vb : Value} {xs : List Int} (ha : IsB w va xs) (hb : IsB w vb xs) :
    Calls Tryd.prog 13 #[va, vb] w fun e w' => e = .returned (.bool true) ∧ ∃ k, w' = w.drewN k := by
  obtain ⟨_, aa, ca, rfl, hla, hma, _, hca⟩ := ha
  obtain ⟨_, ab, cb, rfl, hlb, hmb, _, hcb⟩ := hb
  by_cases h0 : 0 < xs.length
  · obtain ⟨ga, oa, rfl, hcella⟩ := hca h0
    obtain ⟨gb, ob, rfl, hcellb⟩ := hcb h0
    obtain ⟨n, hn⟩ : ∃ n, n = xs.length := ⟨_, rfl⟩
    rw [← hn] at hcella hcellb hla hlb ⊢
    have HA := hide hcella
    have HB := hide hcellb
    clear hca hcb hcella hcellb hn h0
    go_enter Tryd.func13, Tryd.ntmps13
    go_wp2
    go_loopw [5] (fun i wr => ∃ k m : Nat, k ≤ n ∧ i = .int .i64 (k : Int) ∧ wr = w.drewN m) (fun i _ => n - (intOf i).toNat)
    case atStart => exact ⟨0, 0, by omega, rfl, rfl⟩
    case round =>
      obtain ⟨k, m, hk, rfl, rfl⟩ := hrel
      by_cases hlt : k < n
      · have h1 := unhide HA k hlt
        have h2 := unhide HB k hlt
        have hkI : (k : Int) < (n : Int) := by omega
        have hk0 : (0 : Int) ≤ (k : Int) := by omega
        go_wp2
        go_quiet (fail)
        go_wp2
        go_roundw
        case rel => exact ⟨k + 1, _, by omega, by go_num, rfl⟩
        case measure => simp [intOf]; omega
      · go_wp2
        go_ret
        exact ⟨rfl, m, rfl⟩
  · obtain rfl : xs = [] := List.eq_nil_of_length_eq_zero (by omega)
    clear hca hcb h0 hla hlb
    go_enter Tryd.func13, Tryd.ntmps13
    go_wp2
    refine wp_loop_rounds 1 ?_
    rw [rounds_succ]
    go_wp2
    go_ret
    exact ⟨rfl, 0, rfl⟩

theorem below_same {w w' : World} (h : ∃ k, w' = w.drewN k) : Below w.heap.size w w' := by
  obtain ⟨k, rfl⟩ := h
  first
    | exact below_drewN (Below.refl _ _) k
    | exact below_drewN (Below.refl _ _)
end Go.Proofs.YtoiidhkpbekpiaaDoor
