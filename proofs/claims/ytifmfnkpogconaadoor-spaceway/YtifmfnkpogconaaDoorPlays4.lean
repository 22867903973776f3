/- plays: the call's answer is the document's. -/
import Derived.Test.YtifmfnkpogconaaDoorLists5
import Derived.Deep.QuietTactic
import Derived.BigQuiet
namespace Go.Proofs.YtifmfnkpogconaaDoor
open Go.RowKit

/-- A number from 0 to m - 1 made of any. -/
def pl (n : Int) (m : Nat) : Nat := (if n.tmod (m : Int) < 0 then n.tmod (m : Int) + (m : Int) else n.tmod (m : Int)).toNat
theorem tmod_bd {c : Int} {d : Nat} (hd : 0 < d) : -(d : Int) < c.tmod (d : Int) ∧ c.tmod (d : Int) < (d : Int) := by
  have h1 : (0 : Int) < (d : Int) := by omega
  have h2 := Int.tmod_lt_of_pos c h1
  have h3 := Int.lt_tmod_of_pos c h1
  exact ⟨h3, h2⟩
theorem pl_lt {n : Int} {m : Nat} (hm : 0 < m) : pl n m < m := by
  have h := tmod_bd (c := n) hm
  unfold pl
  split <;> omega
set_option maxHeartbeats 1000000 in
theorem place4_calls (n : Int) (m : Nat) (hm : 0 < m) (hm2 : m ≤ 1000000) (w : World) : Calls Tryd.prog 15 #[.int .i64 n, .int .i64 (m : Int)] w fun e w' => e = .returned (.int .i64 (pl n m : Int)) ∧ w' = w := by
  have h1 := tmod_bd (c := n) hm
  obtain ⟨s, hs⟩ : ∃ s, n.tmod (m : Int) = s := ⟨_, rfl⟩
  rw [hs] at h1
  have HP : Hid ((pl n m : Int) = if s < 0 then s + (m : Int) else s) := by
    show _ = _
    unfold pl
    rw [hs]
    split <;> omega
  have hm0 : (m : Int) ≠ 0 := by omega
  by_cases h0 : s < 0
  · go_enter Tryd.func15, Tryd.ntmps15
    go_wp2
    go_ret
    exact ⟨by rw [HP.out, if_pos h0]; rfl, rfl⟩
  · go_enter Tryd.func15, Tryd.ntmps15
    go_wp2
    go_ret
    exact ⟨by rw [HP.out, if_neg (by omega)]; rfl, rfl⟩
end Go.Proofs.YtifmfnkpogconaaDoor
