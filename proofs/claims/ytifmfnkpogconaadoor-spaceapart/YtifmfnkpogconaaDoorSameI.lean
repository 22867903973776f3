/- The same numbers; the two sides beside one another. -/
import Derived.Test.YtifmfnkpogconaaDoorRsCopy2
import Derived.Test.YtifmfnkpogconaaDoorSpEnds
namespace Go.Proofs.YtifmfnkpogconaaDoor
open Go.RowKit

set_option maxRecDepth 100000 in
set_option maxHeartbeats 4000000 in
theorem same_calls {w : World} {B1 B2 : Nat} {va vb : Value} {xs : List Nat} (ha : Row w B1 3 va (iV xs)) (hb : Row w B2 3 vb (iV xs)) :
    Calls Tryd.prog 23 #[va, vb] w fun e w' => e = .returned (.bool true) ∧ Below w.heap.size w w' := by
  obtain ⟨aa, ca, e1⟩ := ha.shape
  obtain ⟨ab, cb, e2⟩ := hb.shape
  rw [iV_len] at e1 e2
  subst e1 e2
  obtain ⟨n, hn⟩ : ∃ n, n = xs.length := ⟨_, rfl⟩
  rw [← hn] at ha hb ⊢
  have HA := hide ha
  have HB := hide hb
  have HN := hide hn
  clear ha hb hn
  go_enter Tryd.func23, Tryd.ntmps23
  go_wp2_with fail
  go_loopw [5] (fun iv W => ∃ (j : Nat), j ≤ n ∧ iv = .int .i64 (j : Int) ∧ Below w.heap.size w W) (fun i _ => n - (intOf i).toNat)
  case atStart => exact ⟨0, by omega, rfl, Below.refl _ _⟩
  case round =>
    obtain ⟨j, hjn, rfl, hbw⟩ := hrel
    by_cases hlt : j < n
    · have hra := (HA.out).out (Out.of_below (B := 0) (S := 0) hbw) fun _ _ => Or.inr (Nat.zero_le _)
      have hrb := (HB.out).out (Out.of_below (B := 0) (S := 0) hbw) fun _ _ => Or.inr (Nat.zero_le _)
      obtain ⟨ga, ca2, hv, hc1, hc2, _, _⟩ := hra.head (by rw [iV_len, ← HN.out]; omega)
      injection hv with e1 e2 e3
      subst e1 e3
      obtain ⟨gb, cb2, hv, hc3, hc4, _, _⟩ := hrb.head (by rw [iV_len, ← HN.out]; omega)
      injection hv with e1 e4 e3
      subst e1 e3
      rw [← e2] at hc1 hc3
      have hjx : j < xs.length := by rw [← HN.out]; exact hlt
      obtain ⟨q, hq⟩ : ∃ q, q = xs.getD j 0 := ⟨_, rfl⟩
      have hcj : wr.cell? ⟨ga, j, none⟩ = some (.int .i64 (q : Int)) := by
        rw [hra.cellAt (by rw [iV_len]; exact hjx), hq]
        simp [iV, List.getElem?_map, List.getD_eq_getElem?_getD, List.getElem?_eq_getElem hjx]
      have hcj2 : wr.cell? ⟨gb, j, none⟩ = some (.int .i64 (q : Int)) := by
        rw [hrb.cellAt (by rw [iV_len]; exact hjx), hq]
        simp [iV, List.getElem?_map, List.getD_eq_getElem?_getD, List.getElem?_eq_getElem hjx]
      have hlti : (j : Int) < (n : Int) := by omega
      clear hra hrb e2 e4 hjx hq
      go_wp2_with fail
      go_quiet (fail)
      go_wp2
      exact ⟨⟨j + 1, by omega, by go_num, hbw.trans ((drewn_below wr nq).mono hbw.size)⟩, by simp [intOf]; omega⟩
    · go_wp2
      go_ret
      exact ⟨rfl, hbw⟩
end Go.Proofs.YtifmfnkpogconaaDoor
