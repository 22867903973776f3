/- Untouched. -/
import Derived.Test.YtifmfnkpogconaaDoorAny4
namespace Go.Proofs.YtifmfnkpogconaaDoor
open Go.RowKit

set_option maxRecDepth 100000 in
set_option maxHeartbeats 4000000 in
theorem untouched_calls {w : World} {B gW m t n : Nat} {P : Nat → Pr} {U : Nat → Value} {X : Nat → List Nat} (h : Wd w B gW m P t n U X) (ht : t ≤ 1001) :
    Calls Tryd.prog 12 #[.pointer (some ⟨gW, 2, none⟩)] w fun e w' => e = .returned (.bool true) ∧ Below w.heap.size w w' := by
  obtain ⟨vS, vR, vL, vK, NN, h1, h2, h3, h4⟩ := h.blk
  obtain ⟨ls, k1, k2, k3⟩ := h4.l
  obtain ⟨ks, k4, k5, k6⟩ := h4.k
  have hn : n ≤ 1001 := by have := h.low.2.2; omega
  obtain ⟨aL, cL, hvL⟩ := k2.shape
  obtain ⟨aW, cW, hvW⟩ := k5.shape
  rw [k1] at hvL
  rw [k4] at hvW
  subst hvL hvW
  have HB : Hid (∀ W, Below w.heap.size w W → W.cell? ⟨gW, 2, none⟩ = some (.slice aL n cL) ∧ W.cell? ⟨gW, 3, none⟩ = some (.slice aW n cW)) := fun W hW => by
    have e : W.heap[gW]? = _ := (hW.block gW (Array.getElem?_eq_some_iff.1 h1).1).trans h1
    exact ⟨by rw [cell_of_row W gW 2 _ _ _ e]; rfl, by rw [cell_of_row W gW 3 _ _ _ e]; rfl⟩
  have HR : Hid (0 < n → ∃ gL gK, aL = some ⟨gL, 0, none⟩ ∧ aW = some ⟨gK, 0, none⟩ ∧ n ≤ cL ∧ cL ≤ 9223372036854775807 ∧ n ≤ cW ∧ cW ≤ 9223372036854775807 ∧ ∀ W, Below w.heap.size w W → ∀ k, k < n → ∃ u u', W.cell? ⟨gL, k, none⟩ = some u ∧ W.cell? ⟨gK, k, none⟩ = some u' ∧ Row W B 3 u (iV (X k)) ∧ Row W B 3 u' (iV (X k))) := fun hp => by
    obtain ⟨gL, cL2, hv, q1, q2, _, hLw⟩ := k2.head (by omega)
    obtain ⟨gK, cW2, hv2, q3, q4, _, hWw⟩ := k5.head (by omega)
    injection hv with e1 _ e3
    injection hv2 with e4 _ e6
    subst e1 e3 e4 e6
    rw [k1] at q1
    rw [k4] at q3
    refine ⟨gL, gK, rfl, rfl, q1, q2, q3, q4, fun W hW k hk => ?_⟩
    obtain ⟨u, hu, ho2⟩ := k6 k hk
    refine ⟨U k, u, ?_, ?_, (h4.lines.row k hk).below hW, ho2.below hW⟩
    · rw [hW.cell (p := ⟨gL, k, none⟩) hLw, k2.cellAt (by omega), k3 k hk]
    · rw [hW.cell (p := ⟨gK, k, none⟩) hWw, k5.cellAt (by omega), hu]
  clear h h1 h2 h3 h4 k1 k2 k3 k4 k5 k6
  go_enter Tryd.func12, Tryd.ntmps12
  go_wp2
  go_loopw [3] (fun iv wr => ∃ (i : Nat), i ≤ n ∧ iv = .int .i64 (i : Int) ∧ Below w.heap.size w wr) (fun i _ => n - (intOf i).toNat)
  case atStart => exact ⟨0, by omega, rfl, Below.refl _ _⟩
  case round =>
    obtain ⟨i, hin, rfl, hb⟩ := hrel
    obtain ⟨hB0, hB1⟩ := unhide HB wr hb
    by_cases hlt : i < n
    · obtain ⟨gL, gK, rfl, rfl, q1, q2, q3, q4, hk⟩ := unhide HR (by omega)
      obtain ⟨u, u', c1, c2, I1, I2⟩ := hk wr hb i hlt
      have HSS : Hid (∀ W, Below wr.heap.size wr W → Below wr.heap.size wr W ∧ W.cell? ⟨gW, 2, none⟩ = some (.slice (some ⟨gL, 0, none⟩) n cL) ∧ W.cell? ⟨gW, 3, none⟩ = some (.slice (some ⟨gK, 0, none⟩) n cW) ∧ W.cell? ⟨gL, i, none⟩ = some u ∧ W.cell? ⟨gK, i, none⟩ = some u') := fun W hW =>
        ⟨hW, (hW.cell (p := ⟨gW, 2, none⟩) (World.block_lt_of_cell? _ _ hB0)).trans hB0, (hW.cell (p := ⟨gW, 3, none⟩) (World.block_lt_of_cell? _ _ hB1)).trans hB1, (hW.cell (p := ⟨gL, i, none⟩) (World.block_lt_of_cell? _ _ c1)).trans c1, (hW.cell (p := ⟨gK, i, none⟩) (World.block_lt_of_cell? _ _ c2)).trans c2⟩
      have HSM : Hid (∀ W, Below wr.heap.size wr W → Calls Tryd.prog 23 #[u, u'] W fun e w' => e = .returned (.bool true) ∧ Below wr.heap.size wr w') := fun W hW => (same_calls (I1.below hW) (I2.below hW)).mono fun e w' ⟨e1, e2⟩ => ⟨e1, hW.trans (e2.mono hW.size)⟩
      clear hk I1 I2
      have hlti : (i : Int) < (n : Int) := by omega
      go_wp2_with fail
      focus (go_region_held3 (fun W => Below wr.heap.size wr W ∧ W.cell? ⟨gW, 2, none⟩ = some (.slice (some ⟨gL, 0, none⟩) n cL) ∧ W.cell? ⟨gW, 3, none⟩ = some (.slice (some ⟨gK, 0, none⟩) n cW) ∧ W.cell? ⟨gL, i, none⟩ = some u ∧ W.cell? ⟨gK, i, none⟩ = some u')
        ((refine unhide HSS _ ?_; repeat (first | assumption | exact Below.refl _ _ | refine Below.drew ?_)))
        (first
          | (go_at_call 23; refine (unhide HSM _ (by first | assumption | exact (Below.refl _ _).drew)).mono ?_; rintro e w2 ⟨rfl, hb2⟩)))
      go_wp2
      exact ⟨⟨i + 1, by omega, by go_num, hb.trans (hb2.mono hb.size)⟩, by simp [intOf]; omega⟩
    · go_wp2
      go_ret
      exact ⟨rfl, hb⟩
end Go.Proofs.YtifmfnkpogconaaDoor
