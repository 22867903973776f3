/- Untouched and only. -/
import Derived.Test.YteabmambidafpaaDoorBook
namespace Go.Proofs.YteabmambidafpaaDoor
open Go.RowKit

set_option maxHeartbeats 1000000 in
theorem only_calls {w : World} {B : Nat} {v : Value} {n : Nat} {m : Int} (h : Row w B 5 v (List.replicate n (.int .u8 m))) :
    Calls Tryd.prog 38 #[v, .int .u8 m] w fun e w' => e = .returned (.bool true) ∧ w' = w := by
  obtain ⟨a, c, hv⟩ := h.shape
  rw [List.length_replicate] at hv
  subst hv
  have HH : Hid (0 < n → ∃ g, a = some ⟨g, 0, none⟩ ∧ n ≤ c ∧ c ≤ 9223372036854775807 ∧ ∀ j, j < n → w.cell? ⟨g, j, none⟩ = some (.int .u8 m)) := fun hp => by
    obtain ⟨g, c2, hv, h1, h2, _, _⟩ := h.head (by simpa using hp)
    rw [List.length_replicate] at hv h1
    injection hv with e1 _ e3
    subst e1 e3
    refine ⟨g, rfl, h1, h2, fun j hj => ?_⟩
    rw [h.cellAt (by simpa using hj), List.getElem?_replicate, if_pos hj]
  have hn : n ≤ 9223372036854775807 := by
    by_cases hp : 0 < n
    · obtain ⟨g, _, h1, h2, _⟩ := unhide HH hp; omega
    · omega
  clear h
  go_enter Tryd.func38, Tryd.ntmps38
  go_wp2
  go_loop [5] (fun jv => ∃ (j : Nat), j ≤ n ∧ jv = .int .i64 (j : Int)) (fun j => n - (intOf j).toNat)
  case atStart => exact ⟨0, by omega, rfl⟩
  case round =>
    obtain ⟨j, hj, rfl⟩ := hrel
    by_cases hlt : j < n
    · obtain ⟨g, rfl, h1, h2, hc⟩ := unhide HH (by omega)
      have hc1 := hc j hlt
      clear hc
      go_wp2
      go_roundw
      case rel => exact ⟨j + 1, by omega, by go_num⟩
      case measure => simp [intOf]; omega
    · go_wp2
      go_ret
      exact ⟨rfl, rfl⟩

set_option maxRecDepth 100000 in
set_option maxHeartbeats 4000000 in
theorem untouched_calls {w : World} {B gB M n : Nat} {A : Nat → Prop} {U : Nat → Value} {X : Nat → List Int} (h : Bk w B gB M A n U X) (hn : n ≤ 100000) :
    Calls Tryd.prog 37 #[.pointer (some ⟨gB, 0, none⟩)] w fun e w' => e = .returned (.bool true) ∧ Below w.heap.size w w' := by
  obtain ⟨vL, vW, ls, ks, h1, h2, h3, h4, h5, h6, h7, h8, h9, h10⟩ := h.book
  obtain ⟨aL, cL, hvL⟩ := h4.shape
  obtain ⟨aW, cW, hvW⟩ := h5.shape
  rw [h2] at hvL
  rw [h3] at hvW
  subst hvL hvW
  have HB : Hid (∀ W, Below w.heap.size w W → W.cell? ⟨gB, 0, none⟩ = some (.slice aL n cL) ∧ W.cell? ⟨gB, 1, none⟩ = some (.slice aW n cW)) := fun W hW => by
    have e : W.heap[gB]? = some (.cells #[.slice aL n cL, .slice aW n cW] 45 (0, 0)) := by rw [hW.block gB (by have := h.low; omega)]; exact h1
    exact ⟨cell_of_row W gB 0 _ _ _ e, by rw [cell_of_row W gB 1 _ _ _ e]; rfl⟩
  have HR : Hid (0 < n → ∃ gL gW, aL = some ⟨gL, 0, none⟩ ∧ aW = some ⟨gW, 0, none⟩ ∧ n ≤ cL ∧ cL ≤ 9223372036854775807 ∧ n ≤ cW ∧ cW ≤ 9223372036854775807 ∧ ∀ W, Below w.heap.size w W → ∀ k, k < n → ∃ a m c a' m' c', W.cell? ⟨gL, k, none⟩ = some (.slice a m c) ∧ W.cell? ⟨gW, k, none⟩ = some (.slice a' m' c') ∧ IsB W (.slice a m c) (X k) ∧ IsB W (.slice a' m' c') (X k)) := fun hp => by
    obtain ⟨gL, cL2, hv, k1, k2, _, hLw⟩ := h4.head (by omega)
    obtain ⟨gW, cW2, hv2, k3, k4, _, hWw⟩ := h5.head (by omega)
    injection hv with e1 _ e3
    injection hv2 with e4 _ e6
    subst e1 e3 e4 e6
    rw [h2] at k1
    rw [h3] at k3
    refine ⟨gL, gW, rfl, rfl, k1, k2, k3, k4, fun W hW k hk => ?_⟩
    have ho := (h.lines.row k hk).own8 (h.ok k hk).2
    obtain ⟨u, hu, ho2⟩ := h10 k hk
    obtain ⟨a, m, c, hs⟩ := ho.isB.shape
    obtain ⟨a', m', c', rfl⟩ := ho2.isB.shape
    refine ⟨a, m, c, a', m', c', ?_, ?_, by rw [← hs]; exact ho.isB.below hW, ho2.isB.below hW⟩
    · rw [hW.cell (p := ⟨gL, k, none⟩) hLw, h4.cellAt (by omega), h9 k hk, hs]
    · rw [hW.cell (p := ⟨gW, k, none⟩) hWw, h5.cellAt (by omega), hu]
  clear h h1 h2 h3 h4 h5 h6 h7 h8 h9 h10
  go_enter Tryd.func37, Tryd.ntmps37
  go_wp2
  go_loopw [3] (fun iv wr => ∃ (i : Nat), i ≤ n ∧ iv = .int .i64 (i : Int) ∧ Below w.heap.size w wr) (fun i _ => n - (intOf i).toNat)
  case atStart => exact ⟨0, by omega, rfl, Below.refl _ _⟩
  case round =>
    obtain ⟨i, hin, rfl, hb⟩ := hrel
    obtain ⟨hB0, hB1⟩ := unhide HB wr hb
    by_cases hlt : i < n
    · obtain ⟨gL, gW, rfl, rfl, k1, k2, k3, k4, hk⟩ := unhide HR (by omega)
      obtain ⟨a, m, c, a', m', c', c1, c2, I1, I2⟩ := hk wr hb i hlt
      have HSS : Hid (∀ W, Below wr.heap.size wr W → Below wr.heap.size wr W ∧ W.cell? ⟨gB, 0, none⟩ = some (.slice (some ⟨gL, 0, none⟩) n cL) ∧ W.cell? ⟨gB, 1, none⟩ = some (.slice (some ⟨gW, 0, none⟩) n cW) ∧ W.cell? ⟨gL, i, none⟩ = some (.slice a m c) ∧ W.cell? ⟨gW, i, none⟩ = some (.slice a' m' c')) := fun W hW =>
        ⟨hW, (hW.cell (p := ⟨gB, 0, none⟩) (World.block_lt_of_cell? _ _ hB0)).trans hB0, (hW.cell (p := ⟨gB, 1, none⟩) (World.block_lt_of_cell? _ _ hB1)).trans hB1, (hW.cell (p := ⟨gL, i, none⟩) (World.block_lt_of_cell? _ _ c1)).trans c1, (hW.cell (p := ⟨gW, i, none⟩) (World.block_lt_of_cell? _ _ c2)).trans c2⟩
      have HSM : Hid (∀ W, Below wr.heap.size wr W → Calls Tryd.prog 12 #[.slice a m c, .slice a' m' c'] W fun e w' => e = .returned (.bool true) ∧ w' = W) := fun W hW => by
        have := same_calls (I1.below hW) (I2.below hW)
        rwa [decide_eq_true rfl] at this
      clear hk I1 I2
      go_wp2_with fail
      focus (go_region_held3 (fun W => Below wr.heap.size wr W ∧ W.cell? ⟨gB, 0, none⟩ = some (.slice (some ⟨gL, 0, none⟩) n cL) ∧ W.cell? ⟨gB, 1, none⟩ = some (.slice (some ⟨gW, 0, none⟩) n cW) ∧ W.cell? ⟨gL, i, none⟩ = some (.slice a m c) ∧ W.cell? ⟨gW, i, none⟩ = some (.slice a' m' c'))
        ((refine unhide HSS _ ?_; repeat (first | assumption | exact Below.refl _ _ | refine Below.drew ?_)))
        (first
          | (go_at_call 12; refine (unhide HSM _ (Below.drew (Below.refl _ _))).mono ?_; rintro e w2 ⟨rfl, hw2⟩; obtain rfl := hw2.symm)))
      go_wp2
      go_roundw
      case rel => exact ⟨i + 1, by omega, by go_num, hb.drew⟩
      case measure => simp [intOf]; omega
    · go_wp2
      go_ret
      exact ⟨rfl, hb⟩
end Go.Proofs.YteabmambidafpaaDoor
