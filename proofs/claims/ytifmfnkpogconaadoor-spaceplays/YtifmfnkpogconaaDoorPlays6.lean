/- SpacePlays' walk: the second space joins the first one's World. -/
import Derived.Test.YtifmfnkpogconaaDoorLent4
namespace Go.Proofs.YtifmfnkpogconaaDoor
open Go.RowKit

theorem Ch.alloc {B : Nat} {T : TypeId → Prop} {w w' : World} (h : Ch B T w w') (o : Obj) : Ch B T w (w'.alloc o) := h.trans (Ch.of_below (alloc_below w' o))
set_option maxRecDepth 100000 in
set_option maxHeartbeats 4000000 in
theorem plays_none' {w : World} (x y : Int) (v : Value) (h : x < 0 ∨ y ≤ x ∨ 65536 < y) (hT : Tz w) : Calls Tryd.prog 4 #[.int .i64 x, .int .i64 y, v] w fun e w' => e = .returned (.bool true) ∧ Below w.heap.size w w' := by
  have H1 := hide (made_no (w := w) x y h)
  have HS : Hid (∀ W, Below w.heap.size w W → Calls Tryd.prog 10 #[] W fun e w' => e = .returned (.bool true) ∧ Below w.heap.size w w') := fun W hW => (started_calls (hT.below hW)).mono fun e w' ⟨e1, e2⟩ => ⟨e1, hW.trans (e2.mono hW.size)⟩
  clear hT h
  go_enter Tryd.func4, Tryd.ntmps4
  go_wp2_with fail
  refine (unhide H1).mono ?_
  rintro e w1 ⟨rfl, hb1⟩
  have HS1 := hide (unhide HS w1 hb1)
  clear hb1
  go_wp2_with fail
  refine (unhide HS1).mono ?_
  rintro e w2 ⟨rfl, hb2⟩
  go_wp2
  go_ret
  exact ⟨rfl, hb2⟩
/-- The World behind the two made. -/
theorem both_at {w1 w2 : World} {B gW gV fr to_ mid : Nat} (h1 : MadeAt w1 B gW fr to_) (hf : fr < to_) (hB : B ≤ w1.heap.size) (hb : Below w1.heap.size w1 w2) (h2 : MadeAt w2 w1.heap.size gV fr mid) :
    ∃ gS gR vs vr g g2 gw gb, ∃ P : Nat → Pr, Wd w1 B gW 1 P 0 0 (fun _ => .slice none 0 0) (fun _ => []) ∧ Tws 1 P ∧ w2.heap[gW]? = some (.cells #[.slice (some ⟨gS, 0, none⟩) 1 1, .slice (some ⟨gR, 0, none⟩) 1 1, .slice none 0 0, .slice none 0 0, .int .i64 0] 34 (0, 0)) ∧
      Row w2 B 35 (.slice (some ⟨gS, 0, none⟩) 1 1) [.pointer (some ⟨(P 0).g, 0, none⟩)] ∧ Row w2 B 36 (.slice (some ⟨gR, 0, none⟩) 1 1) [.pointer (some ⟨(P 0).g2, 0, none⟩)] ∧
      w2.heap[gV]? = some (.cells #[.slice (some ⟨vs, 0, none⟩) 1 1, .slice (some ⟨vr, 0, none⟩) 1 1, .slice none 0 0, .slice none 0 0, .int .i64 0] 34 (0, 0)) ∧ w2.cell? ⟨vs, 0, none⟩ = some (.pointer (some ⟨g, 0, none⟩)) ∧ w2.heap[vr]? = some (.cells #[.pointer (some ⟨g2, 0, none⟩)] 36 (0, 0)) ∧ w1.heap.size ≤ vr ∧ gW ≠ gV ∧ B ≤ gW ∧
      Sp w2 w1.heap.size g gw fr mid (newW (mid - fr)) ∧ Rs w2 w1.heap.size g2 gb fr mid (List.replicate (mid - fr) true) ∧ (∃ vL vK, Prs w1 B (.slice (some ⟨gS, 0, none⟩) 1 1) (.slice (some ⟨gR, 0, none⟩) 1 1) 1 P ∧ Bk w1 B vL vK 0 (fun _ => .slice none 0 0) (fun _ => []) ∧ vL = .slice none 0 0 ∧ vK = .slice none 0 0) := by
  obtain ⟨gs, gr, g, gw, g2, gb, a1, a2, a3, a4, a5, a6, a7, a8, a9, a10⟩ := h1
  obtain ⟨vs, vr, h, hw, h2', hb2, b1, b2, b3, b4, b5, b6, b7, b8, b9, b10⟩ := h2
  have row1 : ∀ {k : Nat} {t : TypeId} {v : Value}, w1.heap[k]? = some (.cells #[v] t (0, 0)) → B ≤ k → Row w1 B t (.slice (some ⟨k, 0, none⟩) 1 1) [v] := fun {k t v} hk hb =>
    ⟨by simp, .inr ⟨k, 1, #[v], rfl, hb, hk, Nat.le_refl _, by decide, by simp, by simp⟩⟩
  have hP : Prs w1 B (.slice (some ⟨gs, 0, none⟩) 1 1) (.slice (some ⟨gr, 0, none⟩) 1 1) 1 (fun _ => ⟨g, gw, g2, gb, fr, to_, newW (to_ - fr), List.replicate (to_ - fr) true⟩) := by
    refine ⟨⟨_, rfl, row1 a2 a7, fun i hi => ?_⟩, ⟨_, rfl, row1 a3 a8, fun i hi => ?_⟩, fun i hi => ⟨a4, a5⟩, fun i j hi hj hne => by omega⟩
    · obtain rfl : i = 0 := by omega
      rfl
    · obtain rfl : i = 0 := by omega
      rfl
  have hK : Bk w1 B (.slice none 0 0) (.slice none 0 0) 0 (fun _ => .slice none 0 0) (fun _ => []) :=
    ⟨⟨[], rfl, Row.nil _ _ _, fun k hk => by omega⟩, ⟨[], rfl, Row.nil _ _ _, fun k hk => by omega⟩, Or.inl rfl, ⟨fun k hk => by omega, fun k hk => by omega, fun j k hj => by omega⟩, fun k hk => by omega⟩
  have hlt : gW < w1.heap.size := (Array.getElem?_eq_some_iff.1 a1).1
  exact ⟨gs, gr, vs, vr, h, h2', hw, hb2, _, ⟨⟨_, _, _, _, 0, a1, by omega, hP, hK⟩, a6, hB, Nat.le_refl _⟩, fun i hi => Tw.new hf, (hb.block _ hlt).trans a1, (row1 a2 a7).below hb, (row1 a3 a8).below hb, b1, cell_of_row w2 vs 0 _ _ _ b2, b3, b8, by omega, a6, b4, b5, _, _, hP, hK, rfl, rfl⟩
end Go.Proofs.YtifmfnkpogconaaDoor
