/- Copy; From, To. -/
import Derived.Test.YtdafiobonhikiaaGreatDoorQU
import Derived.Laws.Cover3
namespace Go.Proofs.YtdafiobonhikiaaGreatDoor
open Go.RowKit

theorem infoU : (Tryz.prog.info? 126).map (fun i => (i.zero, i.size, i.bytes)) = some (some (.int .u64 0), 1, 8) := by kernel_rfl
theorem w64_one (ws : List Nat) : ∀ u ∈ w64 ws, u.oneCell' = true := by
  intro u hu
  obtain ⟨n, _, rfl⟩ := List.mem_map.1 hu
  rfl
theorem w64_len (ws : List Nat) : (w64 ws).length = ws.length := by simp [w64]
theorem eql_nil (a : Addr) (n c : Nat) (W : World) : (binOp .eql 124 (.slice (some a) n c) (.slice none 0 0)).run Tryz.prog W = .ok (.bool false) W := by
  simp only [binOp]
  simp [run_equal_slice_nil W 124 126 (some a) n c Tryz.underlying124]
set_option maxHeartbeats 1000000 in
theorem clone_calls {w : World} {B gw c : Nat} {ws : List Nat} (h : Row w B 126 (.slice (some ⟨gw, 0, none⟩) ws.length c) (w64 ws)) (hl : ws.length ≤ 1024) (h0 : 0 < ws.length) :
    Calls Tryz.prog 88 #[.slice (some ⟨gw, 0, none⟩) ws.length c] w fun e w' => ∃ g2 c2, e = .returned (.slice (some ⟨g2, 0, none⟩) ws.length c2) ∧ Row w' w.heap.size 126 (.slice (some ⟨g2, 0, none⟩) ws.length c2) (w64 ws) ∧ Below w.heap.size w w' := by
  obtain ⟨i0, hi, hz0, hz1, hz2⟩ := info_part infoU
  have hgw := (h.lt gw rfl).2
  have HN : Hid (∀ j u, (w64 ws)[j]? = some u → (w.alloc (.cells #[] 126)).cell? ((⟨gw, 0, none⟩ : Addr).add j) = some u) := fun j u hj => by
    have hjl := (List.getElem?_eq_some_iff.1 hj).1
    have := h.cellAt hjl
    rw [Addr.add_lit, Nat.zero_add]
    exact ((World.grownBy_alloc w (.cells #[] 126) none).cell (this.trans hj) (by simp))
  have HW := hide (w64_len ws)
  have HO := hide (w64_one ws)
  have HNIL : Hid ((w.alloc (.cells #[] 126)).ownsRow w.heap.size 126 1 (.slice (some ⟨w.heap.size, 0, none⟩) 0 0) 0 []) := World.ownsRow_made w #[] 0 (Nat.le_refl _) (by decide) rfl
  obtain ⟨L, hL⟩ : ∃ L, L = ws.length := ⟨_, rfl⟩
  rw [← hL] at hl h0 HW ⊢
  have hnil := eql_nil ⟨gw, 0, none⟩ L c w
  clear h hL
  go_enter Tryz.func88, Tryz.ntmps88
  go_wp2_with (at_builtin; refine wpList_append_own _ rfl _ _ 124 rfl w.heap.size 126 i0 (.int .u64 0) 1 8 Tryz.underlying124 hi hz0 hz1 hz2 rfl (by decide) _ _ _ rfl (unhide HNIL) ⟨gw, 0, none⟩ L c (w64 ws) rfl (by rw [HW.out]; omega) (unhide HN) (unhide HO) (by unfold maxLen; omega) (by omega) (by simp) ?_; intro v3 w3 hr3 hg3 _)
  go_ret
  have hr4 : Row w3 w.heap.size 126 v3 (w64 ws) := by
    unfold Row
    rw [HW.out]
    simpa using hr3
  obtain ⟨g2, c2, hv, _⟩ := hr4.head (by rw [HW.out]; exact h0)
  rw [HW.out] at hv
  subst hv
  exact ⟨g2, c2, rfl, hr4, ((Below.refl _ _).alloc (Nat.le_refl _) _).grown hg3 (by simp) fun b hb => by
    cases hb
    exact Nat.le_refl _⟩
theorem below_al {w W : World} {o : Obj} (h : Below w.heap.size w W) : Below w.heap.size w (W.alloc o) := h.alloc h.size o
set_option maxRecDepth 100000 in
set_option maxHeartbeats 4000000 in
theorem spCopy_calls {w : World} {B g gw fr to_ : Nat} {ws : List Nat} (h : Sp w B g gw fr to_ ws) :
    Calls Tryz.prog 53 #[.pointer (some ⟨g, 0, none⟩)] w fun e w' => ∃ g2 gw2, e = .returned (.pointer (some ⟨g2, 0, none⟩)) ∧ Sp w' w.heap.size g2 gw2 fr to_ ws ∧ w.heap.size ≤ g2 ∧ Below w.heap.size w w' := by
  obtain ⟨c, c0, c1, c2, hLc, hcm, _, hrow, _, _⟩ := h.view
  have hlen := h.len
  have hrng := h.rng
  have h0 : 0 < ws.length := by omega
  have hl : ws.length ≤ 1024 := by omega
  have HSS : Hid (∀ W, Below w.heap.size w W → Below w.heap.size w W ∧ W.cell? ⟨g, 0, none⟩ = some (.int .i64 (fr : Int)) ∧ W.cell? ⟨g, 1, none⟩ = some (.int .i64 (to_ : Int)) ∧ W.cell? ⟨g, 2, none⟩ = some (.slice (some ⟨gw, 0, none⟩) ws.length c)) := fun W hW =>
    ⟨hW, (hW.cell (p := ⟨g, 0, none⟩) (World.block_lt_of_cell? _ _ c0)).trans c0, (hW.cell (p := ⟨g, 1, none⟩) (World.block_lt_of_cell? _ _ c1)).trans c1, (hW.cell (p := ⟨g, 2, none⟩) (World.block_lt_of_cell? _ _ c2)).trans c2⟩
  have HCL : Hid (∀ W, Below w.heap.size w W → Calls Tryz.prog 88 #[.slice (some ⟨gw, 0, none⟩) ws.length c] W fun e w' => ∃ g2 c2, e = .returned (.slice (some ⟨g2, 0, none⟩) ws.length c2) ∧ Row w' W.heap.size 126 (.slice (some ⟨g2, 0, none⟩) ws.length c2) (w64 ws) ∧ Below W.heap.size W w') := fun W hW => clone_calls (hrow.out (Out.of_below (B := 0) (S := 0) hW) fun _ _ => Or.inr (Nat.zero_le _)) hl h0
  have HEND : Hid (∀ (W : World) (c3 g3 : Nat), w.heap.size ≤ W.heap.size → Row W w.heap.size 126 (.slice (some ⟨g3, 0, none⟩) ws.length c3) (w64 ws) → Sp (W.alloc (.cells #[.int .i64 (fr : Int), .int .i64 (to_ : Int), .slice (some ⟨g3, 0, none⟩) ws.length c3] 128)) w.heap.size W.heap.size g3 fr to_ ws) := fun W c3 g3 hs hr =>
    ⟨⟨c3, heap_alloc_new W _, hr.kept (World.grownBy_alloc W _ none) (by simp [Value.ownBlock])⟩, h.rng, h.len, h.wd, h.top⟩
  obtain ⟨L, hL⟩ : ∃ L, L = ws.length := ⟨_, rfl⟩
  rw [← hL] at HSS HCL HEND c2
  clear h hrow hlen hL
  go_enter Tryz.func53, Tryz.ntmps53
  go_wp2_with fail
  focus (go_region_held3 (fun W => Below w.heap.size w W ∧ W.cell? ⟨g, 0, none⟩ = some (.int .i64 (fr : Int)) ∧ W.cell? ⟨g, 1, none⟩ = some (.int .i64 (to_ : Int)) ∧ W.cell? ⟨g, 2, none⟩ = some (.slice (some ⟨gw, 0, none⟩) L c))
    ((refine unhide HSS _ ?_; repeat (first | assumption | exact Below.refl _ _ | refine Below.drew ?_ | refine below_al ?_)))
    (first
      | (go_at_call 88; refine (unhide HCL _ (Below.drew (Below.refl _ _))).mono ?_; rintro e w2 ⟨g2, c3, rfl, hr2, hb2'⟩; have hb2 : Below w.heap.size w w2 := ⟨hb2'.os, hb2'.tape, hb2'.output, hb2'.size, hb2'.block⟩)))
  go_wp2
  go_ret
  exact ⟨w2.heap.size, g2, rfl, unhide HEND w2 c3 g2 hb2.size hr2, hb2.size, below_al hb2⟩
end Go.Proofs.YtdafiobonhikiaaGreatDoor
