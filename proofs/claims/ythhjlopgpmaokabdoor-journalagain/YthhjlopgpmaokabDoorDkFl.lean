/- Flush and Crash. -/
import Derived.Test.YthhjlopgpmaokabDoorDkSt
import Derived.Test.YthhjlopgpmaokabDoorInts
namespace Go.Proofs.YthhjlopgpmaokabDoor
open Go.RowKit Go.Maps

theorem settle_enter (v u : Value) (W : World) : (callFunc 65 #[v, u]).run Tryd.prog W = .ok (.enter 65 #[v, u]) W := by kernel_rfl
/-- The block of a slice that holds something. -/
def Value.inBlock (v : Value) (b : Nat) : Prop := ∃ off n c, v = .slice (some ⟨b, off, none⟩) n c ∧ 0 < n
theorem IsI.up {F : Nat → Prop} {w w' : World} {v : Value} {xs : List Int} (h : IsI w v xs) (hu : Up F w w') (hF : ∀ b, Value.inBlock v b → ¬ F b) : IsI w' v xs := by
  obtain ⟨h1, a, cap, hv, hl, hm, hc⟩ := h
  refine ⟨h1, a, cap, hv, hl, hm, fun hp => ?_⟩
  obtain ⟨b, off, ha, hcell⟩ := hc hp
  exact ⟨b, off, ha, fun j hj => hu.cell (hcell j hj) (hF b ⟨off, xs.length, cap, by rw [hv, ha], hp⟩)⟩
set_option maxRecDepth 100000 in
set_option maxHeartbeats 1000000 in
theorem fated_flush (w : World) (gl n : Nat) : Fated w gl 66 #[] n (fun _ => 9223372036854775807) := by
  refine ⟨enters_of Tryd.func66 (by kernel_rfl) rfl, fun W _ k _ => ?_⟩
  show Calls Tryd.prog 66 #[.int .i64 (k : Int)] W _
  go_enter Tryd.func66, Tryd.ntmps66
  go_wp2
  go_ret
  exact ⟨rfl, Below.refl _ _⟩
theorem dk_flushed {w : World} {p gl gm : Nat} {V : Nat → Value} {D : AD} (h : Dk w p gl gm V D) : Dk (w.setCell ⟨p, 4, none⟩ (.int .i64 (D.fl + 1))) p gl gm V { D with fl := D.fl + 1 } :=
  h.acts (grown_cell w p 4 _) (Int.le_refl _) (h.blk.set 4 _)
theorem settle_fl (D : AD) (fate : Nat → Int) (x : Int) : ({ D with fl := x } : AD).settle fate = { D.settle fate with fl := x } := by
  have : ∀ k, ({ D with fl := x } : AD).laAfter fate k = D.laAfter fate k := fun k => by
    induction k with
    | zero => rfl
    | succ k ih => rw [AD.laAfter, AD.laAfter, ih]; rfl
  show (⟨({ D with fl := x } : AD).laAfter fate _, _, _, _, _⟩ : AD) = _
  rw [this]
  rfl
set_option maxRecDepth 100000 in
set_option maxHeartbeats 1000000 in
theorem flush_calls {w : World} {p gl gm : Nat} {V : Nat → Value} {D : AD} (h : Dk w p gl gm V D) (hwl : ∀ i, (D.wr i).length ≤ 68719476736) (hf0 : 0 ≤ D.fl) (hf1 : D.fl ≤ 1152921504606846976) :
    Calls Tryd.prog 60 #[.pointer (some ⟨p, 0, none⟩)] w fun e w' => e = .returned (.tuple #[]) ∧
      ∃ gm', w.heap.size ≤ gm' ∧ Dk w' p gl gm' (fun _ => .slice none 0 0) D.flush ∧ Up (fun b => b = p ∨ b = gl) w w' := by
  obtain ⟨c0, c1, c2, c3, c4⟩ := h.cells
  have hf4 := h.frozen 4
  have hD1 := dk_flushed h
  have HS := hide (settle_calls hD1 hwl (fated_flush _ gl _))
  rw [settle_fl] at HS
  have e1 : (w.setCell ⟨p, 4, none⟩ (.int .i64 (D.fl + 1))).heap.size = w.heap.size := by simp
  have HU1 : Hid (Up (fun b => b = p ∨ b = gl) w (w.setCell ⟨p, 4, none⟩ (.int .i64 (D.fl + 1)))) := Up.of_grown (grown_cell w p 4 _) (fun g hg => by injection hg with hg; exact Or.inl hg.symm)
  have HFIN : Hid (∀ w', (∃ gm', (w.setCell ⟨p, 4, none⟩ (.int .i64 (D.fl + 1))).heap.size ≤ gm' ∧ Dk w' p gl gm' (fun _ => .slice none 0 0) { D.settle (fun _ => 9223372036854775807) with fl := D.fl + 1 } ∧ Up (fun b => b = p ∨ b = gl) (w.setCell ⟨p, 4, none⟩ (.int .i64 (D.fl + 1))) w') →
      ∃ gm', w.heap.size ≤ gm' ∧ Dk w' p gl gm' (fun _ => .slice none 0 0) D.flush ∧ Up (fun b => b = p ∨ b = gl) w w') := by
    rintro w' ⟨gm', h1, h2, h3⟩
    exact ⟨gm', by rw [e1] at h1; exact h1, h2, HU1.out.trans h3 (fun _ h => Or.inl h)⟩
  clear h hD1 hwl e1
  generalize hq : D.fl = q at *
  have HQ := hide hq
  clear hq
  go_enter Tryd.func60, Tryd.ntmps60
  go_wp2_with fail
  refine (unhide HS).mono ?_
  rintro e w1 ⟨rfl, h1⟩
  have H1 := hide (unhide HFIN w1 h1)
  clear h1 HFIN
  go_wp2
  go_end0
  exact ⟨rfl, H1.out⟩
end Go.Proofs.YthhjlopgpmaokabDoor
