/- Flush and Crash. -/
import Derived.Test.YtoiidhkpbekpiaaDoorDkSt
import Derived.Test.YtoiidhkpbekpiaaDoorKA
namespace Go.Proofs.YtoiidhkpbekpiaaDoor
open Go.RowKit Go.Maps

set_option maxRecDepth 100000 in
set_option maxHeartbeats 1000000 in
theorem fated_flush (w : World) (gl n : Nat) : Fated w gl 75 #[] n (fun _ => 9223372036854775807) := by
  refine ⟨enters_of Tryd.func75 (by kernel_rfl) rfl, fun W _ k _ => ?_⟩
  show Calls Tryd.prog 75 #[.int .i64 (k : Int)] W _
  go_enter Tryd.func75, Tryd.ntmps75
  go_wp2
  go_ret
  exact ⟨rfl, Below.refl _ _⟩
theorem dk_flushed {w : World} {p gl gm : Nat} {V : Nat → Value} {D : AD} (h : Dk w p gl gm V D) : Dk (w.setCell ⟨p, 4, none⟩ (.int .i64 (D.fl + 1))) p gl gm V { D with fl := D.fl + 1 } :=
  h.acts (grown_cell w p 4 _) (Int.le_refl _) (h.blk.set 4 _)
theorem settle_fl (D : AD) (fate : Nat → Int) (x : Int) : ({ D with fl := x } : AD).settle fate = { D.settle fate with fl := x } := by
  have : ∀ k, ({ D with fl := x } : AD).laAfter fate k = D.laAfter fate k := fun k => by
    induction k with
    | zero => rfl
    | succ k ih => rw [AD.laAfter, AD.laAfter, ih]; rfl
  show (⟨({ D with fl := x } : AD).laAfter fate _, _, _, _, _⟩ : AD) = _
  rw [this]
  rfl
set_option maxRecDepth 100000 in
set_option maxHeartbeats 1000000 in
theorem flush_calls {w : World} {p gl gm : Nat} {V : Nat → Value} {D : AD} (h : Dk w p gl gm V D) (hwl : ∀ i, (D.wr i).length ≤ 68719476736) (hf0 : 0 ≤ D.fl) (hf1 : D.fl ≤ 1152921504606846976) :
    Calls Tryd.prog 69 #[.pointer (some ⟨p, 0, none⟩)] w fun e w' => e = .returned (.tuple #[]) ∧
      ∃ gm', w.heap.size ≤ gm' ∧ Dk w' p gl gm' (fun _ => .slice none 0 0) D.flush ∧ Up (fun b => b = p ∨ b = gl) w w' := by
  obtain ⟨c0, c1, c2, c3, c4⟩ := h.cells
  have hf4 := h.frozen 4
  have hD1 := dk_flushed h
  have HS := hide (settle_calls hD1 hwl (fated_flush _ gl _))
  rw [settle_fl] at HS
  have e1 : (w.setCell ⟨p, 4, none⟩ (.int .i64 (D.fl + 1))).heap.size = w.heap.size := by simp
  have HU1 : Hid (Up (fun b => b = p ∨ b = gl) w (w.setCell ⟨p, 4, none⟩ (.int .i64 (D.fl + 1)))) := Up.of_grown (grown_cell w p 4 _) (fun g hg => by injection hg with hg; exact Or.inl hg.symm)
  have HFIN : Hid (∀ w', (∃ gm', (w.setCell ⟨p, 4, none⟩ (.int .i64 (D.fl + 1))).heap.size ≤ gm' ∧ Dk w' p gl gm' (fun _ => .slice none 0 0) { D.settle (fun _ => 9223372036854775807) with fl := D.fl + 1 } ∧ Up (fun b => b = p ∨ b = gl) (w.setCell ⟨p, 4, none⟩ (.int .i64 (D.fl + 1))) w') →
      ∃ gm', w.heap.size ≤ gm' ∧ Dk w' p gl gm' (fun _ => .slice none 0 0) D.flush ∧ Up (fun b => b = p ∨ b = gl) w w') := by
    rintro w' ⟨gm', h1, h2, h3⟩
    exact ⟨gm', by rw [e1] at h1; exact h1, h2, HU1.out.trans h3 (fun _ h => Or.inl h)⟩
  clear h hD1 hwl e1
  generalize hq : D.fl = q at *
  have HQ := hide hq
  clear hq
  go_enter Tryd.func69, Tryd.ntmps69
  go_wp2_with fail
  refine (unhide HS).mono ?_
  rintro e w1 ⟨rfl, h1⟩
  have H1 := hide (unhide HFIN w1 h1)
  clear h1 HFIN
  go_wp2
  go_end0
  exact ⟨rfl, H1.out⟩
end Go.Proofs.YtoiidhkpbekpiaaDoor
