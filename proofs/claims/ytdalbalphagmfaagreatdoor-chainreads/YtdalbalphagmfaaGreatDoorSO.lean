/- chain's statements: one Step of a writer in hand. chain's statements: a writer begun. -/
import Derived.Test.YtdalbalphagmfaaGreatDoorSN
namespace Go.Proofs.YtdalbalphagmfaaGreatDoor
open Go.RowKit Go.Maps

theorem bacts_enter (v u z q : Value) (W : World) : (callFunc 28 #[v, u, z, q]).run Tryz.prog W = .ok (.enter 28 #[v, u, z, q]) W := by kernel_rfl
end Go.Proofs.YtdalbalphagmfaaGreatDoor

namespace Go.Proofs.YtdalbalphagmfaaGreatDoor
open Go.RowKit Go.Maps

/-- The base, but for its spaces. -/
structure Bc (W : World) (gx ga ca n : Nat) (us : List Value) (ims : List (List Int)) (p gl gm : Nat) (V : Nat → Value) (D : AD) (g gr B0 : Nat) : Prop where
 arr : Arr W gx 47 [.pointer (some ⟨p, 0, none⟩), .pointer (some ⟨g, 0, none⟩), .slice (some ⟨ga, 0, none⟩) n ca, .pointer (some ⟨gr, 0, none⟩)]
 ig : Ig W B0 (.slice (some ⟨ga, 0, none⟩) n ca) us ims
 nl : ims.length = n
 dk : Dk W p gl gm V D
 dn : D.la.length = n
 tt : TT W
section
variable {w W W1 : World} {gx ga ca n p gl gm g gr B0 B gw gb fr to_ m1 m2 : Nat} {us : List Value} {ims : List (List Int)} {V : Nat → Value} {D : AD} {ws : List Nat} {bl : List Bool}
/-- Blocks of other types may change. -/
theorem Bc.up {F : Nat → Prop} (h : Bc W gx ga ca n us ims p gl gm V D g gr B0) (hu : Up F W W1) (h1 : ∀ b, F b → GB ≤ b) (h2 : ∀ b, F b → ∃ t, Ty W b t ∧ t ≠ 47 ∧ t ≠ 26 ∧ t ≠ 5 ∧ t ≠ 123 ∧ t ≠ 119) : Bc W1 gx ga ca n us ims p gl gm V D g gr B0 := by
 have hne : ∀ {b : Nat} {t : TypeId}, Ty W b t → (t = 47 ∨ t = 26 ∨ t = 5 ∨ t = 123 ∨ t = 119) → ¬ F b := fun hb ht e => by
  obtain ⟨t', q, q1, q2, q3, q4, q5⟩ := h2 _ e
  obtain rfl := hb.one q
  rcases ht with ht | ht | ht | ht | ht
  · exact q1 ht
  · exact q2 ht
  · exact q3 ht
  · exact q4 ht
  · exact q5 ht
 refine ⟨h.arr.up hu (hne h.arr.ty (by simp)), h.ig.up hu (fun b hb => ?_) (fun b hb => hne hb (by simp)), h.nl, h.dk.up hu (fun b hb e => ?_), h.dn, h.tt.up hu h1⟩
 · obtain ⟨_, c, m, q⟩ := row_blk h.ig.own hb
   exact hne ⟨c, m, q⟩ (by simp)
 · obtain ⟨t, q, q1, q2, q3, q4, q5⟩ := h2 _ e
   rcases h.dk.ty hb q with e | e
   · exact q4 e
   · exact q5 e
theorem Bc.below (h : Bc W gx ga ca n us ims p gl gm V D g gr B0) (hb : Below W.heap.size W W1) : Bc W1 gx ga ca n us ims p gl gm V D g gr B0 := h.up (F := fun _ => False) (Up.of_below hb) (fun _ h => h.elim) (fun _ h => h.elim)
end
end Go.Proofs.YtdalbalphagmfaaGreatDoor
