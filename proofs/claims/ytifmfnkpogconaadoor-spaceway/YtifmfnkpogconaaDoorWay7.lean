/- SpaceWay: each call of the one and of the other space. -/
import Derived.Test.YtifmfnkpogconaaDoorWay5
import Derived.Test.YtifmfnkpogconaaDoorDoes4
namespace Go.Proofs.YtifmfnkpogconaaDoor
open Go.RowKit

def TU (t : TypeId) : Prop := t = 71
section
variable {w W W' : World} {ga gwa gb gwb gg n f t : Nat} {wsA wsB : List Nat} {gl : List Bool}
theorem Wm.chA (h : Wm w W ga gwa gb gwb gg n f t wsA wsB gl) (hg : W.grownBy W' (some gwa)) : Ch 0 TU W W' := by
  obtain ⟨k1, cs, mk, k2⟩ := h.a.words
  exact Ch.of_grown hg (Nat.zero_le _) k2 rfl
theorem Wm.chB (h : Wm w W ga gwa gb gwb gg n f t wsA wsB gl) (hg : W.grownBy W' (some gwb)) : Ch 0 TU W W' := by
  obtain ⟨k1, cs, mk, k2⟩ := h.b.words
  exact Ch.of_grown hg (Nat.zero_le _) k2 rfl

theorem Wm.claimA (h : Wm w W ga gwa gb gwb gg n f t wsA wsB gl) (N : Int) : Calls Tryd.prog 20 #[.pointer (some ⟨ga, 0, none⟩), .int .i64 N] W fun e w' => e = .returned (.bool (hasB f t wsA N)) ∧ Hid (Wm w w' ga gwa gb gwb gg n f t (claimW f t wsA N) wsB gl) ∧ Ch 0 TU W w' :=
  (claim_calls h.a N).mono fun _ _ ⟨e1, e2, e3⟩ => ⟨e1, h.moveA e2 e3, h.chA e3⟩
theorem Wm.giveA (h : Wm w W ga gwa gb gwb gg n f t wsA wsB gl) (N : Int) : Calls Tryd.prog 21 #[.pointer (some ⟨ga, 0, none⟩), .int .i64 N] W fun e w' => e = .returned (.bool (giveB f t wsA N)) ∧ Hid (Wm w w' ga gwa gb gwb gg n f t (giveW f t wsA N) wsB gl) ∧ Ch 0 TU W w' :=
  (give_calls h.a N).mono fun _ _ ⟨e1, e2, e3⟩ => ⟨e1, h.moveA e2 e3, h.chA e3⟩
theorem Wm.hasA (h : Wm w W ga gwa gb gwb gg n f t wsA wsB gl) (N : Int) : Calls Tryd.prog 25 #[.pointer (some ⟨ga, 0, none⟩), .int .i64 N] W fun e w' => e = .returned (.bool (hasB f t wsA N)) ∧ Below W.heap.size W w' := has_calls h.a N
theorem Wm.takeNoA (h : Wm w W ga gwa gb gwb gg n f t wsA wsB gl) (hT : Tz W) (hl : allF f 0 wsA = []) : Calls Tryd.prog 18 #[.pointer (some ⟨ga, 0, none⟩)] W fun e w' => e = .returned (.tuple #[.int .i64 0, .bool false]) ∧ w' = W :=
  (take_calls h.a hT).mono fun _ _ hd => by
    rcases hd with ⟨_, e1, e2⟩ | ⟨_, _, e1, _⟩
    · exact ⟨e1, e2⟩
    · rw [hl] at e1; cases e1
theorem Wm.takeA (h : Wm w W ga gwa gb gwb gg n f t wsA wsB gl) (hT : Tz W) {q : Nat} {l : List Nat} (hl : allF f 0 wsA = q :: l) : Calls Tryd.prog 18 #[.pointer (some ⟨ga, 0, none⟩)] W fun e w' => e = .returned (.tuple #[.int .i64 (q : Int), .bool true]) ∧ Hid (Wm w w' ga gwa gb gwb gg n f t (claimW f t wsA (q : Int)) wsB gl) ∧ Ch 0 TU W w' :=
  (take_calls h.a hT).mono fun _ _ hd => by
    rcases hd with ⟨e0, _, _⟩ | ⟨_, _, e1, e2, e3, e4⟩
    · rw [hl] at e0; cases e0
    · rw [hl] at e1
      injection e1 with e1 _
      subst e1
      exact ⟨e2, h.moveA e3 e4, h.chA e4⟩
theorem Wm.allA (h : Wm w W ga gwa gb gwb gg n f t wsA wsB gl) (hT : Tz W) (k : Nat) (hk : k ≤ freeN wsA) : Calls Tryd.prog 19 #[.pointer (some ⟨ga, 0, none⟩), .int .i64 (k : Int)] W fun e w' => ∃ v, e = .returned (.tuple #[v, .bool true]) ∧ Hid (Row w' W.heap.size 3 v (iV ((allF f 0 wsA).take k)) ∧ Wm w w' ga gwa gb gwb gg n f t (claimAll f t wsA ((allF f 0 wsA).take k)) wsB gl) ∧ Ch 0 TU W w' :=
  (takeAll_calls h.a hT k hk).mono fun _ _ ⟨v, e1, e2, e3, e4⟩ => ⟨v, e1, ⟨e2, h.moveA e3 e4⟩, h.chA e4⟩
theorem Wm.claimB (h : Wm w W ga gwa gb gwb gg n f t wsA wsB gl) (N : Int) : Calls Tryd.prog 20 #[.pointer (some ⟨gb, 0, none⟩), .int .i64 N] W fun e w' => e = .returned (.bool (hasB f t wsB N)) ∧ Hid (Wm w w' ga gwa gb gwb gg n f t wsA (claimW f t wsB N) gl) ∧ Ch 0 TU W w' :=
  (claim_calls h.b N).mono fun _ _ ⟨e1, e2, e3⟩ => ⟨e1, h.moveB e2 e3, h.chB e3⟩
theorem Wm.giveB (h : Wm w W ga gwa gb gwb gg n f t wsA wsB gl) (N : Int) : Calls Tryd.prog 21 #[.pointer (some ⟨gb, 0, none⟩), .int .i64 N] W fun e w' => e = .returned (.bool (giveB f t wsB N)) ∧ Hid (Wm w w' ga gwa gb gwb gg n f t wsA (giveW f t wsB N) gl) ∧ Ch 0 TU W w' :=
  (give_calls h.b N).mono fun _ _ ⟨e1, e2, e3⟩ => ⟨e1, h.moveB e2 e3, h.chB e3⟩
theorem Wm.hasB (h : Wm w W ga gwa gb gwb gg n f t wsA wsB gl) (N : Int) : Calls Tryd.prog 25 #[.pointer (some ⟨gb, 0, none⟩), .int .i64 N] W fun e w' => e = .returned (.bool (hasB f t wsB N)) ∧ Below W.heap.size W w' := has_calls h.b N
theorem Wm.takeNoB (h : Wm w W ga gwa gb gwb gg n f t wsA wsB gl) (hT : Tz W) (hl : allF f 0 wsB = []) : Calls Tryd.prog 18 #[.pointer (some ⟨gb, 0, none⟩)] W fun e w' => e = .returned (.tuple #[.int .i64 0, .bool false]) ∧ w' = W :=
  (take_calls h.b hT).mono fun _ _ hd => by
    rcases hd with ⟨_, e1, e2⟩ | ⟨_, _, e1, _⟩
    · exact ⟨e1, e2⟩
    · rw [hl] at e1; cases e1
theorem Wm.takeB (h : Wm w W ga gwa gb gwb gg n f t wsA wsB gl) (hT : Tz W) {q : Nat} {l : List Nat} (hl : allF f 0 wsB = q :: l) : Calls Tryd.prog 18 #[.pointer (some ⟨gb, 0, none⟩)] W fun e w' => e = .returned (.tuple #[.int .i64 (q : Int), .bool true]) ∧ Hid (Wm w w' ga gwa gb gwb gg n f t wsA (claimW f t wsB (q : Int)) gl) ∧ Ch 0 TU W w' :=
  (take_calls h.b hT).mono fun _ _ hd => by
    rcases hd with ⟨e0, _, _⟩ | ⟨_, _, e1, e2, e3, e4⟩
    · rw [hl] at e0; cases e0
    · rw [hl] at e1
      injection e1 with e1 _
      subst e1
      exact ⟨e2, h.moveB e3 e4, h.chB e4⟩
theorem Wm.allB (h : Wm w W ga gwa gb gwb gg n f t wsA wsB gl) (hT : Tz W) (k : Nat) (hk : k ≤ freeN wsB) : Calls Tryd.prog 19 #[.pointer (some ⟨gb, 0, none⟩), .int .i64 (k : Int)] W fun e w' => ∃ v, e = .returned (.tuple #[v, .bool true]) ∧ Hid (Row w' W.heap.size 3 v (iV ((allF f 0 wsB).take k)) ∧ Wm w w' ga gwa gb gwb gg n f t wsA (claimAll f t wsB ((allF f 0 wsB).take k)) gl) ∧ Ch 0 TU W w' :=
  (takeAll_calls h.b hT k hk).mono fun _ _ ⟨v, e1, e2, e3, e4⟩ => ⟨v, e1, ⟨e2, h.moveB e3 e4⟩, h.chB e4⟩
theorem Wm.copyA (h : Wm w W ga gwa gb gwb gg n f t wsA wsB gl) : Calls Tryd.prog 24 #[.pointer (some ⟨ga, 0, none⟩)] W fun e w' => ∃ g2 gw2, e = .returned (.pointer (some ⟨g2, 0, none⟩)) ∧ Hid (Wm w w' g2 gw2 gb gwb gg n f t wsA wsB gl) ∧ Below W.heap.size W w' :=
  (spCopy_calls h.a).mono fun _ w' ⟨g2, gw2, e1, e2, _, e4⟩ => by
    have hb := h.below e4
    obtain ⟨_, _, _, k2⟩ := h.b.words
    have hlt := (Array.getElem?_eq_some_iff.1 k2).1
    have hge := e2.words.1
    exact ⟨g2, gw2, e1, ⟨hb.bel, e2.mono h.bel.size, hb.b, by omega, hb.gone, hb.len⟩, e4⟩
end
end Go.Proofs.YtifmfnkpogconaaDoor
