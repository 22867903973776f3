/- 1.9, three bits: what single bits do to the sum are, the lowest bit aside, no two the same: reckoned by the kernel, in a trie. -/
import Derived.Test.YtmjoecbpcfjalabDoorTell
namespace Go.Proofs.YtmjoecbpcfjalabDoor
open Go.RowKit

inductive Trie where
  | e : Trie
  | leaf : Nat → Trie
  | node : Trie → Trie → Trie
abbrev TSt := Option (Nat × Trie)
def forceN {α : Type} (n : Nat) (c : Nat → α) : α := Nat.rec (c 0) (fun m _ => c (Nat.succ m)) n
theorem forceN_eq {α : Type} (n : Nat) (c : Nat → α) : forceN n c = c n := by cases n <;> rfl
def ins : Nat → Nat → Trie → (Trie → TSt) → TSt
  | 0, _, _, _ => none
  | _ + 1, k, .e, c => c (.leaf k)
  | f + 1, k, .leaf k', c => bif Nat.beq k k' then none else bif Nat.beq (k' % 2) 0 then ins f k (.node (.leaf (k' / 2)) .e) c else ins f k (.node .e (.leaf (k' / 2))) c
  | f + 1, k, .node l r, c => bif Nat.beq (k % 2) 0 then forceN (k / 2) fun k2 => ins f k2 l fun l' => c (.node l' r) else forceN (k / 2) fun k2 => ins f k2 r fun r' => c (.node l r')
def t1b (r : Nat) : Nat := bif Nat.beq (r % 2) 1 then Nat.xor (r / 2) 3988292384 else r / 2
def keyRun : Nat → Nat → Trie → TSt
  | 0, y, t => forceN (y / 2) fun k => ins 70 k t fun t' => forceN (t1b y) fun y' => some (y', t')
  | d + 1, y, t => match keyRun d y t with
    | none => none
    | some (y', t') => keyRun d y' t'
def keysOk (d : Nat) : Bool := (keyRun d 1 .e).isSome

theorem t1b_eq (r : Nat) : t1b r = t1 r := by
  unfold t1b t1
  by_cases h : r % 2 = 1
  · rw [if_pos h, h]; rfl
  · have h0 : r % 2 = 0 := by omega
    rw [if_neg h, h0]; rfl
/-- The key is in the trie. -/
def Trie.has : Trie → Nat → Prop
  | .e, _ => False
  | .leaf k', k => k = k'
  | .node l r, k => if k % 2 = 0 then l.has (k / 2) else r.has (k / 2)

theorem ins_some : ∀ (f k : Nat) (t : Trie) (c : Trie → TSt) (s : Nat × Trie), ins f k t c = some s → ∃ t', c t' = some s ∧ ¬ t.has k ∧ t'.has k ∧ ∀ x, t.has x → t'.has x := by
  intro f
  induction f with
  | zero => intro k t c s h; simp [ins] at h
  | succ f ih =>
    intro k t c s h
    cases t with
    | e => exact ⟨_, h, fun h => h, rfl, fun x hx => hx.elim⟩
    | leaf k' =>
      rw [ins] at h
      cases hk : Nat.beq k k' with
      | true => rw [hk] at h; simp at h
      | false =>
        rw [hk] at h
        have hne : k ≠ k' := Nat.ne_of_beq_eq_false hk
        cases he : Nat.beq (k' % 2) 0 with
        | true =>
          rw [he] at h
          have he' : k' % 2 = 0 := Nat.eq_of_beq_eq_true he
          obtain ⟨t', h1, _, h3, h4⟩ := ih _ _ _ _ h
          refine ⟨t', h1, hne, h3, fun x hx => h4 x ?_⟩
          have hx' : x = k' := hx
          subst hx'
          show if x % 2 = 0 then _ else _
          rw [if_pos he']
          rfl
        | false =>
          rw [he] at h
          have he' : ¬ k' % 2 = 0 := Nat.ne_of_beq_eq_false he
          obtain ⟨t', h1, _, h3, h4⟩ := ih _ _ _ _ h
          refine ⟨t', h1, hne, h3, fun x hx => h4 x ?_⟩
          have hx' : x = k' := hx
          subst hx'
          show if x % 2 = 0 then _ else _
          rw [if_neg he']
          rfl
    | node l r =>
      rw [ins, forceN_eq, forceN_eq] at h
      cases he : Nat.beq (k % 2) 0 with
      | true =>
        rw [he] at h
        have he' : k % 2 = 0 := Nat.eq_of_beq_eq_true he
        obtain ⟨t', h1, h2, h3, h4⟩ := ih _ _ _ _ h
        refine ⟨_, h1, ?_, ?_, fun x hx => ?_⟩
        · show ¬ (if k % 2 = 0 then _ else _)
          rw [if_pos he']; exact h2
        · show if k % 2 = 0 then _ else _
          rw [if_pos he']; exact h3
        · have hx' : if x % 2 = 0 then l.has (x / 2) else r.has (x / 2) := hx
          show if x % 2 = 0 then _ else _
          by_cases hx2 : x % 2 = 0
          · rw [if_pos hx2] at hx' ⊢; exact h4 _ hx'
          · rw [if_neg hx2] at hx' ⊢; exact hx'
      | false =>
        rw [he] at h
        have he' : ¬ k % 2 = 0 := Nat.ne_of_beq_eq_false he
        obtain ⟨t', h1, h2, h3, h4⟩ := ih _ _ _ _ h
        refine ⟨_, h1, ?_, ?_, fun x hx => ?_⟩
        · show ¬ (if k % 2 = 0 then _ else _)
          rw [if_neg he']; exact h2
        · show if k % 2 = 0 then _ else _
          rw [if_neg he']; exact h3
        · have hx' : if x % 2 = 0 then l.has (x / 2) else r.has (x / 2) := hx
          show if x % 2 = 0 then _ else _
          by_cases hx2 : x % 2 = 0
          · rw [if_pos hx2] at hx' ⊢; exact hx'
          · rw [if_neg hx2] at hx' ⊢; exact h4 _ hx'

theorem keyRun_some : ∀ (d y : Nat) (t : Trie) (y' : Nat) (t' : Trie), keyRun d y t = some (y', t') → y' = tN (2 ^ d) y ∧ (∀ x, t.has x → t'.has x) ∧ (∀ i, i < 2 ^ d → ¬ t.has (tN i y / 2) ∧ t'.has (tN i y / 2)) ∧
    ∀ i j, i < j → j < 2 ^ d → tN i y / 2 ≠ tN j y / 2 := by
  intro d
  induction d with
  | zero =>
    intro y t y' t' h
    rw [keyRun, forceN_eq] at h
    obtain ⟨t1', h1, h2, h3, h4⟩ := ins_some _ _ _ _ _ h
    rw [forceN_eq] at h1
    injection h1 with h1
    injection h1 with e1 e2
    subst e1 e2
    refine ⟨t1b_eq y, h4, fun i hi => ?_, fun i j hij hj => by simp at hj; omega⟩
    obtain rfl : i = 0 := by simp at hi; exact hi
    exact ⟨h2, h3⟩
  | succ d ih =>
    intro y t y' t' h
    rw [keyRun] at h
    cases hm : keyRun d y t with
    | none => rw [hm] at h; simp at h
    | some s =>
      obtain ⟨y1, t1'⟩ := s
      rw [hm] at h
      obtain ⟨a1, a2, a3, a4⟩ := ih _ _ _ _ hm
      obtain ⟨b1, b2, b3, b4⟩ := ih _ _ _ _ h
      have e : ∀ i, tN i y1 = tN (2 ^ d + i) y := fun i => by rw [a1, ← tN_add]
      have hp : 2 ^ (d + 1) = 2 ^ d + 2 ^ d := by rw [Nat.pow_succ]; omega
      refine ⟨by rw [b1, e, hp], fun x hx => b2 x (a2 x hx), fun i hi => ?_, fun i j hij hj => ?_⟩
      · by_cases hi2 : i < 2 ^ d
        · exact ⟨(a3 i hi2).1, b2 _ (a3 i hi2).2⟩
        · have h5 := b3 (i - 2 ^ d) (by omega)
          rw [e, show 2 ^ d + (i - 2 ^ d) = i by omega] at h5
          exact ⟨fun hx => h5.1 (a2 _ hx), h5.2⟩
      · by_cases hj2 : j < 2 ^ d
        · exact a4 i j hij hj2
        · have h5 := b3 (j - 2 ^ d) (by omega)
          rw [e, show 2 ^ d + (j - 2 ^ d) = j by omega] at h5
          by_cases hi2 : i < 2 ^ d
          · intro hh
            rw [← hh] at h5
            exact h5.1 (a3 i hi2).2
          · have h6 := b4 (i - 2 ^ d) (j - 2 ^ d) (by omega) (by omega)
            rwa [e, e, show 2 ^ d + (i - 2 ^ d) = i by omega, show 2 ^ d + (j - 2 ^ d) = j by omega] at h6

/-- What the kernel's reckoning says. -/
theorem keys_of {d : Nat} (h : keysOk d = true) {i j : Nat} (hij : i < j) (hj : j < 2 ^ d) : tN i 1 / 2 ≠ tN j 1 / 2 := by
  unfold keysOk at h
  cases hm : keyRun d 1 .e with
  | none => rw [hm] at h; simp at h
  | some s =>
    obtain ⟨y', t'⟩ := s
    exact (keyRun_some _ _ _ _ _ hm).2.2.2 i j hij hj
end Go.Proofs.YtmjoecbpcfjalabDoor
