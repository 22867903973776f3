/- 1.9, three bits: what single bits do to the sum are, the lowest bit aside, no two the same: reckoned by the kernel, in a tree of lists. -/
import Derived.Test.YtmfpkoegpoboiabDoorTell
namespace Go.Proofs.YtmfpkoegpoboiabDoor
open Go.RowKit

/-- A tree of so many floors, a list at each end. -/
def Tr : Nat → Type
  | 0 => List Nat
  | d + 1 => Tr d × Tr d
def trE : (d : Nat) → Tr d
  | 0 => ([] : List Nat)
  | d + 1 => (trE d, trE d)
abbrev TSt := Option (Nat × Tr 12)
def forceN {α : Type} (n : Nat) (c : Nat → α) : α := Nat.rec (c 0) (fun m _ => c (Nat.succ m)) n
theorem forceN_eq {α : Type} (n : Nat) (c : Nat → α) : forceN n c = c n := by cases n <;> rfl
/-- Is the number in the list? -/
def inL : List Nat → Nat → Bool
  | [], _ => false
  | a :: l, k => bif Nat.beq a k then true else inL l k
theorem inL_mem : ∀ (l : List Nat) (k : Nat), inL l k = false → k ∉ l
  | [], _, _ => by simp
  | a :: l, k, h => by
    rw [inL] at h
    cases hb : Nat.beq a k with
    | true => rw [hb] at h; simp at h
    | false =>
      rw [hb] at h
      have h1 : a ≠ k := Nat.ne_of_beq_eq_false hb
      have h2 := inL_mem l k h
      simp only [List.mem_cons, not_or]
      exact ⟨fun e => h1 e.symm, h2⟩
def ins : (d : Nat) → Nat → Tr d → (Tr d → TSt) → TSt
  | 0, k, l, c => bif inL l k then none else c (k :: l : List Nat)
  | d + 1, k, (l, r), c => bif Nat.beq (k % 2) 0 then forceN (k / 2) fun k2 => ins d k2 l fun l' => c (l', r) else forceN (k / 2) fun k2 => ins d k2 r fun r' => c (l, r')
def t1b (r : Nat) : Nat := bif Nat.beq (r % 2) 1 then Nat.xor (r / 2) 3988292384 else r / 2
def keyRun : Nat → Nat → Tr 12 → TSt
  | 0, y, t => forceN (y / 2) fun k => ins 12 k t fun t' => forceN (t1b y) fun y' => some (y', t')
  | d + 1, y, t => match keyRun d y t with
    | none => none
    | some (y', t') => keyRun d y' t'
def keysOk (d : Nat) : Bool := (keyRun d 1 (trE 12)).isSome

theorem t1b_eq (r : Nat) : t1b r = t1 r := by
  unfold t1b t1
  by_cases h : r % 2 = 1
  · rw [if_pos h, h]; rfl
  · have h0 : r % 2 = 0 := by omega
    rw [if_neg h, h0]; rfl
/-- The key is in the tree. -/
def Tr.has : (d : Nat) → Tr d → Nat → Prop
  | 0, l, k => k ∈ (show List Nat from l)
  | d + 1, t, k => if k % 2 = 0 then Tr.has d (show Tr d × Tr d from t).1 (k / 2) else Tr.has d (show Tr d × Tr d from t).2 (k / 2)

theorem ins_some : ∀ (d k : Nat) (t : Tr d) (c : Tr d → TSt) (s : Nat × Tr 12), ins d k t c = some s → ∃ t', c t' = some s ∧ ¬ Tr.has d t k ∧ Tr.has d t' k ∧ ∀ x, Tr.has d t x → Tr.has d t' x
  | 0, k, l, c, s, h => by
    have h' : (bif inL l k then none else c (k :: l : List Nat)) = some s := h
    cases hb : inL l k with
    | true => rw [hb] at h'; simp at h'
    | false =>
      rw [hb] at h'
      exact ⟨(k :: l : List Nat), h', inL_mem l k hb, List.mem_cons_self, fun x hx => List.mem_cons_of_mem _ hx⟩
  | d + 1, k, (l, r), c, s, h => by
    have h' : (bif Nat.beq (k % 2) 0 then forceN (k / 2) fun k2 => ins d k2 l fun l' => c (l', r) else forceN (k / 2) fun k2 => ins d k2 r fun r' => c (l, r')) = some s := h
    rw [forceN_eq, forceN_eq] at h'
    cases he : Nat.beq (k % 2) 0 with
    | true =>
      rw [he] at h'
      have he' : k % 2 = 0 := Nat.eq_of_beq_eq_true he
      obtain ⟨t', h1, h2, h3, h4⟩ := ins_some d _ _ _ _ h'
      refine ⟨(t', r), h1, ?_, ?_, fun x hx => ?_⟩
      · show ¬ (if k % 2 = 0 then _ else _)
        rw [if_pos he']; exact h2
      · show if k % 2 = 0 then _ else _
        rw [if_pos he']; exact h3
      · have hx' : if x % 2 = 0 then Tr.has d l (x / 2) else Tr.has d r (x / 2) := hx
        show if x % 2 = 0 then Tr.has d t' (x / 2) else Tr.has d r (x / 2)
        by_cases hx2 : x % 2 = 0
        · rw [if_pos hx2] at hx' ⊢; exact h4 _ hx'
        · rw [if_neg hx2] at hx' ⊢; exact hx'
    | false =>
      rw [he] at h'
      have he' : ¬ k % 2 = 0 := Nat.ne_of_beq_eq_false he
      obtain ⟨t', h1, h2, h3, h4⟩ := ins_some d _ _ _ _ h'
      refine ⟨(l, t'), h1, ?_, ?_, fun x hx => ?_⟩
      · show ¬ (if k % 2 = 0 then _ else _)
        rw [if_neg he']; exact h2
      · show if k % 2 = 0 then _ else _
        rw [if_neg he']; exact h3
      · have hx' : if x % 2 = 0 then Tr.has d l (x / 2) else Tr.has d r (x / 2) := hx
        show if x % 2 = 0 then Tr.has d l (x / 2) else Tr.has d t' (x / 2)
        by_cases hx2 : x % 2 = 0
        · rw [if_pos hx2] at hx' ⊢; exact hx'
        · rw [if_neg hx2] at hx' ⊢; exact h4 _ hx'

theorem keyRun_some : ∀ (d y : Nat) (t : Tr 12) (y' : Nat) (t' : Tr 12), keyRun d y t = some (y', t') → y' = tN (2 ^ d) y ∧ (∀ x, Tr.has 12 t x → Tr.has 12 t' x) ∧ (∀ i, i < 2 ^ d → ¬ Tr.has 12 t (tN i y / 2) ∧ Tr.has 12 t' (tN i y / 2)) ∧
    ∀ i j, i < j → j < 2 ^ d → tN i y / 2 ≠ tN j y / 2 := by
  intro d
  induction d with
  | zero =>
    intro y t y' t' h
    rw [keyRun, forceN_eq] at h
    obtain ⟨t1', h1, h2, h3, h4⟩ := ins_some _ _ _ _ _ h
    rw [forceN_eq] at h1
    injection h1 with h1
    have e1 : t1b y = y' := congrArg Prod.fst h1
    have e2 : t1' = t' := congrArg Prod.snd h1
    subst e1 e2
    refine ⟨t1b_eq y, h4, fun i hi => ?_, fun i j hij hj => by simp at hj; omega⟩
    obtain rfl : i = 0 := by simp at hi; exact hi
    exact ⟨h2, h3⟩
  | succ d ih =>
    intro y t y' t' h
    rw [keyRun] at h
    cases hm : keyRun d y t with
    | none => rw [hm] at h; simp at h
    | some s =>
      obtain ⟨y1, t1'⟩ := s
      rw [hm] at h
      obtain ⟨a1, a2, a3, a4⟩ := ih _ _ _ _ hm
      obtain ⟨b1, b2, b3, b4⟩ := ih _ _ _ _ h
      have e : ∀ i, tN i y1 = tN (2 ^ d + i) y := fun i => by rw [a1, ← tN_add]
      have hp : 2 ^ (d + 1) = 2 ^ d + 2 ^ d := by rw [Nat.pow_succ]; omega
      refine ⟨by rw [b1, e, hp], fun x hx => b2 x (a2 x hx), fun i hi => ?_, fun i j hij hj => ?_⟩
      · by_cases hi2 : i < 2 ^ d
        · exact ⟨(a3 i hi2).1, b2 _ (a3 i hi2).2⟩
        · have h5 := b3 (i - 2 ^ d) (by omega)
          rw [e, show 2 ^ d + (i - 2 ^ d) = i by omega] at h5
          exact ⟨fun hx => h5.1 (a2 _ hx), h5.2⟩
      · by_cases hj2 : j < 2 ^ d
        · exact a4 i j hij hj2
        · have h5 := b3 (j - 2 ^ d) (by omega)
          rw [e, show 2 ^ d + (j - 2 ^ d) = j by omega] at h5
          by_cases hi2 : i < 2 ^ d
          · intro hh
            rw [← hh] at h5
            exact h5.1 (a3 i hi2).2
          · have h6 := b4 (i - 2 ^ d) (j - 2 ^ d) (by omega) (by omega)
            rwa [e, e, show 2 ^ d + (i - 2 ^ d) = i by omega, show 2 ^ d + (j - 2 ^ d) = j by omega] at h6

/-- What the kernel's reckoning says. -/
theorem keys_of {d : Nat} (h : keysOk d = true) {i j : Nat} (hij : i < j) (hj : j < 2 ^ d) : tN i 1 / 2 ≠ tN j 1 / 2 := by
  unfold keysOk at h
  cases hm : keyRun d 1 (trE 12) with
  | none => rw [hm] at h; simp at h
  | some s =>
    obtain ⟨y', t'⟩ := s
    exact (keyRun_some _ _ _ _ _ hm).2.2.2 i j hij hj
end Go.Proofs.YtmfpkoegpoboiabDoor
