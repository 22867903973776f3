/- A manifest's text as a row of bytes that go through a machine of few states: what Tokens tells. Nothing of a program. -/
import Derived.WalkKit
namespace Go.Proofs.Ytcdilcjgmcamcab

/-- A token. -/
structure Tok where
  kind : Int
  text : ByteArray
  line : Int
  place : Int
def Tok.nul : Tok := ⟨0, ⟨#[]⟩, 0, 0⟩
def bs (l : List UInt8) : ByteArray := ⟨l.toArray⟩
def noText : ByteArray := ⟨#[]⟩
/-- May this byte stand in a word? -/
def inW (c : UInt8) : Bool := decide ((97 ≤ c.toNat ∧ c.toNat ≤ 122) ∨ (65 ≤ c.toNat ∧ c.toNat ≤ 90) ∨ (48 ≤ c.toNat ∧ c.toNat ≤ 57) ∨ c.toNat = 46 ∨ c.toNat = 95 ∨ c.toNat = 45 ∨ c.toNat = 47)
/-- The kind of token that begins with this byte; 0: none does. -/
def kd (c : UInt8) : Nat := if inW c then 1 else if c.toNat = 34 then 2 else if c.toNat = 61 then 3 else if c.toNat = 40 then 4 else if c.toNat = 41 then 5 else if c.toNat = 44 then 6 else if c.toNat = 10 then 7 else 0
/-- A small hex digit's number. -/
def dg (c : UInt8) : Option Nat := if 48 ≤ c.toNat ∧ c.toNat ≤ 57 then some (c.toNat - 48) else if 97 ≤ c.toNat ∧ c.toNat ≤ 102 then some (c.toNat - 87) else none
/-- Where the machine stands: between tokens, in a remark, in a word, in a literal, behind a backslash, behind an x, behind the first digit; or at what can't be. -/
def Md : Type := Unit ⊕ Unit ⊕ (Nat × List UInt8) ⊕ (Nat × List UInt8) ⊕ (Nat × List UInt8) ⊕ (Nat × List UInt8) ⊕ (Nat × List UInt8 × Nat) ⊕ Int
abbrev Md.gap : Md := Sum.inl ()
abbrev Md.rem : Md := Sum.inr (Sum.inl ())
abbrev Md.word (fr : Nat) (acc : List UInt8) : Md := Sum.inr (Sum.inr (Sum.inl (fr, acc)))
abbrev Md.lit (fr : Nat) (acc : List UInt8) : Md := Sum.inr (Sum.inr (Sum.inr (Sum.inl (fr, acc))))
abbrev Md.esc (fr : Nat) (acc : List UInt8) : Md := Sum.inr (Sum.inr (Sum.inr (Sum.inr (Sum.inl (fr, acc)))))
abbrev Md.hx (fr : Nat) (acc : List UInt8) : Md := Sum.inr (Sum.inr (Sum.inr (Sum.inr (Sum.inr (Sum.inl (fr, acc))))))
abbrev Md.hy (fr : Nat) (acc : List UInt8) (h : Nat) : Md := Sum.inr (Sum.inr (Sum.inr (Sum.inr (Sum.inr (Sum.inr (Sum.inl (fr, acc, h)))))))
abbrev Md.bad (e : Int) : Md := Sum.inr (Sum.inr (Sum.inr (Sum.inr (Sum.inr (Sum.inr (Sum.inr e))))))
theorem Md.split {motive : Md → Prop} (m : Md) (gap : motive .gap) (rem : motive .rem) (word : ∀ fr acc, motive (.word fr acc)) (lit : ∀ fr acc, motive (.lit fr acc)) (esc : ∀ fr acc, motive (.esc fr acc)) (hx : ∀ fr acc, motive (.hx fr acc)) (hy : ∀ fr acc h, motive (.hy fr acc h)) (bad : ∀ e, motive (.bad e)) : motive m :=
  match m with
  | Sum.inl () => gap
  | Sum.inr (Sum.inl ()) => rem
  | Sum.inr (Sum.inr (Sum.inl (fr, acc))) => word fr acc
  | Sum.inr (Sum.inr (Sum.inr (Sum.inl (fr, acc)))) => lit fr acc
  | Sum.inr (Sum.inr (Sum.inr (Sum.inr (Sum.inl (fr, acc))))) => esc fr acc
  | Sum.inr (Sum.inr (Sum.inr (Sum.inr (Sum.inr (Sum.inl (fr, acc)))))) => hx fr acc
  | Sum.inr (Sum.inr (Sum.inr (Sum.inr (Sum.inr (Sum.inr (Sum.inl (fr, acc, h))))))) => hy fr acc h
  | Sum.inr (Sum.inr (Sum.inr (Sum.inr (Sum.inr (Sum.inr (Sum.inr e)))))) => bad e
theorem Md.bad_inj {a b : Int} (h : Md.bad a = Md.bad b) : a = b := by
  have h1 : (Sum.inr (Sum.inr (Sum.inr (Sum.inr (Sum.inr (Sum.inr (Sum.inr a)))))) : Unit ⊕ Unit ⊕ (Nat × List UInt8) ⊕ (Nat × List UInt8) ⊕ (Nat × List UInt8) ⊕ (Nat × List UInt8) ⊕ (Nat × List UInt8 × Nat) ⊕ Int) = Sum.inr (Sum.inr (Sum.inr (Sum.inr (Sum.inr (Sum.inr (Sum.inr b)))))) := h
  simpa using h1
theorem Md.word_inj {a b : Nat} {x y : List UInt8} (h : Md.word a x = Md.word b y) : a = b ∧ x = y := by
  have h1 : (Sum.inr (Sum.inr (Sum.inl (a, x))) : Unit ⊕ Unit ⊕ (Nat × List UInt8) ⊕ (Nat × List UInt8) ⊕ (Nat × List UInt8) ⊕ (Nat × List UInt8) ⊕ (Nat × List UInt8 × Nat) ⊕ Int) = Sum.inr (Sum.inr (Sum.inl (b, y))) := h
  simpa using h1
/-- By where it stands. -/
abbrev Md.on {α : Type} (m : Md) (gap rem : α) (word lit esc hx : Nat → List UInt8 → α) (hy : Nat → List UInt8 → Nat → α) (bad : Int → α) : α :=
  match m with
  | Sum.inl () => gap
  | Sum.inr (Sum.inl ()) => rem
  | Sum.inr (Sum.inr (Sum.inl (fr, acc))) => word fr acc
  | Sum.inr (Sum.inr (Sum.inr (Sum.inl (fr, acc)))) => lit fr acc
  | Sum.inr (Sum.inr (Sum.inr (Sum.inr (Sum.inl (fr, acc))))) => esc fr acc
  | Sum.inr (Sum.inr (Sum.inr (Sum.inr (Sum.inr (Sum.inl (fr, acc)))))) => hx fr acc
  | Sum.inr (Sum.inr (Sum.inr (Sum.inr (Sum.inr (Sum.inr (Sum.inl (fr, acc, h))))))) => hy fr acc h
  | Sum.inr (Sum.inr (Sum.inr (Sum.inr (Sum.inr (Sum.inr (Sum.inr e)))))) => bad e
structure St where
  out : List Tok
  n : Nat
  p : Nat
  b : Nat
  md : Md
def st0 : St := ⟨[], 1, 0, 0, .gap⟩
def endS (s : St) : St := ⟨s.out ++ [⟨7, noText, s.n, s.b⟩], s.n + 1, 0, 0, .gap⟩
/-- A token that begins at fr and ends at p. -/
def addS (s : St) (k : Nat) (t : List UInt8) (fr p : Nat) : St := ⟨s.out ++ [⟨k, bs t, s.n, fr⟩], s.n, p, p, .gap⟩
def gapS (s : St) (c : UInt8) : St :=
  if c.toNat = 32 then ⟨s.out, s.n, s.p + 1, s.b, .gap⟩
  else if c.toNat = 35 then ⟨s.out, s.n, s.p + 1, s.b, .rem⟩
  else if kd c = 1 then ⟨s.out, s.n, s.p + 1, s.b, .word s.p [c]⟩
  else if kd c = 2 then ⟨s.out, s.n, s.p + 1, s.b, .lit s.p []⟩
  else if kd c = 7 then endS s
  else if kd c = 0 then ⟨s.out, s.n, s.p, s.b, .bad 110⟩
  else addS s (kd c) [] s.p (s.p + 1)
def litS (s : St) (fr : Nat) (acc : List UInt8) (c : UInt8) : St :=
  if c.toNat = 34 then addS s 2 acc fr (s.p + 1)
  else if c.toNat = 92 then ⟨s.out, s.n, s.p + 1, s.b, .esc fr acc⟩
  else if c.toNat = 10 then ⟨s.out, s.n, fr, s.b, .bad 111⟩
  else if c.toNat < 32 ∨ 126 < c.toNat then ⟨s.out, s.n, s.p, s.b, .bad 110⟩
  else ⟨s.out, s.n, s.p + 1, s.b, .lit fr (acc ++ [c])⟩
def escS (s : St) (fr : Nat) (acc : List UInt8) (c : UInt8) : St :=
  if c.toNat = 34 ∨ c.toNat = 92 then ⟨s.out, s.n, s.p + 1, s.b, .lit fr (acc ++ [c])⟩
  else if c.toNat = 110 then ⟨s.out, s.n, s.p + 1, s.b, .lit fr (acc ++ [10])⟩
  else if c.toNat = 120 then ⟨s.out, s.n, s.p + 1, s.b, .hx fr acc⟩
  else ⟨s.out, s.n, s.p - 1, s.b, .bad 112⟩
def hxS (s : St) (fr : Nat) (acc : List UInt8) (c : UInt8) : St :=
  match dg c with
  | some h => ⟨s.out, s.n, s.p + 1, s.b, .hy fr acc h⟩
  | none => ⟨s.out, s.n, s.p - 2, s.b, .bad 112⟩
def hyS (s : St) (fr : Nat) (acc : List UInt8) (h : Nat) (c : UInt8) : St :=
  match dg c with
  | some l => ⟨s.out, s.n, s.p + 1, s.b, .lit fr (acc ++ [UInt8.ofNat (16 * h + l)])⟩
  | none => ⟨s.out, s.n, s.p - 3, s.b, .bad 112⟩
def wordS (s : St) (fr : Nat) (acc : List UInt8) (c : UInt8) : St :=
  if kd c = 1 then (if acc.length = 255 then ⟨s.out, s.n, s.p, s.b, .bad 2⟩ else ⟨s.out, s.n, s.p + 1, s.b, .word fr (acc ++ [c])⟩)
  else gapS (addS s 1 acc fr s.p) c
/-- One byte more. -/
def stp (s : St) (c : UInt8) : St :=
  s.md.on (gapS s c) (if c.toNat = 10 then endS s else ⟨s.out, s.n, s.p + 1, s.b, .rem⟩) (fun fr acc => wordS s fr acc c) (fun fr acc => litS s fr acc c) (fun fr acc => escS s fr acc c) (fun fr acc => hxS s fr acc c) (fun fr acc h => hyS s fr acc h c) (fun _ => s)
def run (s : St) (l : List UInt8) : St := l.foldl stp s
/-- The text's end: a line that has a byte has its end. -/
def fin (s : St) : St :=
  s.md.on (if s.p = 0 then s else endS s) (stp s 10) (fun _ _ => stp s 10) (fun _ _ => stp s 10) (fun _ _ => stp s 10) (fun _ _ => stp s 10) (fun _ _ _ => stp s 10) (fun _ => stp s 10)
def res (s : St) : List Tok × Int × Int × Int :=
  s.md.on (s.out, 0, 0, 0) (s.out, 0, 0, 0) (fun _ _ => (s.out, 0, 0, 0)) (fun _ _ => (s.out, 0, 0, 0)) (fun _ _ => (s.out, 0, 0, 0)) (fun _ _ => (s.out, 0, 0, 0)) (fun _ _ _ => (s.out, 0, 0, 0)) (fun e => ([], e, s.n, s.p))
def tokL (l : List UInt8) : List Tok × Int × Int × Int := if 65536 < l.length then ([], 2, 0, 0) else res (fin (run st0 l))
theorem run_nil (s : St) : run s [] = s := rfl
theorem run_cons (s : St) (c : UInt8) (l : List UInt8) : run s (c :: l) = run (stp s c) l := rfl
theorem run_app (s : St) (a b : List UInt8) : run s (a ++ b) = run (run s a) b := List.foldl_append
theorem kd_le (c : UInt8) : kd c ≤ 7 := by
  unfold kd
  repeat' split
  all_goals omega
theorem kd_word {c : UInt8} : kd c = 1 ↔ inW c = true := by
  unfold kd
  constructor
  · intro h
    cases hw : inW c with
    | true => rfl
    | false => rw [hw] at h; simp only [Bool.false_eq_true, if_false] at h; repeat' split at h
               all_goals omega
  · intro h; rw [if_pos h]
theorem inW_not {c : UInt8} (h : c.toNat = 10 ∨ c.toNat = 32 ∨ c.toNat = 34 ∨ c.toNat = 35 ∨ c.toNat = 92) : inW c = false := by
  unfold inW
  exact decide_eq_false (by omega)
theorem kd10 {c : UInt8} (h : c.toNat = 10) : kd c = 7 := by
  unfold kd; rw [inW_not (Or.inl h)]; simp [h]
theorem kd7 {c : UInt8} (h : kd c = 7) : c.toNat = 10 := by
  unfold kd at h
  repeat' split at h
  all_goals first | assumption | (exfalso; omega)
theorem stp10_gap {s : St} (h : s.md = .gap) {c : UInt8} (hc : c.toNat = 10) : stp s c = endS s := by
  unfold stp; rw [h]
  show gapS s c = _
  unfold gapS
  rw [if_neg (by omega), if_neg (by omega), if_neg (by rw [kd10 hc]; decide), if_neg (by rw [kd10 hc]; decide), if_pos (kd10 hc)]
theorem bad_run {s : St} {e : Int} (h : s.md = .bad e) : ∀ l, run s l = s
  | [] => rfl
  | c :: l => by
    have : stp s c = s := by unfold stp; rw [h]
    rw [run_cons, this, bad_run h l]
theorem bad_fin {s : St} {e : Int} (h : s.md = .bad e) : fin s = s := by
  unfold fin; rw [h]
  show stp s 10 = s
  unfold stp; rw [h]
theorem fin_gap (o : List Tok) (n p b : Nat) : fin ⟨o, n, p, b, .gap⟩ = if p = 0 then ⟨o, n, p, b, .gap⟩ else endS ⟨o, n, p, b, .gap⟩ := rfl
theorem gap_with (s : St) (h : s.md = .gap) : s = ⟨s.out, s.n, s.p, s.b, .gap⟩ := by cases s; simp at h; subst h; rfl
/-- In a remark nothing is told till the line's end. -/
theorem rem_to (o : List Tok) (n b : Nat) : ∀ (l r : List UInt8) (p : Nat), (∀ c ∈ l, c.toNat ≠ 10) → run ⟨o, n, p, b, .rem⟩ (l ++ r) = run ⟨o, n, p + l.length, b, .rem⟩ r
  | [], _, _, _ => rfl
  | c :: l, r, p, h => by
    rw [List.cons_append, run_cons]
    have : stp ⟨o, n, p, b, .rem⟩ c = ⟨o, n, p + 1, b, .rem⟩ := by
      show (if c.toNat = 10 then _ else _) = _
      rw [if_neg (h c (by simp))]
    rw [this, rem_to o n b l r (p + 1) (fun c hc => h c (by simp [hc]))]
    simp only [List.length_cons]
    congr 2
    omega
theorem rem_end (o : List Tok) (n b p : Nat) (r : List UInt8) (hp : 0 < p) (h : r = [] ∨ ∃ c r', r = c :: r' ∧ c.toNat = 10) : fin (run ⟨o, n, p, b, .rem⟩ r) = fin (run ⟨o, n, p, b, .gap⟩ r) := by
  rcases h with rfl | ⟨c, r', rfl, hc⟩
  · rw [run_nil, run_nil]
    rw [fin_gap, if_neg (by omega)]
    rfl
  · rw [run_cons, run_cons, stp10_gap (s := ⟨o, n, p, b, .gap⟩) rfl hc]
    congr 2
    show (if c.toNat = 10 then endS ⟨o, n, p, b, .rem⟩ else _) = _
    rw [if_pos hc]
    rfl
/-- A word that has ended. -/
theorem word_end (o : List Tok) (n b p fr : Nat) (acc r : List UInt8) (hp : 0 < p) (h : ∀ c r', r = c :: r' → kd c ≠ 1) : fin (run ⟨o, n, p, b, .word fr acc⟩ r) = fin (run (addS ⟨o, n, p, b, .gap⟩ 1 acc fr p) r) := by
  cases r with
  | nil =>
    rw [run_nil, run_nil]
    show _ = fin ⟨o ++ [⟨1, bs acc, n, fr⟩], n, p, p, .gap⟩
    rw [fin_gap, if_neg (by omega)]
    rfl
  | cons c r =>
    rw [run_cons, run_cons]
    congr 2
    show (if kd c = 1 then _ else _) = gapS _ c
    rw [if_neg (h c r rfl)]
    rfl
end Go.Proofs.Ytcdilcjgmcamcab
