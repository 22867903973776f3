/- The same, line by line: as the document says it. Nothing of a program. -/
import Derived.Test.YtcdilcjgmcamcaaTkP
namespace Go.Proofs.Ytcdilcjgmcamcaa

/-- With these tokens ahead. -/
def pre (o : List Tok) (s : St) : St := ⟨o ++ s.out, s.n, s.p, s.b, s.md⟩
theorem pre_end (o : List Tok) (s : St) : endS (pre o s) = pre o (endS s) := by
  unfold pre endS; simp
theorem pre_add (o : List Tok) (s : St) (k : Nat) (t : List UInt8) (fr p : Nat) : addS (pre o s) k t fr p = pre o (addS s k t fr p) := by
  unfold pre addS; simp
theorem pre_gap (o : List Tok) (s : St) (c : UInt8) : gapS (pre o s) c = pre o (gapS s c) := by
  unfold gapS
  rw [pre_end, pre_add]
  repeat' split
  all_goals rfl
theorem pre_stp (o : List Tok) (s : St) (c : UInt8) : stp (pre o s) c = pre o (stp s c) := by
  obtain ⟨out, n, p, b, md⟩ := s
  cases md using Md.split with
  | gap => exact pre_gap o _ c
  | rem =>
    show (if c.toNat = 10 then endS (pre o _) else _) = pre o (if c.toNat = 10 then _ else _)
    rw [pre_end]
    split <;> rfl
  | word fr acc =>
    show wordS (pre o _) fr acc c = pre o (wordS _ fr acc c)
    unfold wordS
    rw [pre_add, pre_gap]
    repeat' split
    all_goals rfl
  | lit fr acc =>
    show litS (pre o _) fr acc c = pre o (litS _ fr acc c)
    unfold litS
    rw [pre_add]
    repeat' split
    all_goals rfl
  | esc fr acc =>
    show escS (pre o _) fr acc c = pre o (escS _ fr acc c)
    unfold escS
    repeat' split
    all_goals rfl
  | hx fr acc =>
    show hxS (pre o _) fr acc c = pre o (hxS _ fr acc c)
    unfold hxS
    split <;> rfl
  | hy fr acc h =>
    show hyS (pre o _) fr acc h c = pre o (hyS _ fr acc h c)
    unfold hyS
    split <;> rfl
  | bad e => rfl
theorem pre_run (o : List Tok) : ∀ (l : List UInt8) (s : St), run (pre o s) l = pre o (run s l)
  | [], _ => rfl
  | c :: l, s => by rw [run_cons, run_cons, pre_stp, pre_run o l]
/-- The line does not change but at a line's end. -/
theorem n_gap (s : St) (c : UInt8) (hc : c.toNat ≠ 10) : (gapS s c).n = s.n := by
  unfold gapS
  repeat' split
  all_goals try rfl
  exact absurd (kd7 (by assumption)) hc
theorem n_stp (s : St) (c : UInt8) (hc : c.toNat ≠ 10) : (stp s c).n = s.n := by
  obtain ⟨out, n, p, b, md⟩ := s
  cases md using Md.split with
  | gap => exact n_gap _ c hc
  | rem => show (if c.toNat = 10 then _ else _ : St).n = _; rw [if_neg hc]
  | word fr acc =>
    show (wordS _ fr acc c).n = n
    unfold wordS
    repeat' split
    all_goals try rfl
    exact n_gap _ c hc
  | lit fr acc =>
    show (litS _ fr acc c).n = n
    unfold litS
    repeat' split
    all_goals rfl
  | esc fr acc =>
    show (escS _ fr acc c).n = n
    unfold escS
    repeat' split
    all_goals rfl
  | hx fr acc =>
    show (hxS _ fr acc c).n = n
    unfold hxS
    split <;> rfl
  | hy fr acc h =>
    show (hyS _ fr acc h c).n = n
    unfold hyS
    split <;> rfl
  | bad e => rfl
theorem n_run : ∀ (l : List UInt8) (s : St), (∀ c ∈ l, c.toNat ≠ 10) → (run s l).n = s.n
  | [], _, _ => rfl
  | c :: l, s, h => by rw [run_cons, n_run l _ (fun x hx => h x (by simp [hx])), n_stp s c (h c (by simp))]
/-- What a line's end makes of a state. -/
theorem end10 (s : St) : (∃ e, (stp s 10).md = .bad e ∧ (stp s 10).n = s.n) ∨ ∃ o, stp s 10 = ⟨o, s.n + 1, 0, 0, .gap⟩ := by
  obtain ⟨out, n, p, b, md⟩ := s
  cases md using Md.split with
  | gap => exact Or.inr ⟨_, rfl⟩
  | rem => exact Or.inr ⟨_, rfl⟩
  | word fr acc => exact Or.inr ⟨_, rfl⟩
  | lit fr acc => exact Or.inl ⟨_, rfl, rfl⟩
  | esc fr acc => exact Or.inl ⟨_, rfl, rfl⟩
  | hx fr acc => exact Or.inl ⟨_, rfl, rfl⟩
  | hy fr acc h => exact Or.inl ⟨_, rfl, rfl⟩
  | bad e => exact Or.inl ⟨e, rfl, rfl⟩
/-- The lines, without what ends them. -/
def linesL : List UInt8 → List (List UInt8)
  | [] => []
  | c :: l => if c = 10 then [] :: linesL l else match linesL l with
    | [] => [[c]]
    | x :: r => (c :: x) :: r
/-- One line alone. -/
def lineR (l : List UInt8) (n : Nat) : St := stp (run ⟨[], n, 0, 0, .gap⟩ l) 10
/-- One line behind the other. -/
def linesR : List (List UInt8) → St → St
  | [], s => s
  | l :: r, s => (stp (run s l) 10).md.on (linesR r (stp (run s l) 10)) (linesR r (stp (run s l) 10)) (fun _ _ => linesR r (stp (run s l) 10)) (fun _ _ => linesR r (stp (run s l) 10)) (fun _ _ => linesR r (stp (run s l) 10)) (fun _ _ => linesR r (stp (run s l) 10)) (fun _ _ _ => linesR r (stp (run s l) 10)) (fun _ => stp (run s l) 10)
theorem linesR_bad {e : Int} {l : List UInt8} {r : List (List UInt8)} {s : St} (h : (stp (run s l) 10).md = .bad e) : linesR (l :: r) s = stp (run s l) 10 := by
  rw [linesR, h]
theorem linesR_good {l : List UInt8} {r : List (List UInt8)} {s s' : St} (h : stp (run s l) 10 = s') (hm : s'.md = .gap) : linesR (l :: r) s = linesR r s' := by
  rw [linesR, h, hm]
theorem line_cases (t : List UInt8) : (∀ c ∈ t, c.toNat ≠ 10) ∨ ∃ l r, t = l ++ 10 :: r ∧ ∀ c ∈ l, c.toNat ≠ 10 := by
  induction t with
  | nil => exact Or.inl (by simp)
  | cons c t ih =>
    by_cases hc : c = 10
    · exact Or.inr ⟨[], t, by rw [hc]; rfl, by simp⟩
    · have hn : c.toNat ≠ 10 := fun e => hc (UInt8.toNat_inj.1 (by simpa using e))
      rcases ih with h | ⟨l, r, h1, h2⟩
      · exact Or.inl (by simpa using ⟨hn, h⟩)
      · exact Or.inr ⟨c :: l, r, by rw [h1]; rfl, by simpa using ⟨hn, h2⟩⟩
theorem ne10 {c : UInt8} (h : c.toNat ≠ 10) : c ≠ 10 := fun e => h (by rw [e]; rfl)
theorem lines_app : ∀ (l r : List UInt8), (∀ c ∈ l, c.toNat ≠ 10) → linesL (l ++ 10 :: r) = l :: linesL r
  | [], r, _ => by rw [List.nil_append, linesL, if_pos rfl]
  | c :: l, r, h => by
    rw [List.cons_append, linesL, if_neg (ne10 (h c (by simp))), lines_app l r (fun x hx => h x (by simp [hx]))]
theorem lines_one : ∀ (l : List UInt8), (∀ c ∈ l, c.toNat ≠ 10) → l ≠ [] → linesL l = [l]
  | [], _, h => absurd rfl h
  | c :: l, h, _ => by
    rw [linesL, if_neg (ne10 (h c (by simp)))]
    cases l with
    | nil => rfl
    | cons d l => rw [lines_one (d :: l) (fun x hx => h x (List.mem_cons_of_mem _ hx)) (by simp)]
theorem fin_stp {s : St} (h : s.md ≠ .gap ∨ s.p ≠ 0) : fin s = stp s 10 := by
  obtain ⟨out, n, p, b, md⟩ := s
  cases md using Md.split with
  | gap =>
    rw [fin_gap, if_neg (by simpa using h)]
    rfl
  | rem => rfl
  | word fr acc => rfl
  | lit fr acc => rfl
  | esc fr acc => rfl
  | hx fr acc => rfl
  | hy fr acc h => rfl
  | bad e => rfl
/-- A line that has a byte is no longer at its beginning. -/
theorem moved_gap (s : St) (c : UInt8) (hc : c.toNat ≠ 10) : (gapS s c).md ≠ .gap ∨ (gapS s c).p ≠ 0 := by
  unfold gapS
  repeat' split
  all_goals first
  | (right; simp; done)
  | (left; simp; done)
  | (right; simp [addS]; done)
  | exact absurd (kd7 (by assumption)) hc
theorem moved (s : St) (c : UInt8) (hc : c.toNat ≠ 10) : (stp s c).md ≠ .gap ∨ (stp s c).p ≠ 0 := by
  obtain ⟨out, n, p, b, md⟩ := s
  cases md using Md.split with
  | gap => exact moved_gap _ c hc
  | rem => show (if c.toNat = 10 then _ else _ : St).md ≠ _ ∨ _; rw [if_neg hc]; exact Or.inl (by simp)
  | word fr acc =>
    show (wordS _ fr acc c).md ≠ .gap ∨ (wordS _ fr acc c).p ≠ 0
    unfold wordS
    repeat' split
    · left; simp
    · left; simp
    · exact moved_gap _ c hc
  | lit fr acc =>
    show (litS _ fr acc c).md ≠ .gap ∨ (litS _ fr acc c).p ≠ 0
    unfold litS
    repeat' split
    all_goals first | (left; simp; done) | (right; simp [addS])
  | esc fr acc =>
    show (escS _ fr acc c).md ≠ .gap ∨ _
    unfold escS
    repeat' split
    all_goals (left; simp)
  | hx fr acc =>
    show (hxS _ fr acc c).md ≠ .gap ∨ _
    unfold hxS
    split <;> (left; simp)
  | hy fr acc h =>
    show (hyS _ fr acc h c).md ≠ .gap ∨ _
    unfold hyS
    split <;> (left; simp)
  | bad e => exact Or.inl (by simp [stp])
theorem moved_run (l : List UInt8) (s : St) (h : ∀ c ∈ l, c.toNat ≠ 10) (hl : l ≠ []) : (run s l).md ≠ .gap ∨ (run s l).p ≠ 0 := by
  obtain ⟨l', c, rfl⟩ : ∃ l' c, l = l' ++ [c] := ⟨l.dropLast, l.getLast hl, (List.dropLast_concat_getLast hl).symm⟩
  rw [run_app]
  exact moved _ c (h c (by simp))
/-- The whole is the lines, one behind the other. -/
theorem whole_lines : ∀ (k : Nat) (t : List UInt8) (o : List Tok) (n : Nat), t.length ≤ k → fin (run ⟨o, n, 0, 0, .gap⟩ t) = linesR (linesL t) ⟨o, n, 0, 0, .gap⟩
  | k, t, o, n, hk => by
    rcases line_cases t with h | ⟨l, r, rfl, h⟩
    · cases t with
      | nil => rfl
      | cons c t =>
        rw [lines_one _ h (by simp)]
        rw [fin_stp (moved_run _ _ h (by simp))]
        rw [linesR]
        generalize stp (run ⟨o, n, 0, 0, .gap⟩ (c :: t)) 10 = X
        generalize X.md = m
        cases m using Md.split <;> rfl
    · rw [lines_app l r h, run_app, run_cons]
      cases k with
      | zero => simp at hk
      | succ k =>
        rcases end10 (run ⟨o, n, 0, 0, .gap⟩ l) with ⟨e, he, _⟩ | ⟨o', he⟩
        · rw [linesR_bad he, bad_run he, bad_fin he]
        · rw [linesR_good he rfl, he]
          exact whole_lines k r o' _ (by simp at hk; omega)
end Go.Proofs.Ytcdilcjgmcamcaa
