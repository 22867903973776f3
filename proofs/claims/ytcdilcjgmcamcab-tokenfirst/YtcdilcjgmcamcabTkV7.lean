/- TokenBlanks: remarks behind a line, blanks ahead and behind. Nothing of a program. -/
import Derived.Test.YtcdilcjgmcamcabTkR
namespace Go.Proofs.Ytcdilcjgmcamcab

/-- Two states that go on alike: modes, lines, texts; the tokens that were told are alike but for places, or the same. -/
def Rm (m m' : Md) : Prop :=
  (m = .gap ∧ m' = .gap) ∨ (m = .rem ∧ m' = .rem) ∨ (∃ a b acc, m = .word a acc ∧ m' = .word b acc) ∨ (∃ a b acc, m = .lit a acc ∧ m' = .lit b acc) ∨ (∃ a b acc, m = .esc a acc ∧ m' = .esc b acc)
    ∨ (∃ a b acc, m = .hx a acc ∧ m' = .hx b acc) ∨ (∃ a b acc h, m = .hy a acc h ∧ m' = .hy b acc h) ∨ ∃ e, m = .bad e ∧ m' = .bad e
theorem Rm.gap : Rm .gap .gap := Or.inl ⟨rfl, rfl⟩
theorem Rm.rem : Rm .rem .rem := Or.inr (Or.inl ⟨rfl, rfl⟩)
theorem Rm.word (a b : Nat) (acc : List UInt8) : Rm (.word a acc) (.word b acc) := Or.inr (Or.inr (Or.inl ⟨a, b, acc, rfl, rfl⟩))
theorem Rm.lit (a b : Nat) (acc : List UInt8) : Rm (.lit a acc) (.lit b acc) := Or.inr (Or.inr (Or.inr (Or.inl ⟨a, b, acc, rfl, rfl⟩)))
theorem Rm.esc (a b : Nat) (acc : List UInt8) : Rm (.esc a acc) (.esc b acc) := Or.inr (Or.inr (Or.inr (Or.inr (Or.inl ⟨a, b, acc, rfl, rfl⟩))))
theorem Rm.hx (a b : Nat) (acc : List UInt8) : Rm (.hx a acc) (.hx b acc) := Or.inr (Or.inr (Or.inr (Or.inr (Or.inr (Or.inl ⟨a, b, acc, rfl, rfl⟩)))))
theorem Rm.hy (a b : Nat) (acc : List UInt8) (h : Nat) : Rm (.hy a acc h) (.hy b acc h) := Or.inr (Or.inr (Or.inr (Or.inr (Or.inr (Or.inr (Or.inl ⟨a, b, acc, h, rfl, rfl⟩))))))
theorem Rm.bad (e : Int) : Rm (.bad e) (.bad e) := Or.inr (Or.inr (Or.inr (Or.inr (Or.inr (Or.inr (Or.inr ⟨e, rfl, rfl⟩))))))
theorem Rm.bad_gap {e : Int} (h : Rm (.bad e) .gap) : False := by
  rcases h with ⟨h, _⟩ | ⟨h, _⟩ | ⟨_, _, _, h, _⟩ | ⟨_, _, _, h, _⟩ | ⟨_, _, _, h, _⟩ | ⟨_, _, _, h, _⟩ | ⟨_, _, _, _, h, _⟩ | ⟨_, _, h⟩ <;> cases h
def AlkT (x y : Tok) : Prop := x.kind = y.kind ∧ x.text = y.text ∧ x.line = y.line
def AlkL : List Tok → List Tok → Prop
  | [], [] => True
  | x :: a, y :: b => AlkT x y ∧ AlkL a b
  | _, _ => False
theorem AlkL.nil : AlkL [] [] := trivial
theorem AlkL.cons {x y : Tok} {a b : List Tok} (h : AlkT x y) (k : AlkL a b) : AlkL (x :: a) (y :: b) := ⟨h, k⟩
theorem AlkL.snoc : ∀ {a b : List Tok}, AlkL a b → ∀ {x y : Tok}, AlkT x y → AlkL (a ++ [x]) (b ++ [y])
  | [], [], _, _, _, hx => AlkL.cons hx AlkL.nil
  | _ :: _, _ :: _, h, _, _, hx => AlkL.cons h.1 (AlkL.snoc h.2 hx)
  | [], _ :: _, h, _, _, _ => h.elim
  | _ :: _, [], h, _, _, _ => h.elim
theorem AlkL.refl : ∀ a : List Tok, AlkL a a
  | [] => AlkL.nil
  | _ :: a => AlkL.cons ⟨rfl, rfl, rfl⟩ (AlkL.refl a)
structure Rs (s t : St) : Prop where
  out : AlkL s.out t.out
  n : s.n = t.n
  md : Rm s.md t.md
theorem rs_end {s t : St} (h : Rs s t) : Rs (endS s) (endS t) := ⟨h.out.snoc ⟨rfl, rfl, by show ((s.n : Nat) : Int) = t.n; rw [h.n]⟩, by show s.n + 1 = t.n + 1; rw [h.n], .gap⟩
theorem rs_add {s t : St} (h1 : AlkL s.out t.out) (h2 : s.n = t.n) (k : Nat) (tx : List UInt8) (a b p q : Nat) : Rs (addS s k tx a p) (addS t k tx b q) := ⟨h1.snoc ⟨rfl, rfl, by show ((s.n : Nat) : Int) = t.n; rw [h2]⟩, h2, .gap⟩
theorem rs_gap {s t : St} (h1 : AlkL s.out t.out) (h2 : s.n = t.n) (c : UInt8) : Rs (gapS s c) (gapS t c) := by
  unfold gapS
  repeat' split
  · exact ⟨h1, h2, Rm.gap⟩
  · exact ⟨h1, h2, Rm.rem⟩
  · exact ⟨h1, h2, Rm.word _ _ _⟩
  · exact ⟨h1, h2, Rm.lit _ _ _⟩
  · exact ⟨h1.snoc ⟨rfl, rfl, by show ((s.n : Nat) : Int) = t.n; rw [h2]⟩, by show s.n + 1 = t.n + 1; rw [h2], .gap⟩
  · exact ⟨h1, h2, Rm.bad _⟩
  · exact rs_add h1 h2 _ _ _ _ _ _
theorem rs_stp {s t : St} (h : Rs s t) (c : UInt8) : Rs (stp s c) (stp t c) := by
  obtain ⟨o, n, p, b, md⟩ := s
  obtain ⟨o', n', p', b', md'⟩ := t
  obtain ⟨h1, h2, h3⟩ := h
  simp only at h1 h2 h3
  subst h2
  rcases h3 with ⟨rfl, rfl⟩ | ⟨rfl, rfl⟩ | ⟨x, y, acc, rfl, rfl⟩ | ⟨x, y, acc, rfl, rfl⟩ | ⟨x, y, acc, rfl, rfl⟩ | ⟨x, y, acc, rfl, rfl⟩ | ⟨x, y, acc, hh, rfl, rfl⟩ | ⟨e, rfl, rfl⟩
  · exact rs_gap (s := ⟨o, n, p, b, .gap⟩) (t := ⟨o', n, p', b', .gap⟩) h1 rfl c
  · show Rs (if c.toNat = 10 then _ else _) (if c.toNat = 10 then _ else _)
    split
    · exact rs_end ⟨h1, rfl, Rm.rem⟩
    · exact ⟨h1, rfl, Rm.rem⟩
  · show Rs (wordS _ x acc c) (wordS _ y acc c)
    unfold wordS
    repeat' split
    · exact ⟨h1, rfl, Rm.bad _⟩
    · exact ⟨h1, rfl, Rm.word _ _ _⟩
    · have := rs_add (s := ⟨o, n, p, b, .word x acc⟩) (t := ⟨o', n, p', b', .word y acc⟩) h1 rfl 1 acc x y p p'
      exact rs_gap this.out this.n c
  · show Rs (litS _ x acc c) (litS _ y acc c)
    unfold litS
    repeat' split
    · exact rs_add (s := ⟨o, n, p, b, .lit x acc⟩) (t := ⟨o', n, p', b', .lit y acc⟩) h1 rfl _ _ _ _ _ _
    · exact ⟨h1, rfl, Rm.esc _ _ _⟩
    · exact ⟨h1, rfl, Rm.bad _⟩
    · exact ⟨h1, rfl, Rm.bad _⟩
    · exact ⟨h1, rfl, Rm.lit _ _ _⟩
  · show Rs (escS _ x acc c) (escS _ y acc c)
    unfold escS
    repeat' split
    · exact ⟨h1, rfl, Rm.lit _ _ _⟩
    · exact ⟨h1, rfl, Rm.lit _ _ _⟩
    · exact ⟨h1, rfl, Rm.hx _ _ _⟩
    · exact ⟨h1, rfl, Rm.bad _⟩
  · show Rs (hxS _ x acc c) (hxS _ y acc c)
    unfold hxS
    split
    · exact ⟨h1, rfl, Rm.hy _ _ _ _⟩
    · exact ⟨h1, rfl, Rm.bad _⟩
  · show Rs (hyS _ x acc hh c) (hyS _ y acc hh c)
    unfold hyS
    split
    · exact ⟨h1, rfl, Rm.lit _ _ _⟩
    · exact ⟨h1, rfl, Rm.bad _⟩
  · exact ⟨h1, rfl, Rm.bad _⟩
theorem rs_run : ∀ (l : List UInt8) {s t : St}, Rs s t → Rs (run s l) (run t l)
  | [], _, _, h => h
  | c :: l, _, _, h => by rw [run_cons, run_cons]; exact rs_run l (rs_stp h c)
/-- At the end of a line that can be: between tokens, in a remark, or in a word. -/
theorem end_modes (s : St) {o : List Tok} {n : Nat} (h : stp s 10 = ⟨o, n, 0, 0, .gap⟩) : s.md = .gap ∨ s.md = .rem ∨ ∃ fr acc, s.md = .word fr acc := by
  obtain ⟨out, m, p, b, md⟩ := s
  cases md using Md.split with
  | gap => exact Or.inl rfl
  | rem => exact Or.inr (Or.inl rfl)
  | word fr acc => exact Or.inr (Or.inr ⟨fr, acc, rfl⟩)
  | lit fr acc => have := congrArg St.md h; cases this
  | esc fr acc => have := congrArg St.md h; cases this
  | hx fr acc => have := congrArg St.md h; cases this
  | hy fr acc hh => have := congrArg St.md h; cases this
  | bad e => have := congrArg St.md h; cases this
/-- Blanks, then a remark, behind a line: the same tokens at the same places. -/
theorem remark_behind (s : St) {o : List Tok} {n : Nat} (h : stp s 10 = ⟨o, n, 0, 0, .gap⟩) (r : List UInt8) (hr : ∀ c ∈ r, c.toNat ≠ 10) : stp (run s (32 :: 32 :: 35 :: r)) 10 = ⟨o, n, 0, 0, .gap⟩ := by
  have hm := end_modes s h
  obtain ⟨out, m, p, b, md⟩ := s
  have hrem : ∀ (o' : List Tok) (m' p' b' : Nat), run ⟨o', m', p', b', .rem⟩ r = ⟨o', m', p' + r.length, b', .rem⟩ := fun o' m' p' b' => by
    have := rem_to o' m' b' r [] p' hr
    rw [List.append_nil] at this
    exact this
  rcases hm with hm | hm | ⟨fr, acc, hm⟩
  · simp only at hm
    subst hm
    rw [run_cons, run_cons, run_cons]
    have e : stp (stp (stp ⟨out, m, p, b, .gap⟩ 32) 32) 35 = ⟨out, m, p + 3, b, .rem⟩ := rfl
    rw [e, hrem, ← h]
    rfl
  · simp only at hm
    subst hm
    rw [run_cons, run_cons, run_cons]
    have e : stp (stp (stp ⟨out, m, p, b, .rem⟩ 32) 32) 35 = ⟨out, m, p + 3, b, .rem⟩ := rfl
    rw [e, hrem, ← h]
    rfl
  · simp only at hm
    subst hm
    rw [run_cons, run_cons, run_cons]
    have e : stp (stp (stp ⟨out, m, p, b, .word fr acc⟩ 32) 32) 35 = ⟨out ++ [⟨1, bs acc, m, fr⟩], m, p + 3, p, .rem⟩ := rfl
    rw [e, hrem, ← h]
    rfl
/-- A blank behind a line. -/
theorem blank_behind (s : St) {o : List Tok} {n : Nat} (h : stp s 10 = ⟨o, n, 0, 0, .gap⟩) : stp (run s [32]) 10 = ⟨o, n, 0, 0, .gap⟩ := by
  have hm := end_modes s h
  obtain ⟨out, m, p, b, md⟩ := s
  rcases hm with hm | hm | ⟨fr, acc, hm⟩
  all_goals (simp only at hm; subst hm; rw [← h]; rfl)
/-- Lines, each with what was put behind, laid behind one another. -/
def joinB (f : Nat → List UInt8) : List (List UInt8) → Nat → List UInt8
  | [], _ => []
  | l :: r, i => (l ++ f i) ++ 10 :: joinB f r (i + 1)
theorem joinB_run (f : Nat → List UInt8) (hf : ∀ i, f i = [] ∨ ∃ r, f i = 32 :: 32 :: 35 :: r ∧ ∀ c ∈ r, c.toNat ≠ 10) : ∀ (ls : List (List UInt8)) (i : Nat) (s : St), s.md = .gap → s.p = 0 → s.b = 0 → (∀ e, (linesR ls s).md ≠ .bad e) → run s (joinB f ls i) = linesR ls s
  | [], _, s, _, _, _, _ => rfl
  | l :: r, i, s, hg, hp, hb, hgood => by
    rcases end10 (run s l) with ⟨e, he, _⟩ | ⟨o, he⟩
    · exact absurd he (by have := hgood e; rw [linesR_bad he] at this; exact this)
    · have hE : stp (run s (l ++ f i)) 10 = ⟨o, (run s l).n + 1, 0, 0, .gap⟩ := by
        rw [run_app]
        rcases hf i with h | ⟨q, h, hq⟩
        · rw [h, run_nil, he]
        · rw [h]; exact remark_behind _ he q hq
      rw [joinB, run_app, run_cons, hE, linesR_good he rfl]
      rw [linesR_good he rfl] at hgood
      exact joinB_run f hf r (i + 1) _ rfl rfl rfl hgood
/-- The same with blanks ahead and behind: alike but for places. -/
def joinA (f : Nat → Bool) : List (List UInt8) → Nat → List UInt8
  | [], _ => []
  | l :: r, i => (if f i then (32 :: 32 :: l) ++ [32] else l) ++ 10 :: joinA f r (i + 1)
theorem joinA_run (f : Nat → Bool) : ∀ (ls : List (List UInt8)) (i : Nat) (s t : St), s.md = .gap → s.p = 0 → t.md = .gap → t.p = 0 → Rs t s → (∀ e, (linesR ls s).md ≠ .bad e) → Rs (run t (joinA f ls i)) (linesR ls s) ∧ (run t (joinA f ls i)).md = .gap ∧ (run t (joinA f ls i)).p = 0
  | [], _, s, t, _, _, htg, htp, h, _ => ⟨h, htg, htp⟩
  | l :: r, i, s, t, hg, hp, htg, htp, h, hgood => by
    rcases end10 (run s l) with ⟨e, he, _⟩ | ⟨o, he⟩
    · exact absurd he (by have := hgood e; rw [linesR_bad he] at this; exact this)
    · rw [linesR_good he rfl] at hgood ⊢
      have key : ∃ o2 n2, stp (run t (if f i then (32 :: 32 :: l) ++ [32] else l)) 10 = ⟨o2, n2, 0, 0, .gap⟩ ∧ Rs ⟨o2, n2, 0, 0, .gap⟩ ⟨o, (run s l).n + 1, 0, 0, .gap⟩ := by
        have base : ∀ t' : St, Rs t' s → ∃ o2 n2, stp (run t' l) 10 = ⟨o2, n2, 0, 0, .gap⟩ ∧ Rs ⟨o2, n2, 0, 0, .gap⟩ ⟨o, (run s l).n + 1, 0, 0, .gap⟩ := fun t' ht' => by
          have h2 := rs_stp (rs_run l ht') 10
          rw [he] at h2
          rcases end10 (run t' l) with ⟨e, he2, _⟩ | ⟨o2, he2⟩
          · have h9 := h2.md; rw [he2] at h9; exact h9.bad_gap.elim
          · rw [he2] at h2; exact ⟨o2, _, he2, h2⟩
        split
        · have h2 : Rs (stp (stp t 32) 32) s := by
            obtain ⟨to, tn, tp, tb, tmd⟩ := t
            simp only at htg
            subst htg
            exact ⟨h.out, h.n, by show Rm .gap s.md; rw [hg]; exact .gap⟩
          obtain ⟨o2, n2, he2, hr2⟩ := base _ h2
          refine ⟨o2, n2, ?_, hr2⟩
          rw [run_app]
          exact blank_behind _ he2
        · exact base t h
      obtain ⟨o2, n2, he2, hr2⟩ := key
      rw [joinA, run_app, run_cons, he2]
      exact joinA_run f r (i + 1) _ _ rfl rfl rfl rfl hr2 hgood
theorem res_gap {s : St} (h : s.md = .gap) : res s = (s.out, 0, 0, 0) := by unfold res; rw [h]
theorem fin_start {s : St} (h : s.md = .gap) (hp : s.p = 0) : fin s = s := by
  obtain ⟨o, n, p, b, md⟩ := s
  simp only at h hp
  subst h hp
  rfl
theorem linesR_end : ∀ (ls : List (List UInt8)) (s : St), s.md = .gap → s.p = 0 → ((linesR ls s).md = .gap ∧ (linesR ls s).p = 0) ∨ ∃ e, (linesR ls s).md = .bad e
  | [], s, h, hp => Or.inl ⟨h, hp⟩
  | l :: r, s, h, hp => by
    rcases end10 (run s l) with ⟨e, he, _⟩ | ⟨o, he⟩
    · exact Or.inr ⟨e, by rw [linesR_bad he]; exact he⟩
    · rw [linesR_good he rfl]; exact linesR_end r _ rfl rfl
theorem res_err {s : St} {e : Int} (h : s.md = .bad e) (h0 : (res s).2.1 = 0) : e = 0 := by unfold res at h0; rw [h] at h0; exact h0
/-- No error is 0. -/
theorem err_ne {s : St} (c : UInt8) (hs : ∀ e, s.md = .bad e → e ≠ 0) : ∀ e, (stp s c).md = .bad e → e ≠ 0 := by
  have hgap : ∀ (s : St), ∀ e, (gapS s c).md = .bad e → e ≠ 0 := fun s e h => by
    unfold gapS endS addS at h
    repeat' split at h
    all_goals first | (have h2 := Md.bad_inj h; subst h2; decide) | cases h
  obtain ⟨o, n, p, b, md⟩ := s
  intro e h
  cases md using Md.split with
  | gap => exact hgap _ e h
  | rem =>
    have h : (if c.toNat = 10 then endS ⟨o, n, p, b, .rem⟩ else ⟨o, n, p + 1, b, .rem⟩ : St).md = .bad e := h
    split at h <;> cases h
  | word fr acc =>
    have h : (wordS ⟨o, n, p, b, .word fr acc⟩ fr acc c).md = .bad e := h
    unfold wordS at h
    repeat' split at h
    · have h2 := Md.bad_inj h; subst h2; decide
    · cases h
    · exact hgap _ e h
  | lit fr acc =>
    have h : (litS ⟨o, n, p, b, .lit fr acc⟩ fr acc c).md = .bad e := h
    unfold litS addS at h
    repeat' split at h
    all_goals first | (have h2 := Md.bad_inj h; subst h2; decide) | cases h
  | esc fr acc =>
    have h : (escS ⟨o, n, p, b, .esc fr acc⟩ fr acc c).md = .bad e := h
    unfold escS at h
    repeat' split at h
    all_goals first | (have h2 := Md.bad_inj h; subst h2; decide) | cases h
  | hx fr acc =>
    have h : (hxS ⟨o, n, p, b, .hx fr acc⟩ fr acc c).md = .bad e := h
    unfold hxS at h
    split at h
    all_goals first | (have h2 := Md.bad_inj h; subst h2; decide) | cases h
  | hy fr acc hh =>
    have h : (hyS ⟨o, n, p, b, .hy fr acc hh⟩ fr acc hh c).md = .bad e := h
    unfold hyS at h
    split at h
    all_goals first | (have h2 := Md.bad_inj h; subst h2; decide) | cases h
  | bad e' => exact hs e h
theorem err_run : ∀ (l : List UInt8) {s : St}, (∀ e, s.md = .bad e → e ≠ 0) → ∀ e, (run s l).md = .bad e → e ≠ 0
  | [], _, h => h
  | c :: l, _, h => by rw [run_cons]; exact err_run l (err_ne c h)
theorem err_fin {s : St} (h : ∀ e, s.md = .bad e → e ≠ 0) : ∀ e, (fin s).md = .bad e → e ≠ 0 := by
  by_cases hg : s.md = .gap ∧ s.p = 0
  · rw [fin_start hg.1 hg.2]; exact h
  · rw [fin_stp (by
      by_cases hm : s.md = .gap
      · exact Or.inr (fun e => hg ⟨hm, e⟩)
      · exact Or.inl hm)]
    exact err_ne 10 h
/-- What comes of remarks and blanks. -/
theorem blanks_L {t : List UInt8} (ht : t.length ≤ 65536) (h0 : (tokL t).2.1 = 0) (f : Nat → List UInt8) (hf : ∀ i, f i = [] ∨ ∃ r, f i = 32 :: 32 :: 35 :: r ∧ ∀ c ∈ r, c.toNat ≠ 10) (g : Nat → Bool) :
    ((joinB f (linesL t) 0).length ≤ 65536 → tokL (joinB f (linesL t) 0) = tokL t) ∧ ((joinA g (linesL t) 0).length ≤ 65536 → ∃ o, tokL (joinA g (linesL t) 0) = (o, 0, 0, 0) ∧ AlkL o (tokL t).1) := by
  have hw := whole_lines _ t [] 1 (Nat.le_refl _)
  have hne := err_fin (err_run t (s := st0) (fun e h => by cases h))
  have hT : tokL t = res (linesR (linesL t) st0) := by
    unfold tokL
    rw [if_neg (by omega)]
    exact congrArg res hw
  have hgood : ∀ e, (linesR (linesL t) st0).md ≠ .bad e := fun e he => by
    rw [hT] at h0
    have := hne e (by rw [show fin (run st0 t) = linesR (linesL t) st0 from hw]; exact he)
    exact this (res_err he h0)
  have hend : (linesR (linesL t) st0).md = .gap ∧ (linesR (linesL t) st0).p = 0 := (linesR_end (linesL t) st0 rfl rfl).elim id (fun ⟨e, he⟩ => absurd he (hgood e))
  refine ⟨fun hl => ?_, fun hl => ?_⟩
  · have := joinB_run f hf (linesL t) 0 st0 rfl rfl rfl hgood
    rw [hT]
    unfold tokL
    rw [if_neg (by omega), this, fin_start hend.1 hend.2]
  · obtain ⟨h1, h2, h3⟩ := joinA_run g (linesL t) 0 st0 st0 rfl rfl rfl rfl ⟨.nil, rfl, Rm.gap⟩ hgood
    refine ⟨(run st0 (joinA g (linesL t) 0)).out, ?_, ?_⟩
    · unfold tokL
      rw [if_neg (by omega), fin_start h2 h3, res_gap h2]
    · rw [hT, res_gap hend.1]
      exact h1.out
end Go.Proofs.Ytcdilcjgmcamcab
