/- TokenBack, TokenSame: what is read can be printed. Nothing of a program. -/
import Derived.Test.YtcdilcjgmcamcabTkB
namespace Go.Proofs.Ytcdilcjgmcamcab

/-- The line behind these tokens. -/
def lnN : List Tok → Nat → Nat
  | [], n => n
  | t :: l, n => lnN l (if t.kind = 7 then n + 1 else n)
theorem fit_app : ∀ (a c : List Tok) (b d : List Tok) (n : Nat), Fit a b n → Fit c d (lnN b n) → Fit (a ++ c) (b ++ d) n
  | [], _, [], _, _, _, h => h
  | _ :: a, c, _ :: b, d, _, ⟨h1, h2, h3, h4⟩, h => ⟨h1, h2, h3, fit_app a c b d _ h4 h⟩
  | [], _, _ :: _, _, _, h, _ => h.elim
  | _ :: _, _, [], _, _, h, _ => h.elim
theorem ln_app : ∀ (a b : List Tok) (n : Nat), lnN (a ++ b) n = lnN b (lnN a n)
  | [], _, _ => rfl
  | t :: a, b, n => by rw [List.cons_append, lnN, ln_app a b, lnN]
/-- What holds of a state whose tokens can be printed: each is a token, lines are right, signs have no text. -/
structure Good (s : St) : Prop where
  ok : ∀ t ∈ s.out, okT t = true
  fit : Fit s.out s.out 1
  ln : lnN s.out 1 = s.n
  last : s.md = .gap → s.p = 0 → ∀ h : s.out ≠ [], (s.out.getLast h).kind = 7
  word : ∀ fr acc, s.md = .word fr acc → 1 ≤ acc.length ∧ acc.length ≤ 255 ∧ ∀ c ∈ acc, inW c = true
theorem good0 : Good st0 := ⟨(by simp [st0]), trivial, rfl, fun _ _ h => absurd rfl h, fun fr acc h => by cases h⟩
theorem bs_size0 (l : List UInt8) : (bs l).size = l.length := by unfold bs; simp [ByteArray.size]
theorem good_add {o : List Tok} {n : Nat} (hok : ∀ t ∈ o, okT t = true) (hfit : Fit o o 1) (hln : lnN o 1 = n) {k : Nat} {t : List UInt8} {p : Nat} (h1 : okT ⟨k, bs t, n, p⟩ = true) (h2 : k = 1 ∨ k = 2 ∨ t = []) :
    (∀ x ∈ o ++ [⟨k, bs t, n, p⟩], okT x = true) ∧ Fit (o ++ [⟨k, bs t, n, p⟩]) (o ++ [⟨k, bs t, n, p⟩]) 1 ∧ lnN (o ++ [⟨k, bs t, n, p⟩]) 1 = if (k : Int) = 7 then n + 1 else n := by
  refine ⟨fun x hx => ?_, fit_app _ _ _ _ _ hfit ?_, ?_⟩
  · rcases List.mem_append.1 hx with hx | hx
    · exact hok x hx
    · simp only [List.mem_cons, List.not_mem_nil, or_false] at hx
      subst hx; exact h1
  · refine ⟨rfl, ?_, (by rw [hln]), trivial⟩
    unfold tx
    simp only
    by_cases hk : (k : Int) = 1 ∨ (k : Int) = 2
    · rw [if_pos hk]
    · rw [if_neg hk]
      rcases h2 with h | h | h
      · exact absurd (Or.inl (by rw [h]; rfl)) hk
      · exact absurd (Or.inr (by rw [h]; rfl)) hk
      · rw [h]; rfl
  · rw [ln_app, hln]
    rfl
theorem okT_of {k : Nat} {t : ByteArray} {n p : Int} (h1 : 1 ≤ k) (h7 : k ≤ 7) (hw : k = 1 → wordB t = true) : okT ⟨k, t, n, p⟩ = true := by
  unfold okT
  refine decide_eq_true ⟨(by show (1 : Int) ≤ (k : Int); omega), (by show (k : Int) ≤ 7; omega), fun e => hw ?_⟩
  have : (k : Int) = 1 := e
  omega
theorem good_end {o : List Tok} {n p b : Nat} {md : Md} (hok : ∀ t ∈ o, okT t = true) (hfit : Fit o o 1) (hln : lnN o 1 = n) : Good (endS ⟨o, n, p, b, md⟩) := by
  obtain ⟨h1, h2, h3⟩ := good_add (k := 7) (t := []) (p := b) hok hfit hln (okT_of (by omega) (by omega) (by omega)) (Or.inr (Or.inr rfl))
  refine ⟨h1, h2, ?_, fun _ _ h => ?_, fun fr acc h => by cases h⟩
  · rw [show (endS ⟨o, n, p, b, md⟩).out = o ++ [⟨(7 : Nat), bs [], n, b⟩] from rfl, h3]; rfl
  · simp [endS]
theorem good_tok {o : List Tok} {n q p : Nat} {k : Nat} {t : List UInt8} {s : St} (hok : ∀ t ∈ o, okT t = true) (hfit : Fit o o 1) (hln : lnN o 1 = n) (hs : s.out = o ∧ s.n = n) (h1 : okT ⟨k, bs t, n, p⟩ = true) (h2 : k = 1 ∨ k = 2 ∨ t = []) (hk7 : k ≠ 7) (hq : q ≠ 0) : Good (addS s k t p q) := by
  obtain ⟨a1, a2, a3⟩ := good_add (k := k) (t := t) (p := p) hok hfit hln h1 h2
  rw [if_neg (by omega)] at a3
  obtain ⟨so, sn⟩ := hs
  unfold addS
  rw [so, sn]
  exact ⟨a1, a2, a3, fun _ h => absurd h hq, fun fr acc h => by cases h⟩
theorem good_gap {o : List Tok} {n p b : Nat} (hok : ∀ t ∈ o, okT t = true) (hfit : Fit o o 1) (hln : lnN o 1 = n) (md : Md) (c : UInt8) : Good (gapS ⟨o, n, p, b, md⟩ c) := by
  unfold gapS
  repeat' split
  · exact ⟨hok, hfit, hln, fun _ h => absurd h (by simp), fun fr acc h => by cases h⟩
  · exact ⟨hok, hfit, hln, fun h => (by cases h), fun fr acc h => by cases h⟩
  · rename_i h _
    refine ⟨hok, hfit, hln, fun h => (by cases h), fun fr acc h => ?_⟩
    obtain ⟨_, h⟩ := Md.word_inj h
    subst h
    refine ⟨(by simp), (by simp), fun x hx => ?_⟩
    simp only [List.mem_cons, List.not_mem_nil, or_false] at hx
    subst hx
    exact kd_word.1 (by assumption)
  · exact ⟨hok, hfit, hln, fun h => (by cases h), fun fr acc h => by cases h⟩
  · exact good_end hok hfit hln
  · exact ⟨hok, hfit, hln, fun h => (by cases h), fun fr acc h => by cases h⟩
  · rename_i h1 h2 h7 h0
    have hk := kd_le c
    exact good_tok hok hfit hln ⟨rfl, rfl⟩ (okT_of (by omega) (by omega) (by omega)) (Or.inr (Or.inr rfl)) h7 (by simp)
theorem wordB_bs {acc : List UInt8} (h : 1 ≤ acc.length ∧ acc.length ≤ 255 ∧ ∀ c ∈ acc, inW c = true) : wordB (bs acc) = true := by
  unfold wordB
  rw [bs_size0]
  refine decide_eq_true ⟨h.1, h.2.1, ?_⟩
  have : (bs acc).data.toList = acc := by unfold bs; simp
  rw [this]
  exact h.2.2
theorem good_stp {s : St} (h : Good s) (c : UInt8) (hp : s.md = .gap ∨ s.p ≠ 0) : Good (stp s c) := by
  obtain ⟨o, n, p, b, md⟩ := s
  obtain ⟨hok, hfit, hln, hlast, hword⟩ := h
  cases md using Md.split with
  | gap => exact good_gap hok hfit hln .gap c
  | rem =>
    show Good (if c.toNat = 10 then _ else _)
    split
    · exact good_end hok hfit hln
    · exact ⟨hok, hfit, hln, fun h => (by cases h), fun fr acc h => by cases h⟩
  | word fr acc =>
    have hw := hword fr acc rfl
    have hp : p ≠ 0 := hp.elim (fun h => by cases h) id
    show Good (wordS _ fr acc c)
    unfold wordS
    repeat' split
    · exact ⟨hok, hfit, hln, fun h => (by cases h), fun fr acc h => by cases h⟩
    · rename_i h1 h2
      refine ⟨hok, hfit, hln, fun h => (by cases h), fun fr' acc' h => ?_⟩
      obtain ⟨_, h⟩ := Md.word_inj h
      subst h
      refine ⟨(by simp), (by simp; omega), fun x hx => ?_⟩
      rcases List.mem_append.1 hx with hx | hx
      · exact hw.2.2 x hx
      · simp only [List.mem_cons, List.not_mem_nil, or_false] at hx
        subst hx
        exact kd_word.1 h1
    · have g : Good (addS ⟨o, n, p, b, .word fr acc⟩ 1 acc fr p) := good_tok hok hfit hln ⟨rfl, rfl⟩ (okT_of (by omega) (by omega) (fun _ => wordB_bs hw)) (Or.inl rfl) (by omega) hp
      exact good_gap g.ok g.fit g.ln .gap c
  | lit fr acc =>
    show Good (litS _ fr acc c)
    unfold litS
    repeat' split
    · exact good_tok hok hfit hln ⟨rfl, rfl⟩ (okT_of (by omega) (by omega) (by omega)) (Or.inr (Or.inl rfl)) (by omega) (by simp)
    all_goals exact ⟨hok, hfit, hln, fun h => (by cases h), fun fr acc h => by cases h⟩
  | esc fr acc =>
    show Good (escS _ fr acc c)
    unfold escS
    repeat' split
    all_goals exact ⟨hok, hfit, hln, fun h => (by cases h), fun fr acc h => by cases h⟩
  | hx fr acc =>
    show Good (hxS _ fr acc c)
    unfold hxS
    split
    all_goals exact ⟨hok, hfit, hln, fun h => (by cases h), fun fr acc h => by cases h⟩
  | hy fr acc hh =>
    show Good (hyS _ fr acc hh c)
    unfold hyS
    split
    all_goals exact ⟨hok, hfit, hln, fun h => (by cases h), fun fr acc h => by cases h⟩
  | bad e => exact ⟨hok, hfit, hln, hlast, hword⟩
def Pos (s : St) : Prop := s.md = .gap ∨ s.p ≠ 0 ∨ ∃ e, s.md = .bad e
theorem pos_gap (o : List Tok) (n p b : Nat) (md : Md) (c : UInt8) : Pos (gapS ⟨o, n, p, b, md⟩ c) := by
  unfold gapS
  repeat' split
  all_goals first | exact Or.inr (Or.inr ⟨_, rfl⟩) | exact Or.inl rfl | exact Or.inr (Or.inl (by simp))
theorem pos_stp (s : St) (c : UInt8) (h : Pos s) : Pos (stp s c) := by
  obtain ⟨o, n, p, b, md⟩ := s
  cases md using Md.split with
  | gap => exact pos_gap o n p b .gap c
  | rem =>
    show Pos (if c.toNat = 10 then _ else _)
    split
    · exact Or.inl rfl
    · exact Or.inr (Or.inl (by simp))
  | word fr acc =>
    show Pos (wordS _ fr acc c)
    unfold wordS
    repeat' split
    · exact Or.inr (Or.inr ⟨_, rfl⟩)
    · exact Or.inr (Or.inl (by simp))
    · exact pos_gap _ _ _ _ .gap c
  | lit fr acc =>
    show Pos (litS _ fr acc c)
    unfold litS
    repeat' split
    all_goals first | exact Or.inr (Or.inr ⟨_, rfl⟩) | exact Or.inl rfl | exact Or.inr (Or.inl (by simp))
  | esc fr acc =>
    show Pos (escS _ fr acc c)
    unfold escS
    repeat' split
    all_goals first | exact Or.inr (Or.inr ⟨_, rfl⟩) | exact Or.inl rfl | exact Or.inr (Or.inl (by simp))
  | hx fr acc =>
    show Pos (hxS _ fr acc c)
    unfold hxS
    split
    all_goals first | exact Or.inr (Or.inr ⟨_, rfl⟩) | exact Or.inr (Or.inl (by simp))
  | hy fr acc hh =>
    show Pos (hyS _ fr acc hh c)
    unfold hyS
    split
    all_goals first | exact Or.inr (Or.inr ⟨_, rfl⟩) | exact Or.inr (Or.inl (by simp))
  | bad e => exact Or.inr (Or.inr ⟨e, rfl⟩)
theorem good_run : ∀ (l : List UInt8) (s : St), Good s → Pos s → Good (run s l) ∧ Pos (run s l)
  | [], _, h, hp => ⟨h, hp⟩
  | c :: l, s, h, hp => by
    rw [run_cons]
    refine good_run l _ ?_ (pos_stp s c hp)
    rcases hp with hp | hp | ⟨e, hp⟩
    · exact good_stp h c (Or.inl hp)
    · exact good_stp h c (Or.inr hp)
    · have : stp s c = s := by unfold stp; rw [hp]
      rw [this]; exact h
theorem good_fin {s : St} (h : Good s) (hp : Pos s) : Good (fin s) ∧ ((fin s).md = .gap ∧ (fin s).p = 0 ∨ ∃ e, (fin s).md = .bad e) := by
  obtain ⟨o, n, p, b, md⟩ := s
  by_cases hg : md = .gap ∧ p = 0
  · obtain ⟨rfl, rfl⟩ := hg
    exact ⟨h, Or.inl ⟨rfl, rfl⟩⟩
  · have hf : fin ⟨o, n, p, b, md⟩ = stp ⟨o, n, p, b, md⟩ 10 := fin_stp (by
      by_cases hm : md = .gap
      · exact Or.inr (fun e => hg ⟨hm, e⟩)
      · exact Or.inl hm)
    rw [hf]
    refine ⟨?_, ?_⟩
    · rcases hp with hp | hp | ⟨e, hp⟩
      · exact good_stp h 10 (Or.inl hp)
      · exact good_stp h 10 (Or.inr hp)
      · have : stp ⟨o, n, p, b, md⟩ 10 = ⟨o, n, p, b, md⟩ := by unfold stp; rw [hp]
        rw [this]; exact h
    · rcases end10 ⟨o, n, p, b, md⟩ with ⟨e, he, _⟩ | ⟨o', he⟩
      · exact Or.inr ⟨e, he⟩
      · rw [he]; exact Or.inl ⟨rfl, rfl⟩
/-- What Tokens tells without an error can be printed. -/
theorem tokL_good {t : List UInt8} (h : (tokL t).2.1 = 0) : okL (tokL t).1 = true ∧ Fit (tokL t).1 (tokL t).1 1 := by
  unfold tokL at h ⊢
  split
  · rename_i hl; rw [if_pos hl] at h; cases h
  · rename_i hl
    rw [if_neg hl] at h
    obtain ⟨g1, p1⟩ := good_run t st0 good0 (Or.inl rfl)
    obtain ⟨g2, h2⟩ := good_fin g1 p1
    generalize fin (run st0 t) = s at *
    obtain ⟨o, n, p, b, md⟩ := s
    rcases h2 with ⟨hm, hp⟩ | ⟨e, hm⟩
    · simp only at hm hp
      subst hm
      exact ⟨okL_iff.2 ⟨g2.ok, g2.last rfl hp⟩, g2.fit⟩
    · simp only at hm
      subst hm
      exact ⟨rfl, trivial⟩
end Go.Proofs.Ytcdilcjgmcamcab
