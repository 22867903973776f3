/- TokenFirst: what goes ahead moves the line. Nothing of a program. -/
import Derived.Test.YtcdilcjgmcamcabTkV7
import Derived.Test.YtcdilcjgmcamcabTkHb
namespace Go.Proofs.Ytcdilcjgmcamcab

/-- The same place, k lines below. -/
structure Dn (k : Nat) (s t : St) : Prop where
  n : t.n = s.n + k
  p : t.p = s.p
  b : t.b = s.b
  md : t.md = s.md
theorem dn_gap {k n n' p b : Nat} {o o' : List Tok} {m m' : Md} (hn : n' = n + k) (c : UInt8) : Dn k (gapS ⟨o, n, p, b, m⟩ c) (gapS ⟨o', n', p, b, m'⟩ c) := by
  unfold gapS
  repeat' split
  all_goals first | exact ⟨hn, rfl, rfl, rfl⟩ | exact ⟨by show n' + 1 = n + 1 + k; omega, rfl, rfl, rfl⟩
theorem dn_stp {k : Nat} {s t : St} (h : Dn k s t) (c : UInt8) : Dn k (stp s c) (stp t c) := by
  obtain ⟨o, n, p, b, md⟩ := s
  obtain ⟨o', n', p', b', md'⟩ := t
  obtain ⟨h1, h2, h3, h4⟩ := h
  simp only at h1 h2 h3 h4
  subst h2 h3 h4
  cases md' using Md.split with
  | gap => exact dn_gap h1 c
  | rem =>
    show Dn k (if c.toNat = 10 then _ else _) (if c.toNat = 10 then _ else _)
    split
    · exact ⟨by show n' + 1 = n + 1 + k; omega, rfl, rfl, rfl⟩
    · exact ⟨h1, rfl, rfl, rfl⟩
  | word x acc =>
    show Dn k (wordS _ x acc c) (wordS _ x acc c)
    unfold wordS
    repeat' split
    · exact ⟨h1, rfl, rfl, rfl⟩
    · exact ⟨h1, rfl, rfl, rfl⟩
    · exact dn_gap h1 c
  | lit x acc =>
    show Dn k (litS _ x acc c) (litS _ x acc c)
    unfold litS
    repeat' split
    all_goals exact ⟨h1, rfl, rfl, rfl⟩
  | esc x acc =>
    show Dn k (escS _ x acc c) (escS _ x acc c)
    unfold escS
    repeat' split
    all_goals exact ⟨h1, rfl, rfl, rfl⟩
  | hx x acc =>
    show Dn k (hxS _ x acc c) (hxS _ x acc c)
    unfold hxS
    split
    all_goals exact ⟨h1, rfl, rfl, rfl⟩
  | hy x acc hh =>
    show Dn k (hyS _ x acc hh c) (hyS _ x acc hh c)
    unfold hyS
    split
    all_goals exact ⟨h1, rfl, rfl, rfl⟩
  | bad e => exact ⟨h1, rfl, rfl, rfl⟩
theorem dn_run {k : Nat} : ∀ (l : List UInt8) {s t : St}, Dn k s t → Dn k (run s l) (run t l)
  | [], _, _, h => h
  | c :: l, _, _, h => by rw [run_cons, run_cons]; exact dn_run l (dn_stp h c)
theorem bad_stp {s : St} {e : Int} (h : s.md = .bad e) (c : UInt8) : stp s c = s := by unfold stp; rw [h]
theorem bad_run0 {s : St} {e : Int} (h : s.md = .bad e) : ∀ l : List UInt8, run s l = s
  | [] => rfl
  | c :: l => by rw [run_cons, bad_stp h, bad_run0 h l]
theorem rem_rep : ∀ (k : Nat) (o : List Tok) (n : Nat), ∃ o', run ⟨o, n, 0, 0, .gap⟩ (repL [32, 35, 10] k) = ⟨o', n + k, 0, 0, .gap⟩
  | 0, o, n => ⟨o, rfl⟩
  | k + 1, o, n => by
    obtain ⟨o', h⟩ := rem_rep k o n
    rw [repL_succ, run_app, h]
    exact ⟨o' ++ [⟨7, noText, ((n + k : Nat) : Int), ((0 : Nat) : Int)⟩], rfl⟩
theorem stp_n (s : St) (c : UInt8) : (stp s c).n ≤ s.n + 1 := by
  by_cases h : c.toNat = 10
  · have : c = 10 := UInt8.toNat_inj.1 (by simpa using h)
    subst this
    rcases end10 s with ⟨e, _, h⟩ | ⟨o, h⟩
    · omega
    · rw [h]; exact Nat.le_refl _
  · rw [n_stp s c h]; omega
theorem run_n : ∀ (l : List UInt8) (s : St), (run s l).n ≤ s.n + l.length
  | [], s => Nat.le_refl _
  | c :: l, s => by
    have h1 := run_n l (stp s c)
    have h2 := stp_n s c
    rw [run_cons, List.length_cons]; omega
theorem res_bad {s : St} {e : Int} (h : s.md = .bad e) : res s = ([], e, ((s.n : Nat) : Int), ((s.p : Nat) : Int)) := by unfold res; rw [h]
theorem first_L {t : List UInt8} (ht : t.length ≤ 3000) {ts : List Tok} {e l p : Int} (h : tokL t = (ts, e, l, p)) (he : e ≠ 0) (k : Nat) (hk : k ≤ 50) (more : List UInt8) (hm : more.length ≤ 3000) :
    tokL (((repL [32, 35, 10] k ++ t) ++ [10]) ++ more) = ([], e, l + k, p) ∧ 0 ≤ l ∧ l ≤ 100000 := by
  unfold tokL at h ⊢
  have hr := repL_len [32, 35, 10] k
  rw [if_neg (by omega)] at h
  rw [if_neg (by simp only [List.length_append, List.length_cons, List.length_nil, hr]; omega)]
  have hln := run_n t st0
  generalize hS : run st0 t = S at *
  have hb : ∃ e', (fin S).md = .bad e' := by
    cases hm : (fin S).md using Md.split with
    | bad e' => exact ⟨e', rfl⟩
    | _ => exfalso; unfold res at h; rw [hm] at h; injection h with _ h; injection h with h _; exact he h.symm
  obtain ⟨e', hb⟩ := hb
  have hng : ¬ (S.md = .gap ∧ S.p = 0) := fun ⟨h1, h2⟩ => by rw [fin_start h1 h2, h1] at hb; cases hb
  have hf : fin S = stp S 10 := fin_stp (by
    by_cases hm : S.md = .gap
    · exact Or.inr (fun e => hng ⟨hm, e⟩)
    · exact Or.inl hm)
  rw [hf] at hb h
  rw [res_bad hb] at h
  injection h with h1 h
  injection h with h2 h
  injection h with h3 h4
  subst h2
  obtain ⟨o', ho⟩ := rem_rep k [] 1
  have hd : Dn k S (run ⟨o', 1 + k, 0, 0, .gap⟩ t) := by rw [← hS]; exact dn_run t ⟨rfl, rfl, rfl, rfl⟩
  have hd10 := dn_stp hd 10
  have hb2 : (stp (run ⟨o', 1 + k, 0, 0, .gap⟩ t) 10).md = .bad e' := by rw [hd10.md, hb]
  rw [run_app, run_app, run_app, show st0 = ⟨[], 1, 0, 0, .gap⟩ from rfl, ho]
  show res (fin (run (stp (run ⟨o', 1 + k, 0, 0, .gap⟩ t) 10) more)) = _ ∧ _
  rw [bad_run0 hb2]
  have hf2 : fin (stp (run ⟨o', 1 + k, 0, 0, .gap⟩ t) 10) = stp (run ⟨o', 1 + k, 0, 0, .gap⟩ t) 10 := by
    rw [fin_stp (Or.inl (by rw [hb2]; intro h; cases h)), bad_stp hb2]
  rw [hf2, res_bad hb2, hd10.n, hd10.p]
  have h10 := stp_n S 10
  refine ⟨?_, ?_, ?_⟩
  · rw [← h3, ← h4]; rfl
  · rw [← h3]; omega
  · rw [← h3]
    have : st0.n = 1 := rfl
    omega
end Go.Proofs.Ytcdilcjgmcamcab
