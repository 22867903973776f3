/- What is printed is read; what is read can be printed. Nothing of a program. -/
import Derived.Test.YtcdilcjgmcamcabTkQ
import Derived.Test.YtcdilcjgmcamcabTkR
namespace Go.Proofs.Ytcdilcjgmcamcab

theorem bs_toList (s : ByteArray) : bs s.data.toList = s := by unfold bs; rfl
def tx (t : Tok) : ByteArray := if t.kind = 1 ∨ t.kind = 2 then t.text else noText
/-- The same kinds and texts; lines rise by one behind each end. -/
def Fit : List Tok → List Tok → Nat → Prop
  | [], [], _ => True
  | m :: ms, t :: ts, n => m.kind = t.kind ∧ m.text = tx t ∧ m.line = (n : Int) ∧ Fit ms ts (if t.kind = 7 then n + 1 else n)
  | _, _, _ => False
/-- A word that stands at the end is a token. -/
def cls (s : St) : St := s.md.on s s (fun fr acc => addS s 1 acc fr s.p) (fun _ _ => s) (fun _ _ => s) (fun _ _ => s) (fun _ _ _ => s) (fun _ => s)
theorem cls_stp {s : St} {fr : Nat} {acc : List UInt8} (h : s.md = .word fr acc) {c : UInt8} (hc : kd c ≠ 1) : stp s c = stp (cls s) c := by
  obtain ⟨o, n, p, b, md⟩ := s
  simp only at h
  subst h
  show wordS _ fr acc c = gapS (addS _ 1 acc fr p) c
  unfold wordS
  rw [if_neg hc]
theorem cls_gap {s : St} (h : s.md = .gap) : cls s = s := by unfold cls; rw [h]
theorem sign_gap (o : List Tok) (n p b : Nat) {k : Int} (h : k = 3 ∨ k = 4 ∨ k = 5 ∨ k = 6) : stp ⟨o, n, p, b, .gap⟩ (signB k) = ⟨o ++ [⟨k, noText, n, p⟩], n, p + 1, p + 1, .gap⟩ := by
  rcases h with rfl | rfl | rfl | rfl <;> rfl
theorem sign_kd {k : Int} (h : k = 3 ∨ k = 4 ∨ k = 5 ∨ k = 6 ∨ k = 7) : kd (signB k) ≠ 1 := by
  rcases h with rfl | rfl | rfl | rfl | rfl <;> decide
theorem back_run : ∀ (l : List Tok) (a : Bool) (s : St), (s.md = .gap ∨ (a = true ∧ ∃ fr acc, s.md = .word fr acc)) → (∀ t ∈ l, okT t = true) → (l = [] → s.md = .gap) → (∀ h : l ≠ [], (l.getLast h).kind = 7) →
    ∃ out n p b, run s (printL l a) = ⟨(cls s).out ++ out, n, p, b, .gap⟩ ∧ Fit out l s.n ∧ (l ≠ [] → p = 0)
  | [], a, s, _, _, hg, _ => by
    have hg := hg rfl
    exact ⟨[], s.n, s.p, s.b, by rw [printL, run_nil, cls_gap hg, List.append_nil]; exact gap_with s hg, trivial, fun h => absurd rfl h⟩
  | t :: r, a, s, hs, hok, _, hlast => by
    have ht := of_decide_eq_true (hok t (by simp))
    obtain ⟨hk1, hk7, hkw⟩ := ht
    have hrok : ∀ t ∈ r, okT t = true := fun x hx => hok x (List.mem_cons_of_mem _ hx)
    have hrlast : ∀ h : r ≠ [], (r.getLast h).kind = 7 := fun h => by have := hlast (by simp); rwa [List.getLast_cons h] at this
    -- behind the blank
    obtain ⟨s1, he, ho, hn, hs1⟩ : ∃ s1, run s (if a && ap t.kind then [32] else []) = s1 ∧ (cls s1).out = (cls s).out ∧ s1.n = s.n ∧ (s1.md = .gap ∨ (ap t.kind = false ∧ ∃ fr acc, s1.md = .word fr acc)) := by
      rcases hs with hg | ⟨ha, fr, acc, hw⟩
      · refine ⟨_, rfl, ?_⟩
        obtain ⟨o, n, p, b, md⟩ := s
        simp only at hg
        subst hg
        split
        · exact ⟨rfl, rfl, Or.inl rfl⟩
        · exact ⟨rfl, rfl, Or.inl rfl⟩
      · subst ha
        cases hap : ap t.kind with
        | true =>
          refine ⟨_, rfl, ?_⟩
          simp only [Bool.and_self, if_true]
          have e : run s [32] = stp (cls s) 32 := cls_stp hw (by decide)
          rw [e]
          obtain ⟨o, n, p, b, md⟩ := s
          simp only at hw
          subst hw
          exact ⟨rfl, rfl, Or.inl rfl⟩
        | false => exact ⟨s, by simp [run_nil], rfl, rfl, Or.inr ⟨rfl, fr, acc, hw⟩⟩
    have hgo : run s (printL (t :: r) a) = run (run s1 (writL t.kind t.text)) (printL r (ap t.kind)) := by
      rw [printL, List.append_assoc, run_app, he, run_app]
    rw [hgo]
    by_cases k1 : t.kind = 1
    · have hap : ap t.kind = true := by rw [k1]; rfl
      have hg1 : s1.md = .gap := hs1.elim id (fun h => by rw [hap] at h; cases h.1)
      have hw := of_decide_eq_true (hkw k1)
      have hlen : t.text.data.toList.length = t.text.size := by rw [Array.length_toList]; rfl
      rw [show writL t.kind t.text = t.text.data.toList by unfold writL; rw [if_pos k1]]
      rw [gap_with s1 hg1, gap_word _ _ _ _ _ hw.2.2 (by omega) (by omega)]
      have hrne : r ≠ [] := by
        rintro rfl
        have := hlast (by simp)
        simp at this
        omega
      obtain ⟨out, n, p, b, h1, h2, h3⟩ := back_run r (ap t.kind) ⟨s1.out, s1.n, s1.p + t.text.data.toList.length, s1.b, .word s1.p t.text.data.toList⟩ (Or.inr ⟨hap, _, _, rfl⟩) hrok (fun e => absurd e hrne) hrlast
      refine ⟨⟨1, t.text, s1.n, s1.p⟩ :: out, n, p, b, ?_, ?_, fun _ => h3 hrne⟩
      · rw [h1, ← ho, cls_gap hg1]
        show St.mk ((s1.out ++ [⟨(1 : Nat), bs t.text.data.toList, s1.n, s1.p⟩]) ++ out) n p b .gap = _
        rw [bs_toList, List.append_assoc]
        rfl
      · refine ⟨k1.symm, by unfold tx; rw [if_pos (Or.inl k1)], by rw [hn], ?_⟩
        rw [if_neg (by omega), ← hn]
        exact h2
    · by_cases k2 : t.kind = 2
      · have hap : ap t.kind = true := by rw [k2]; rfl
        have hg1 : s1.md = .gap := hs1.elim id (fun h => by rw [hap] at h; cases h.1)
        rw [show writL t.kind t.text = quoteL t.text.data.toList by unfold writL; rw [if_neg k1, if_pos k2]]
        rw [gap_with s1 hg1, gap_quote]
        have hrne : r ≠ [] := by
          rintro rfl
          have := hlast (by simp)
          simp at this
          omega
        obtain ⟨out, n, p, b, h1, h2, h3⟩ := back_run r (ap t.kind) (addS ⟨s1.out, s1.n, s1.p, s1.b, .gap⟩ 2 t.text.data.toList s1.p (s1.p + (quoteL t.text.data.toList).length)) (Or.inl rfl) hrok (fun e => absurd e hrne) hrlast
        refine ⟨⟨2, t.text, s1.n, s1.p⟩ :: out, n, p, b, ?_, ?_, fun _ => h3 hrne⟩
        · rw [h1, ← ho, cls_gap hg1]
          show St.mk ((s1.out ++ [⟨(2 : Nat), bs t.text.data.toList, s1.n, s1.p⟩]) ++ out) n p b .gap = _
          rw [bs_toList, List.append_assoc]
          rfl
        · refine ⟨k2.symm, by unfold tx; rw [if_pos (Or.inr k2)], by rw [hn], ?_⟩
          rw [if_neg (by omega), ← hn]
          exact h2
      · rw [show writL t.kind t.text = [signB t.kind] by unfold writL; rw [if_neg k1, if_neg k2]]
        have hsig : run s1 [signB t.kind] = stp (cls s1) (signB t.kind) := by
          rcases hs1 with hg1 | ⟨_, fr, acc, hw⟩
          · rw [cls_gap hg1]; rfl
          · exact cls_stp hw (sign_kd (by omega))
        have hcg : cls s1 = ⟨(cls s1).out, (cls s1).n, (cls s1).p, (cls s1).b, .gap⟩ := by
          rcases hs1 with hg1 | ⟨_, fr, acc, hw⟩
          · rw [cls_gap hg1]; exact gap_with s1 hg1
          · unfold cls; rw [hw]; rfl
        have hcn : (cls s1).n = s.n := by
          rw [← hn]
          rcases hs1 with hg1 | ⟨_, fr, acc, hw⟩
          · rw [cls_gap hg1]
          · unfold cls; rw [hw]; rfl
        rw [hsig]
        have htx : tx t = noText := by unfold tx; rw [if_neg (by omega)]
        by_cases k7 : t.kind = 7
        · have hst : stp (cls s1) (signB t.kind) = ⟨(cls s1).out ++ [⟨7, noText, (cls s1).n, (cls s1).b⟩], (cls s1).n + 1, 0, 0, .gap⟩ := by
            rw [k7, hcg]; rfl
          rw [hst]
          obtain ⟨out, n, p, b, h1, h2, h3⟩ := back_run r (ap t.kind) ⟨(cls s1).out ++ [⟨7, noText, (cls s1).n, (cls s1).b⟩], (cls s1).n + 1, 0, 0, .gap⟩ (Or.inl rfl) hrok (fun _ => rfl) hrlast
          by_cases hrne : r = []
          · subst hrne
            refine ⟨[⟨7, noText, (cls s1).n, (cls s1).b⟩], (cls s1).n + 1, 0, 0, ?_, ?_, fun _ => rfl⟩
            · rw [printL, run_nil, ← ho]
            · exact ⟨k7.symm, htx.symm, by rw [hcn], trivial⟩
          · refine ⟨⟨7, noText, (cls s1).n, (cls s1).b⟩ :: out, n, p, b, ?_, ?_, fun _ => h3 hrne⟩
            · rw [h1, ← ho]
              show St.mk (((cls s1).out ++ [⟨7, noText, (cls s1).n, (cls s1).b⟩]) ++ out) n p b .gap = _
              rw [List.append_assoc]
              rfl
            · refine ⟨k7.symm, htx.symm, by rw [hcn], ?_⟩
              rw [if_pos k7, ← hcn]
              exact h2
        · have hst : stp (cls s1) (signB t.kind) = ⟨(cls s1).out ++ [⟨t.kind, noText, (cls s1).n, (cls s1).p⟩], (cls s1).n, (cls s1).p + 1, (cls s1).p + 1, .gap⟩ := by
            have := sign_gap (cls s1).out (cls s1).n (cls s1).p (cls s1).b (k := t.kind) (by omega)
            rw [← hcg] at this
            exact this
          rw [hst]
          have hrne : r ≠ [] := by
            rintro rfl
            have := hlast (by simp)
            simp at this
            omega
          obtain ⟨out, n, p, b, h1, h2, h3⟩ := back_run r (ap t.kind) ⟨(cls s1).out ++ [⟨t.kind, noText, (cls s1).n, (cls s1).p⟩], (cls s1).n, (cls s1).p + 1, (cls s1).p + 1, .gap⟩ (Or.inl rfl) hrok (fun _ => rfl) hrlast
          refine ⟨⟨t.kind, noText, (cls s1).n, (cls s1).p⟩ :: out, n, p, b, ?_, ?_, fun _ => h3 hrne⟩
          · rw [h1, ← ho]
            show St.mk (((cls s1).out ++ [⟨t.kind, noText, (cls s1).n, (cls s1).p⟩]) ++ out) n p b .gap = _
            rw [List.append_assoc]
            rfl
          · refine ⟨rfl, htx.symm, by rw [hcn], ?_⟩
            rw [if_neg k7, ← hcn]
            exact h2
theorem okL_iff {l : List Tok} : okL l = true ↔ (∀ t ∈ l, okT t = true) ∧ ∀ h : l ≠ [], (l.getLast h).kind = 7 := by
  unfold okL
  rw [Bool.and_eq_true, List.all_eq_true]
  refine and_congr Iff.rfl ?_
  cases l with
  | nil => simp
  | cons a l => rw [List.getLast?_eq_some_getLast (by simp)]; simp
/-- What is printed is read. -/
theorem back_L {l : List Tok} (h : okL l = true) (hl : (printL l false).length ≤ 65536) : ∃ out, tokL (printL l false) = (out, 0, 0, 0) ∧ Fit out l 1 := by
  obtain ⟨h1, h2⟩ := okL_iff.1 h
  obtain ⟨out, n, p, b, e1, e2, e3⟩ := back_run l false st0 (Or.inl rfl) h1 (fun _ => rfl) h2
  refine ⟨out, ?_, e2⟩
  unfold tokL
  rw [if_neg (by omega), e1, fin_gap]
  by_cases hn : l = []
  · subst hn
    have hp : st0 = ⟨(cls st0).out ++ out, n, p, b, .gap⟩ := e1
    have : p = 0 := (congrArg St.p hp).symm
    rw [if_pos this]
    rfl
  · rw [if_pos (e3 hn)]
    rfl
end Go.Proofs.Ytcdilcjgmcamcab
