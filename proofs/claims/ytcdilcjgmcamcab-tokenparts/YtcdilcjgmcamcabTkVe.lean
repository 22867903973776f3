/- TokenParts: tokens laid behind one another. Nothing of a program. -/
import Derived.Test.YtcdilcjgmcamcabTkIn
import Derived.Test.YtcdilcjgmcamcabTkPt
import Derived.Test.YtcdilcjgmcamcabTkV3
namespace Go.Proofs.Ytcdilcjgmcamcab
open Go.RowKit Go.Maps

structure Pi (T : List UInt8) (W : List Tok) (s : St) : Prop where
  st : run st0 T = s
  md : s.md = .gap ∨ ∃ fr acc, s.md = .word fr acc
  out : (cls s).out = W
  n : s.n = 1
  p : s.p = T.length
  b : (cls s).b = T.length
  last : (∃ fr acc, s.md = .word fr acc) → ∃ h : W ≠ [], (W.getLast h).kind = 1
theorem pi_nil : Pi [] [] st0 := ⟨rfl, Or.inl rfl, rfl, rfl, rfl, rfl, fun ⟨_, _, h⟩ => by cases h⟩
theorem cls_md (s : St) (h : s.md = .gap ∨ ∃ fr acc, s.md = .word fr acc) : cls s = ⟨(cls s).out, s.n, s.p, (cls s).b, .gap⟩ := by
  rcases h with h | ⟨fr, acc, h⟩
  · rw [cls_gap h]; exact gap_with s h
  · unfold cls; rw [h]; rfl
theorem blanks_gap (o : List Tok) (n p b : Nat) : ∀ g : Nat, run ⟨o, n, p, b, .gap⟩ (List.replicate g 32) = ⟨o, n, p + g, b, .gap⟩
  | 0 => rfl
  | g + 1 => by
    rw [List.replicate_succ, run_cons]
    have e : stp ⟨o, n, p, b, .gap⟩ 32 = ⟨o, n, p + 1, b, .gap⟩ := rfl
    rw [e, blanks_gap o n (p + 1) b g]
    congr 1
    omega
theorem cls_run {s : St} (h : s.md = .gap ∨ ∃ fr acc, s.md = .word fr acc) {c : UInt8} (hc : kd c ≠ 1) (l : List UInt8) : run s (c :: l) = run (cls s) (c :: l) := by
  rcases h with h | ⟨fr, acc, h⟩
  · rw [cls_gap h]
  · rw [run_cons, run_cons, cls_stp h hc]
/-- Behind some blanks. -/
theorem Pi.blanks {T : List UInt8} {W : List Tok} {s : St} (h : Pi T W s) (g : Nat) : ∃ s1, run st0 (T ++ List.replicate g 32) = s1 ∧ (s1.md = .gap ∨ (g = 0 ∧ ∃ fr acc, s1.md = .word fr acc)) ∧ (cls s1).out = W ∧ s1.n = 1 ∧ s1.p = T.length + g ∧ (s1.md = .gap → (cls s1).b = T.length) := by
  rw [run_app, h.st]
  cases g with
  | zero => exact ⟨s, rfl, h.md.imp id fun h => ⟨rfl, h⟩, h.out, h.n, h.p, fun _ => h.b⟩
  | succ g =>
    rw [List.replicate_succ, cls_run h.md (by decide), ← List.replicate_succ, cls_md s h.md, blanks_gap]
    exact ⟨_, rfl, Or.inl rfl, h.out, h.n, by show s.p + _ = _; rw [h.p], fun _ => h.b⟩
theorem Pi.add {T : List UInt8} {W : List Tok} {s : St} (h : Pi T W s) (g : Nat) (t : Tok) (hok : okT t = true) (h7 : t.kind ≠ 7) (hg : g = 0 → t.kind = 1 → ∀ h : W ≠ [], (W.getLast h).kind ≠ 1) :
    ∃ s2, Pi ((T ++ List.replicate g 32) ++ writL t.kind t.text) (W ++ [⟨t.kind, tx t, 1, ((T.length + g : Nat) : Int)⟩]) s2 := by
  obtain ⟨s1, e1, hm, ho, hn, hp, _⟩ := h.blanks g
  obtain ⟨k1, k7, kw⟩ := of_decide_eq_true hok
  have hmm : s1.md = .gap ∨ ∃ fr acc, s1.md = .word fr acc := hm.imp id fun h => h.2
  have hlen : (T ++ List.replicate g 32).length = T.length + g := by simp
  refine ⟨run s1 (writL t.kind t.text), ?_⟩
  have hr : run st0 ((T ++ List.replicate g 32) ++ writL t.kind t.text) = run s1 (writL t.kind t.text) := by rw [run_app, e1]
  by_cases e : t.kind = 1
  · have hgap : s1.md = .gap := by
      rcases hm with hm | ⟨hg0, fr, acc, hw⟩
      · exact hm
      · exfalso
        subst hg0
        rw [List.replicate_zero, List.append_nil, h.st] at e1
        subst e1
        obtain ⟨hne, hl⟩ := h.last ⟨fr, acc, hw⟩
        exact hg rfl e hne hl
    have hw := of_decide_eq_true (kw e)
    have hwl : writL t.kind t.text = t.text.data.toList := by unfold writL; rw [if_pos e]
    have htx : tx t = t.text := by unfold tx; rw [if_pos (Or.inl e)]
    have hlt : t.text.data.toList.length = t.text.size := by rw [Array.length_toList]; rfl
    have hrun : run s1 (writL t.kind t.text) = ⟨s1.out, s1.n, s1.p + t.text.data.toList.length, s1.b, .word s1.p t.text.data.toList⟩ := by
      rw [hwl, gap_with s1 hgap, gap_word _ _ _ _ _ hw.2.2 (by omega) (by omega)]
    rw [cls_gap hgap] at ho
    rw [hrun] at hr ⊢
    refine ⟨hr, Or.inr ⟨_, _, rfl⟩, ?_, hn, by rw [List.length_append, hlen, hwl]; show s1.p + _ = _; rw [hp], by rw [List.length_append, hlen, hwl]; show s1.p + _ = _; rw [hp], fun _ => ⟨by simp, by simp [e]⟩⟩
    show s1.out ++ [⟨((1 : Nat) : Int), bs t.text.data.toList, (s1.n : Nat), (s1.p : Nat)⟩] = _
    rw [ho, hn, hp, htx, e, bs_toList]
    rfl
  · have hc := cls_md s1 hmm
    rw [ho, hn, hp] at hc
    by_cases e2 : t.kind = 2
    · have hwl : writL t.kind t.text = quoteL t.text.data.toList := by unfold writL; rw [if_neg e, if_pos e2]
      have htx : tx t = t.text := by unfold tx; rw [if_pos (Or.inr e2)]
      have hrun : run s1 (writL t.kind t.text) = addS ⟨W, 1, T.length + g, (cls s1).b, .gap⟩ 2 t.text.data.toList (T.length + g) (T.length + g + (quoteL t.text.data.toList).length) := by
        rw [hwl, show quoteL t.text.data.toList = 34 :: (t.text.data.toList.flatMap escB ++ [34]) from rfl, cls_run hmm (by decide), ← show quoteL t.text.data.toList = 34 :: (t.text.data.toList.flatMap escB ++ [34]) from rfl, hc, gap_quote]
      rw [hrun] at hr ⊢
      refine ⟨hr, Or.inl rfl, ?_, rfl, by rw [List.length_append, hlen, hwl]; rfl, by rw [List.length_append, hlen, hwl]; rfl, fun ⟨_, _, h⟩ => by cases h⟩
      show W ++ [⟨((2 : Nat) : Int), bs t.text.data.toList, ((1 : Nat) : Int), ((T.length + g : Nat) : Int)⟩] = _
      rw [htx, e2, bs_toList]
      rfl
    · have hk : t.kind = 3 ∨ t.kind = 4 ∨ t.kind = 5 ∨ t.kind = 6 := by omega
      have hwl : writL t.kind t.text = [signB t.kind] := by unfold writL; rw [if_neg e, if_neg e2]
      have htx : tx t = noText := by unfold tx; rw [if_neg (by omega)]
      have hrun : run s1 (writL t.kind t.text) = ⟨W ++ [⟨t.kind, noText, ((1 : Nat) : Int), ((T.length + g : Nat) : Int)⟩], 1, T.length + g + 1, T.length + g + 1, .gap⟩ := by
        rw [hwl, cls_run hmm (sign_kd (by omega)), hc]
        exact sign_gap _ _ _ _ hk
      rw [hrun] at hr ⊢
      refine ⟨hr, Or.inl rfl, ?_, rfl, by rw [List.length_append, hlen, hwl]; rfl, by rw [List.length_append, hlen, hwl]; rfl, fun ⟨_, _, h⟩ => by cases h⟩
      show W ++ [⟨t.kind, noText, ((1 : Nat) : Int), ((T.length + g : Nat) : Int)⟩] = _
      rw [htx]
      rfl
theorem Pi.done {T : List UInt8} {W : List Tok} {s : St} (h : Pi T W s) (hl : T.length ≤ 60000) : tokL (T ++ [32, 10]) = (W ++ [⟨7, noText, 1, (T.length : Int)⟩], 0, 0, 0) := by
  unfold tokL
  rw [if_neg (by simp; omega), run_app, h.st, cls_run h.md (by decide), cls_md s h.md, h.out, h.n, h.p, h.b]
  rfl
theorem okL_two (t : Tok) : okL [t, mkT 7] = okT t := by
  have h : okT (mkT 7) = true := by decide
  show ((okT t && (okT (mkT 7) && true)) && decide ((mkT 7).kind = 7)) = okT t
  rw [h]
  cases okT t <;> rfl
theorem printL_two (t : Tok) : printL [t, mkT 7] false = writL t.kind t.text ++ [10] := by
  rw [printL, printL, printL]
  have h1 : ap (mkT 7).kind = false := rfl
  rw [h1]
  simp [writL, signB, mkT]
theorem bits_and3 (x : Int) : ∃ g : Nat, g ≤ 3 ∧ bits .and .i64 x 3 = (g : Int) := by
  refine ⟨(BitVec.ofInt 64 x &&& BitVec.ofInt 64 3).toNat, ?_, ?_⟩
  · rw [BitVec.toNat_and]
    exact Nat.le_trans Nat.and_le_right (by decide)
  · have hle : (BitVec.ofInt 64 x &&& BitVec.ofInt 64 3).toNat ≤ 3 := by
      rw [BitVec.toNat_and]
      exact Nat.le_trans Nat.and_le_right (by decide)
    show IntKind.i64.wrap (((BitVec.ofInt 64 x &&& BitVec.ofInt 64 3).toNat : Nat) : Int) = _
    generalize (BitVec.ofInt 64 x &&& BitVec.ofInt 64 3).toNat = q at *
    rw [IntKind.wrap_i64]
    omega
end Go.Proofs.Ytcdilcjgmcamcab
