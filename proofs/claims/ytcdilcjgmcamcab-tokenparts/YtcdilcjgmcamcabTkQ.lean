/- Literals and prints as rows of bytes, and what the machine makes of them. Nothing of a program. -/
import Derived.Test.YtcdilcjgmcamcabTkP
namespace Go.Proofs.Ytcdilcjgmcamcab

/-- A digit. -/
def hexd (n : Nat) : UInt8 := if n < 10 then UInt8.ofNat (48 + n) else UInt8.ofNat (87 + n)
def escB (c : UInt8) : List UInt8 :=
  if c.toNat = 34 ∨ c.toNat = 92 then [92, c] else if c.toNat = 10 then [92, 110] else if c.toNat < 32 ∨ 126 < c.toNat then [92, 120, hexd (c.toNat / 16), hexd (c.toNat % 16)] else [c]
def quoteL (l : List UInt8) : List UInt8 := 34 :: (l.flatMap escB ++ [34])
theorem u8_lt (c : UInt8) : c.toNat < 256 := c.toNat_lt
theorem hexd_nat {n : Nat} (h : n < 16) : (hexd n).toNat = if n < 10 then 48 + n else 87 + n := by
  unfold hexd
  split
  · simp [UInt8.toNat_ofNat']; omega
  · simp [UInt8.toNat_ofNat']; omega
theorem dg_hexd {n : Nat} (h : n < 16) : dg (hexd n) = some n := by
  unfold dg
  rw [hexd_nat h]
  by_cases h1 : n < 10
  · rw [if_pos h1, if_pos (by omega)]; congr 1; omega
  · rw [if_neg h1, if_neg (by omega), if_pos (by omega)]; congr 1; omega
theorem ofNat_toNat (c : UInt8) : UInt8.ofNat c.toNat = c := by simp
theorem lit_escB (o : List Tok) (n p b fr : Nat) (acc : List UInt8) (c : UInt8) : run ⟨o, n, p, b, .lit fr acc⟩ (escB c) = ⟨o, n, p + (escB c).length, b, .lit fr (acc ++ [c])⟩ := by
  have hc := u8_lt c
  unfold escB
  split
  · rename_i h
    show escS ⟨o, n, p + 1, b, .esc fr acc⟩ fr acc c = _
    unfold escS
    rw [if_pos h]
    rfl
  · split
    · rename_i h
      have : c = 10 := UInt8.toNat_inj.1 (by simpa using h)
      subst this
      rfl
    · split
      · rename_i h1 h2 h3
        show run (stp (stp (stp ⟨o, n, p, b, .lit fr acc⟩ 92) 120) (hexd (c.toNat / 16))) [hexd (c.toNat % 16)] = _
        have e1 : stp (stp ⟨o, n, p, b, .lit fr acc⟩ 92) 120 = ⟨o, n, p + 2, b, .hx fr acc⟩ := rfl
        rw [e1]
        have e2 : stp ⟨o, n, p + 2, b, .hx fr acc⟩ (hexd (c.toNat / 16)) = ⟨o, n, p + 3, b, .hy fr acc (c.toNat / 16)⟩ := by
          show (match dg (hexd (c.toNat / 16)) with | some h => _ | none => _) = _
          rw [dg_hexd (by omega)]
        rw [e2]
        have e3 : stp ⟨o, n, p + 3, b, .hy fr acc (c.toNat / 16)⟩ (hexd (c.toNat % 16)) = ⟨o, n, p + 4, b, .lit fr (acc ++ [UInt8.ofNat (16 * (c.toNat / 16) + c.toNat % 16)])⟩ := by
          show (match dg (hexd (c.toNat % 16)) with | some h => _ | none => _) = _
          rw [dg_hexd (by omega)]
        show stp ⟨o, n, p + 3, b, .hy fr acc (c.toNat / 16)⟩ (hexd (c.toNat % 16)) = _
        rw [e3, show 16 * (c.toNat / 16) + c.toNat % 16 = c.toNat by omega, ofNat_toNat]
        rfl
      · rename_i h1 h2 h3
        show litS ⟨o, n, p, b, .lit fr acc⟩ fr acc c = _
        unfold litS
        rw [if_neg (by omega), if_neg (by omega), if_neg (by omega), if_neg h3]
        rfl
theorem lit_escs (o : List Tok) (n b fr : Nat) : ∀ (l : List UInt8) (p : Nat) (acc : List UInt8), run ⟨o, n, p, b, .lit fr acc⟩ (l.flatMap escB) = ⟨o, n, p + (l.flatMap escB).length, b, .lit fr (acc ++ l)⟩
  | [], p, acc => by simp [run_nil]
  | c :: l, p, acc => by
    rw [List.flatMap_cons, run_app, lit_escB, lit_escs o n b fr l]
    simp [Nat.add_assoc]
theorem gap_quote (o : List Tok) (n p b : Nat) (l : List UInt8) : run ⟨o, n, p, b, .gap⟩ (quoteL l) = addS ⟨o, n, p, b, .gap⟩ 2 l p (p + (quoteL l).length) := by
  unfold quoteL
  rw [run_cons]
  have e1 : stp ⟨o, n, p, b, .gap⟩ 34 = ⟨o, n, p + 1, b, .lit p []⟩ := rfl
  rw [e1, run_app, lit_escs]
  show litS _ _ _ 34 = _
  unfold litS
  rw [if_pos (by decide)]
  simp only [addS, List.nil_append, List.length_cons, List.length_append, List.length_nil]
  congr 1 <;> omega
theorem quote_len (l : List UInt8) : l.length + 2 ≤ (quoteL l).length := by
  unfold quoteL
  simp only [List.length_cons, List.length_append, List.length_nil]
  have : l.length ≤ (l.flatMap escB).length := by
    induction l with
    | nil => simp
    | cons c l ih =>
      rw [List.flatMap_cons, List.length_append, List.length_cons]
      have : 1 ≤ (escB c).length := by unfold escB; repeat' split
                                       all_goals simp
      omega
  omega
theorem escB_len (c : UInt8) : 1 ≤ (escB c).length ∧ (escB c).length ≤ 4 := by
  unfold escB
  repeat' split
  all_goals simp
theorem quote_le (l : List UInt8) : (quoteL l).length ≤ 4 * l.length + 2 := by
  unfold quoteL
  simp only [List.length_cons, List.length_append, List.length_nil]
  have : (l.flatMap escB).length ≤ 4 * l.length := by
    induction l with
    | nil => simp
    | cons c l ih =>
      rw [List.flatMap_cons, List.length_append, List.length_cons]
      have := (escB_len c).2
      omega
  omega
/-- Bytes of words, one behind the other. -/
theorem word_bytes (o : List Tok) (n b fr : Nat) : ∀ (l : List UInt8) (p : Nat) (acc : List UInt8), (∀ c ∈ l, inW c = true) → acc.length + l.length ≤ 255 → run ⟨o, n, p, b, .word fr acc⟩ l = ⟨o, n, p + l.length, b, .word fr (acc ++ l)⟩
  | [], p, acc, _, _ => by simp [run_nil]
  | c :: l, p, acc, h, hl => by
    rw [run_cons]
    simp only [List.length_cons] at hl
    have e : stp ⟨o, n, p, b, .word fr acc⟩ c = ⟨o, n, p + 1, b, .word fr (acc ++ [c])⟩ := by
      show wordS _ fr acc c = _
      unfold wordS
      rw [if_pos (kd_word.2 (h c (by simp))), if_neg (by omega)]
    rw [e, word_bytes o n b fr l (p + 1) (acc ++ [c]) (fun x hx => h x (by simp [hx])) (by simp; omega)]
    simp [Nat.add_assoc, Nat.add_comm 1]
theorem gap_word (o : List Tok) (n p b : Nat) (l : List UInt8) (h : ∀ c ∈ l, inW c = true) (h1 : 1 ≤ l.length) (h2 : l.length ≤ 255) : run ⟨o, n, p, b, .gap⟩ l = ⟨o, n, p + l.length, b, .word p l⟩ := by
  cases l with
  | nil => simp at h1
  | cons c l =>
    rw [run_cons]
    have hc := h c (by simp)
    have e : stp ⟨o, n, p, b, .gap⟩ c = ⟨o, n, p + 1, b, .word p [c]⟩ := by
      show gapS _ c = _
      unfold gapS
      rw [if_neg (fun e => by rw [inW_not (by omega)] at hc; cases hc), if_neg (fun e => by rw [inW_not (by omega)] at hc; cases hc), if_pos (kd_word.2 hc)]
    simp only [List.length_cons] at h2
    rw [e, word_bytes o n b p l (p + 1) [c] (fun x hx => h x (by simp [hx])) (by simp; omega)]
    simp [Nat.add_assoc, Nat.add_comm 1]
/-- Does a blank part it from a neighbour? -/
def ap (k : Int) : Bool := decide (k ≠ 4 ∧ k ≠ 5 ∧ k ≠ 6 ∧ k ≠ 7)
def signB (k : Int) : UInt8 := if k = 3 then 61 else if k = 4 then 40 else if k = 5 then 41 else if k = 6 then 44 else 10
def writL (k : Int) (t : ByteArray) : List UInt8 := if k = 1 then t.data.toList else if k = 2 then quoteL t.data.toList else [signB k]
def printL : List Tok → Bool → List UInt8
  | [], _ => []
  | t :: r, a => ((if a && ap t.kind then [32] else []) ++ writL t.kind t.text) ++ printL r (ap t.kind)
def wordB (s : ByteArray) : Bool := decide (1 ≤ s.size ∧ s.size ≤ 255 ∧ ∀ c ∈ s.data.toList, inW c = true)
def okT (t : Tok) : Bool := decide (1 ≤ t.kind ∧ t.kind ≤ 7 ∧ (t.kind = 1 → wordB t.text = true))
def okL (l : List Tok) : Bool := l.all okT && (match l.getLast? with | none => true | some t => decide (t.kind = 7))
def printR (l : List Tok) : ByteArray × Int := if okL l = false then (noText, 1) else if 65536 < (printL l false).length then (noText, 2) else (bs (printL l false), 0)
end Go.Proofs.Ytcdilcjgmcamcab
