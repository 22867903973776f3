/- A manifest's text as a row of bytes that go through a machine of few states: what Tokens tells. Nothing of a program. Literals and prints as rows of bytes, and what the machine makes of them. Nothing of a program. Plain mathematics of package wire: numbers in groups of seven bits, as lists of integers; nothing of the program. What it means that a value is a slice of bytes that reads a list; what is handed on; a slice's bytes as a string. -/
import Derived.WalkKit
import Derived.Test.YtfhfobikbfbajaaGreatDoorProg
import Derived.WalkSpells
namespace Go.Proofs.YtfhfobikbfbajaaGreatDoor

/-- A token. -/
structure Tok where
  kind : Int
  text : ByteArray
  line : Int
  place : Int
def Tok.nul : Tok := ⟨0, ⟨#[]⟩, 0, 0⟩
def bs (l : List UInt8) : ByteArray := ⟨l.toArray⟩
def noText : ByteArray := ⟨#[]⟩
/-- May this byte stand in a word? -/
def inW (c : UInt8) : Bool := decide ((97 ≤ c.toNat ∧ c.toNat ≤ 122) ∨ (65 ≤ c.toNat ∧ c.toNat ≤ 90) ∨ (48 ≤ c.toNat ∧ c.toNat ≤ 57) ∨ c.toNat = 46 ∨ c.toNat = 95 ∨ c.toNat = 45 ∨ c.toNat = 47)
/-- The kind of token that begins with this byte; 0: none does. -/
def kd (c : UInt8) : Nat := if inW c then 1 else if c.toNat = 34 then 2 else if c.toNat = 61 then 3 else if c.toNat = 40 then 4 else if c.toNat = 41 then 5 else if c.toNat = 44 then 6 else if c.toNat = 10 then 7 else 0
/-- A small hex digit's number. -/
def dg (c : UInt8) : Option Nat := if 48 ≤ c.toNat ∧ c.toNat ≤ 57 then some (c.toNat - 48) else if 97 ≤ c.toNat ∧ c.toNat ≤ 102 then some (c.toNat - 87) else none
/-- Where the machine stands: between tokens, in a remark, in a word, in a literal, behind a backslash, behind an x, behind the first digit; or at what can't be. -/
def Md : Type := Unit ⊕ Unit ⊕ (Nat × List UInt8) ⊕ (Nat × List UInt8) ⊕ (Nat × List UInt8) ⊕ (Nat × List UInt8) ⊕ (Nat × List UInt8 × Nat) ⊕ Int
abbrev Md.gap : Md := Sum.inl ()
abbrev Md.rem : Md := Sum.inr (Sum.inl ())
abbrev Md.word (fr : Nat) (acc : List UInt8) : Md := Sum.inr (Sum.inr (Sum.inl (fr, acc)))
abbrev Md.lit (fr : Nat) (acc : List UInt8) : Md := Sum.inr (Sum.inr (Sum.inr (Sum.inl (fr, acc))))
abbrev Md.esc (fr : Nat) (acc : List UInt8) : Md := Sum.inr (Sum.inr (Sum.inr (Sum.inr (Sum.inl (fr, acc)))))
abbrev Md.hx (fr : Nat) (acc : List UInt8) : Md := Sum.inr (Sum.inr (Sum.inr (Sum.inr (Sum.inr (Sum.inl (fr, acc))))))
abbrev Md.hy (fr : Nat) (acc : List UInt8) (h : Nat) : Md := Sum.inr (Sum.inr (Sum.inr (Sum.inr (Sum.inr (Sum.inr (Sum.inl (fr, acc, h)))))))
abbrev Md.bad (e : Int) : Md := Sum.inr (Sum.inr (Sum.inr (Sum.inr (Sum.inr (Sum.inr (Sum.inr e))))))
/-- By where it stands. -/
abbrev Md.on {α : Type} (m : Md) (gap rem : α) (word lit esc hx : Nat → List UInt8 → α) (hy : Nat → List UInt8 → Nat → α) (bad : Int → α) : α :=
  match m with
  | Sum.inl () => gap
  | Sum.inr (Sum.inl ()) => rem
  | Sum.inr (Sum.inr (Sum.inl (fr, acc))) => word fr acc
  | Sum.inr (Sum.inr (Sum.inr (Sum.inl (fr, acc)))) => lit fr acc
  | Sum.inr (Sum.inr (Sum.inr (Sum.inr (Sum.inl (fr, acc))))) => esc fr acc
  | Sum.inr (Sum.inr (Sum.inr (Sum.inr (Sum.inr (Sum.inl (fr, acc)))))) => hx fr acc
  | Sum.inr (Sum.inr (Sum.inr (Sum.inr (Sum.inr (Sum.inr (Sum.inl (fr, acc, h))))))) => hy fr acc h
  | Sum.inr (Sum.inr (Sum.inr (Sum.inr (Sum.inr (Sum.inr (Sum.inr e)))))) => bad e
structure St where
  out : List Tok
  n : Nat
  p : Nat
  b : Nat
  md : Md
def endS (s : St) : St := ⟨s.out ++ [⟨7, noText, s.n, s.b⟩], s.n + 1, 0, 0, .gap⟩
/-- A token that begins at fr and ends at p. -/
def addS (s : St) (k : Nat) (t : List UInt8) (fr p : Nat) : St := ⟨s.out ++ [⟨k, bs t, s.n, fr⟩], s.n, p, p, .gap⟩
def gapS (s : St) (c : UInt8) : St :=
  if c.toNat = 32 then ⟨s.out, s.n, s.p + 1, s.b, .gap⟩
  else if c.toNat = 35 then ⟨s.out, s.n, s.p + 1, s.b, .rem⟩
  else if kd c = 1 then ⟨s.out, s.n, s.p + 1, s.b, .word s.p [c]⟩
  else if kd c = 2 then ⟨s.out, s.n, s.p + 1, s.b, .lit s.p []⟩
  else if kd c = 7 then endS s
  else if kd c = 0 then ⟨s.out, s.n, s.p, s.b, .bad 110⟩
  else addS s (kd c) [] s.p (s.p + 1)
def litS (s : St) (fr : Nat) (acc : List UInt8) (c : UInt8) : St :=
  if c.toNat = 34 then addS s 2 acc fr (s.p + 1)
  else if c.toNat = 92 then ⟨s.out, s.n, s.p + 1, s.b, .esc fr acc⟩
  else if c.toNat = 10 then ⟨s.out, s.n, fr, s.b, .bad 111⟩
  else if c.toNat < 32 ∨ 126 < c.toNat then ⟨s.out, s.n, s.p, s.b, .bad 110⟩
  else ⟨s.out, s.n, s.p + 1, s.b, .lit fr (acc ++ [c])⟩
def escS (s : St) (fr : Nat) (acc : List UInt8) (c : UInt8) : St :=
  if c.toNat = 34 ∨ c.toNat = 92 then ⟨s.out, s.n, s.p + 1, s.b, .lit fr (acc ++ [c])⟩
  else if c.toNat = 110 then ⟨s.out, s.n, s.p + 1, s.b, .lit fr (acc ++ [10])⟩
  else if c.toNat = 120 then ⟨s.out, s.n, s.p + 1, s.b, .hx fr acc⟩
  else ⟨s.out, s.n, s.p - 1, s.b, .bad 112⟩
def hxS (s : St) (fr : Nat) (acc : List UInt8) (c : UInt8) : St :=
  match dg c with
  | some h => ⟨s.out, s.n, s.p + 1, s.b, .hy fr acc h⟩
  | none => ⟨s.out, s.n, s.p - 2, s.b, .bad 112⟩
def hyS (s : St) (fr : Nat) (acc : List UInt8) (h : Nat) (c : UInt8) : St :=
  match dg c with
  | some l => ⟨s.out, s.n, s.p + 1, s.b, .lit fr (acc ++ [UInt8.ofNat (16 * h + l)])⟩
  | none => ⟨s.out, s.n, s.p - 3, s.b, .bad 112⟩
def wordS (s : St) (fr : Nat) (acc : List UInt8) (c : UInt8) : St :=
  if kd c = 1 then (if acc.length = 255 then ⟨s.out, s.n, s.p, s.b, .bad 2⟩ else ⟨s.out, s.n, s.p + 1, s.b, .word fr (acc ++ [c])⟩)
  else gapS (addS s 1 acc fr s.p) c
/-- One byte more. -/
def stp (s : St) (c : UInt8) : St :=
  s.md.on (gapS s c) (if c.toNat = 10 then endS s else ⟨s.out, s.n, s.p + 1, s.b, .rem⟩) (fun fr acc => wordS s fr acc c) (fun fr acc => litS s fr acc c) (fun fr acc => escS s fr acc c) (fun fr acc => hxS s fr acc c) (fun fr acc h => hyS s fr acc h c) (fun _ => s)
def run (s : St) (l : List UInt8) : St := l.foldl stp s
/-- The text's end: a line that has a byte has its end. -/
def fin (s : St) : St :=
  s.md.on (if s.p = 0 then s else endS s) (stp s 10) (fun _ _ => stp s 10) (fun _ _ => stp s 10) (fun _ _ => stp s 10) (fun _ _ => stp s 10) (fun _ _ _ => stp s 10) (fun _ => stp s 10)
end Go.Proofs.YtfhfobikbfbajaaGreatDoor

namespace Go.Proofs.YtfhfobikbfbajaaGreatDoor

/-- A digit. -/
def hexd (n : Nat) : UInt8 := if n < 10 then UInt8.ofNat (48 + n) else UInt8.ofNat (87 + n)
def escB (c : UInt8) : List UInt8 :=
  if c.toNat = 34 ∨ c.toNat = 92 then [92, c] else if c.toNat = 10 then [92, 110] else if c.toNat < 32 ∨ 126 < c.toNat then [92, 120, hexd (c.toNat / 16), hexd (c.toNat % 16)] else [c]
def quoteL (l : List UInt8) : List UInt8 := 34 :: (l.flatMap escB ++ [34])
theorem u8_lt (c : UInt8) : c.toNat < 256 := c.toNat_lt
theorem escB_len (c : UInt8) : 1 ≤ (escB c).length ∧ (escB c).length ≤ 4 := by
  unfold escB
  repeat' split
  all_goals simp
theorem quote_le (l : List UInt8) : (quoteL l).length ≤ 4 * l.length + 2 := by
  unfold quoteL
  simp only [List.length_cons, List.length_append, List.length_nil]
  have : (l.flatMap escB).length ≤ 4 * l.length := by
    induction l with
    | nil => simp
    | cons c l ih =>
      rw [List.flatMap_cons, List.length_append, List.length_cons]
      have := (escB_len c).2
      omega
  omega
/-- Does a blank part it from a neighbour? -/
def ap (k : Int) : Bool := decide (k ≠ 4 ∧ k ≠ 5 ∧ k ≠ 6 ∧ k ≠ 7)
end Go.Proofs.YtfhfobikbfbajaaGreatDoor

namespace Go.Proofs.YtfhfobikbfbajaaGreatDoor
open Go.RowKit

theorem hide {p : Prop} (h : p) : Hid p := h
theorem unhide {p : Prop} (h : Hid p) : p := h

/-- A number in groups of seven bits, the lowest first, in at most f + 1 bytes. -/
def uB : Nat → Int → List Int
  | 0, x => [x]
  | f + 1, x => if x < 128 then [x] else (x % 128 + 128) :: uB f (x / 128)
def uBytes (x : Int) : List Int := uB 9 x

theorem uB_last {f : Nat} {x : Int} (h : x < 128) : uB f x = [x] := by cases f <;> simp [uB, h]
theorem uB_more {f : Nat} {x : Int} (h : ¬ x < 128) : uB (f + 1) x = (x % 128 + 128) :: uB f (x / 128) := by simp [uB, h]

theorem or128_nat : ∀ n, n < 256 → n ||| 128 = n % 128 + 128 := by decide +kernel
theorem or128 {x : Int} (h0 : 0 ≤ x) (h1 : x ≤ 255) : bits .or .u8 x 128 = x % 128 + 128 := by
  rw [u8_or x 128 h0 (by omega) (by decide) (by decide)]
  have h := or128_nat x.toNat (by omega)
  rw [show (128 : Int).toNat = 128 from rfl, h]
  omega

/-- The bound goes with the groups that are left. -/
theorem top_step {f : Nat} {x : Int} (h : x < 2 * 128 ^ (f + 1)) : x / 128 < 2 * 128 ^ f := by
  rw [Int.pow_succ] at h
  generalize (128 : Int) ^ f = p at h ⊢
  omega
theorem top_pos {f : Nat} {x : Int} (h : x < 2 * 128 ^ f) (hx : 128 ≤ x) : ∃ g, f = g + 1 := by
  cases f with
  | zero => simp at h; omega
  | succ g => exact ⟨g, rfl⟩

theorem uB_len (f : Nat) (x : Int) : 1 ≤ (uB f x).length ∧ (uB f x).length ≤ f + 1 := by
  induction f generalizing x with
  | zero => simp [uB]
  | succ n ih =>
    by_cases h : x < 128
    · rw [uB_last h]; simp
    · rw [uB_more h]; have := ih (x / 128); simp; omega
/-- A byte string, its length ahead of it. -/
def bB (xs : List Int) : List Int := uBytes xs.length ++ xs
theorem top9 {x : Int} (h : x ≤ 18446744073709551615) : x < 2 * 128 ^ 9 := by
  have e : (2 : Int) * 128 ^ 9 = 18446744073709551616 := by decide +kernel
  omega
end Go.Proofs.YtfhfobikbfbajaaGreatDoor

namespace Go.Proofs.YtfhfobikbfbajaaGreatDoor
open Go.RowKit

/-- The value is a slice of bytes; in this world it reads the list. -/
structure IsB (w : World) (v : Value) (xs : List Int) : Prop where
  bytes : ∀ j : Nat, 0 ≤ xs[j]?.getD 0 ∧ xs[j]?.getD 0 ≤ 255
  val : ∃ a cap, v = .slice a xs.length cap ∧ xs.length ≤ cap ∧ cap ≤ 9223372036854775807 ∧ (a = none → cap = 0) ∧
    (0 < xs.length → ∃ b off, a = some ⟨b, off, none⟩ ∧ ∀ j, j < xs.length → w.cell? ⟨b, off + j, none⟩ = some (.int .u8 (xs.getD j 0)))

theorem IsB.below {w w' : World} {v : Value} {xs : List Int} (h : IsB w v xs) (hb : Below w.heap.size w w') : IsB w' v xs := by
  obtain ⟨h1, a, cap, hv, hl, hm, hz, hc⟩ := h
  refine ⟨h1, a, cap, hv, hl, hm, hz, fun hp => ?_⟩
  obtain ⟨b, off, ha, hcell⟩ := hc hp
  exact ⟨b, off, ha, fun j hj => (hb.cell (p := ⟨b, off + j, none⟩) (World.block_lt_of_cell? w _ (hcell j hj))).trans (hcell j hj)⟩

theorem bytes_mem {xs : List Int} (h : ∀ x ∈ xs, 0 ≤ x ∧ x ≤ 255) : ∀ j : Nat, 0 ≤ xs[j]?.getD 0 ∧ xs[j]?.getD 0 ≤ 255 := by
  intro j
  by_cases hj : j < xs.length
  · simp only [List.getElem?_eq_getElem hj, Option.getD_some]
    exact h _ (List.getElem_mem hj)
  · rw [List.getElem?_eq_none (by omega)]
    simp
theorem IsB.mem {w : World} {v : Value} {xs : List Int} (h : IsB w v xs) : ∀ x ∈ xs, 0 ≤ x ∧ x ≤ 255 := by
  intro x hx
  obtain ⟨j, hj, rfl⟩ := List.getElem_of_mem hx
  have := h.bytes j
  simpa [List.getElem?_eq_getElem hj] using this
theorem IsB.len {w : World} {v : Value} {xs : List Int} (h : IsB w v xs) : xs.length ≤ 9223372036854775807 := by
  obtain ⟨_, a, cap, hv, hl, hm, _, hc⟩ := h
  omega

theorem isB_owns {w : World} {base : Nat} {v : Value} {n : Nat} {xs : List Int} (h : w.ownsRow base 5 1 v n (xs.map (Value.int .u8))) (hb : ∀ x ∈ xs, 0 ≤ x ∧ x ≤ 255) : IsB w v xs := by
  obtain ⟨hn, h⟩ := h
  have hn' : n = xs.length := by simp at hn; exact hn.symm
  subst hn'
  refine ⟨bytes_mem hb, ?_⟩
  rcases h with ⟨rfl, h0⟩ | ⟨g, cap, cur, rfl, _, hg, hle, hm, hs, ht⟩
  · exact ⟨none, 0, by rw [h0], by omega, by omega, fun _ => rfl, fun hp => by omega⟩
  · refine ⟨_, cap, rfl, hle, by simpa [maxLen] using hm, (fun h => by cases h), fun _ => ⟨g, 0, rfl, fun j hj => ?_⟩⟩
    rw [cell_of_row w g (0 + j) cur 5 (0, 0) hg]
    have h2 : (cur.toList.take (xs.length * 1))[j]? = (xs.map (Value.int .u8))[j]? := by rw [ht]
    rw [List.getElem?_take_of_lt (by omega)] at h2
    simp only [Nat.zero_add]
    rw [Array.getElem?_toList] at h2
    rw [h2]
    simp [hj]

/-- A list of bytes as a string's. -/
def mkS (xs : List Int) : ByteArray := xs.foldl (fun r n => r.push (UInt8.ofNat n.toNat)) ByteArray.empty
theorem mkS_list (xs : List Int) (r : ByteArray) : (xs.foldl (fun r n => r.push (UInt8.ofNat n.toNat)) r).data.toList = r.data.toList ++ xs.map (fun n => UInt8.ofNat n.toNat) := by
  induction xs generalizing r with
  | nil => simp
  | cons x t ih => rw [List.foldl_cons, ih]; simp [ByteArray.push]
theorem conv_isB {w : World} {v : Value} {xs : List Int} (h : IsB w v xs) : (convert 65 9 v).run Tryz.prog w = .ok (.string (mkS xs)) w := by
  obtain ⟨_, a, cap, rfl, hl, hm, _, hc⟩ := h
  rw [run_convert_bytes_string w 65 9 5 a _ cap Tryz.underlying65 Tryz.underlying5 Tryz.underlying9]
  by_cases hp : 0 < xs.length
  · obtain ⟨b, off, rfl, hcell⟩ := hc hp
    rw [run_bytesToString w ⟨b, off, none⟩ xs.length cap xs]
    · rfl
    · have := run_loadCells_list (P := Tryz.prog) (w := w) ⟨b, off, none⟩ (xs.map (Value.int .u8)) (fun j v hj => by
        simp only [List.getElem?_map, Option.map_eq_some_iff] at hj
        obtain ⟨x, hx, rfl⟩ := hj
        have hjl := (List.getElem?_eq_some_iff.1 hx).1
        rw [Addr.add_lit, hcell j hjl, List.getD_eq_getElem?_getD, hx]
        rfl)
      simpa using this
  · have h0 : xs = [] := List.eq_nil_of_length_eq_zero (by omega)
    subst h0
    cases a with
    | none => simp [Conv.bytesToString, mkS]
    | some ad =>
      rw [run_bytesToString w ad _ cap []]
      · rfl
      · have := run_loadCells_list (P := Tryz.prog) (w := w) ad [] (fun j v hj => by simp at hj)
        simpa using this

/-- The cells of a slice that lies somewhere. -/
theorem IsB.cells {w : World} {ad : Addr} {cap : Nat} {xs : List Int} (h : IsB w (.slice (some ad) xs.length cap) xs) : ∀ j u, (xs.map (Value.int .u8))[j]? = some u → w.cell? (ad.add j) = some u := by
  intro j u hu
  simp only [List.getElem?_map, Option.map_eq_some_iff] at hu
  obtain ⟨x, hx, rfl⟩ := hu
  have hjl := (List.getElem?_eq_some_iff.1 hx).1
  obtain ⟨_, a, cp, hv, _, _, _, hc⟩ := h
  obtain ⟨b, off, ha, hcell⟩ := hc (by omega)
  injection hv with e1 _ _
  rw [ha] at e1
  injection e1 with e1
  rw [e1, Addr.add_lit, hcell j hjl, List.getD_eq_getElem?_getD, hx]
  rfl
end Go.Proofs.YtfhfobikbfbajaaGreatDoor
