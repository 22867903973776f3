/- SHA-256 in plain numbers: the bytes laid out, block by block. What the document's table and laid answer. -/
import Derived.Test.YtlofoklfggmbiaaDoorQZ
import Derived.Test.YtlofoklfggmbiaaDoorQC
namespace Go.Proofs.YtlofoklfggmbiaaDoor
open Go.RowKit

def init8 : H8 := ⟨1779033703, 3144134277, 1013904242, 2773480762, 1359893119, 2600822924, 528734635, 1541459225⟩
theorem init8_ok : init8.ok := by constructor <;> decide
/-- The words behind the first n blocks. -/
def absorbN (s : H8) (xs : List Int) : Nat → H8
 | 0 => s
 | n + 1 => blockF (absorbN s xs n) ((xs.drop (64 * n)).take 64)
theorem absorbN_ok {s : H8} (h : s.ok) (xs : List Int) : ∀ n, (absorbN s xs n).ok
 | 0 => h
 | _ + 1 => blockF_ok _ _
/-- Zeros behind the mark. -/
def zerosOf (L : Nat) : Nat := (119 - L % 64) % 64
/-- How many bits, in eight bytes: the first k of them. -/
def cntB (L k : Nat) : List Int := (List.range k).map fun i => (8 * (L : Int)) / 2 ^ (8 * (7 - i)) % 256
theorem cntB_len (L k : Nat) : (cntB L k).length = k := by simp [cntB]
def laidB (xs : List Int) : List Int := xs ++ [128] ++ List.replicate (zerosOf xs.length) 0 ++ cntB xs.length 8
theorem laidB_len (xs : List Int) : (laidB xs).length = xs.length + 1 + zerosOf xs.length + 8 := by simp [laidB, cntB_len]; omega
theorem laidB_bytes {xs : List Int} (h : ∀ x ∈ xs, 0 ≤ x ∧ x ≤ 255) : ∀ x ∈ laidB xs, 0 ≤ x ∧ x ≤ 255 := by
 intro x hx
 simp only [laidB, List.mem_append, List.mem_cons, List.not_mem_nil, or_false, List.mem_replicate, cntB, List.mem_map] at hx
 rcases hx with ((hx | rfl) | ⟨_, rfl⟩) | ⟨i, _, rfl⟩
 · exact h x hx
 · omega
 · omega
 · omega
/-- The words as bytes, the first k of them. -/
def keyB (s : H8) (k : Nat) : List Int := (List.range k).map fun i => s.at_ (i / 4) / 2 ^ (24 - 8 * (i % 4)) % 256
theorem keyB_succ (s : H8) (k : Nat) : keyB s (k + 1) = keyB s k ++ [s.at_ (k / 4) / 2 ^ (24 - 8 * (k % 4)) % 256] := by simp [keyB, List.range_succ]
theorem keyB_len (s : H8) (k : Nat) : (keyB s k).length = k := by simp [keyB]
/-- The hash of a byte string. -/
def shaOf (xs : List Int) : List Int := keyB (absorbN init8 (laidB xs) ((laidB xs).length / 64)) 32
def keyV (xs : List Int) : Value := .agg ((shaOf xs).map (Value.int .u8)).toArray
end Go.Proofs.YtlofoklfggmbiaaDoor

namespace Go.Proofs.YtlofoklfggmbiaaDoor
open Go.RowKit

def sliceLen : Value → Nat
 | .slice _ n _ => n
 | _ => 0
end Go.Proofs.YtlofoklfggmbiaaDoor
