/- Manifests in plain terms: what is written is read. Manifests in plain terms: tasks that are written are read. Manifests in plain terms: what is read can be written. -/
import Derived.Test.YtfhfobikbfbajaaGreatDoorTAE
namespace Go.Proofs.YtfhfobikbfbajaaGreatDoor

abbrev Kx : Type := Int × ByteArray
def kt (t : Tok) : Kx := (t.kind, t.text)
/-- The digits of a number. -/
def digs : Nat → List UInt8
  | n => if n < 10 then [UInt8.ofNat (48 + n)] else digs (n / 10) ++ [UInt8.ofNat (48 + n % 10)]
def decW (n : Int) : ByteArray := bs (digs n.toNat)
def hasT (k : Int) : Bool := decide (k = 2 ∨ k = 3 ∨ k = 13)
section
variable (nm pt : ByteArray → Bool)
/-- A term that can be, with so many levels left. -/
def txF (k : Int) (x : ByteArray) : Bool := if k = 1 then true else if k = 2 then pt x else if k = 3 ∨ k = 13 then nm x else decide (x = noText)
def cntF (k : Int) (n : Nat) : Bool := if k = 1 then decide (n = 0) else decide (n = argN k.toNat ∨ (k = 4 ∧ argN k.toNat < n))
def nuF (k n m : Int) : Bool := if k = 7 then decide (0 ≤ n ∧ n ≤ 2147483647 ∧ 0 ≤ m ∧ m ≤ 2147483647) else decide (n = 0 ∧ m = 0)
def fitT : Nat → Tm → Bool
  | 0, _ => false
  | d + 1, t => decide (1 ≤ t.kind ∧ t.kind ≤ 15) && (txF nm pt t.kind t.text && (cntF t.kind t.args.length && (nuF t.kind t.n t.m && t.args.all (fitT d))))
end
theorem digs_eq (n : Nat) : digs n = if n < 10 then [UInt8.ofNat (48 + n)] else digs (n / 10) ++ [UInt8.ofNat (48 + n % 10)] := by rw [digs]
theorem dig_byte {n : Nat} (h : n < 10) : (UInt8.ofNat (48 + n)).toNat = 48 + n := by
  rw [UInt8.toNat_ofNat']
  omega
theorem digF_app : ∀ (a b : List UInt8) (x : Nat), digF (a ++ b) x = (digF a x).bind (digF b)
  | [], _, _ => rfl
  | c :: a, b, x => by
    show (if _ then digF (a ++ b) _ else none) = _
    rw [digF_app a b]
    show _ = Option.bind (if _ then digF a _ else none) _
    split <;> rfl
theorem digs_read : ∀ (k n : Nat), n < 10 ^ (k + 1) → digF (digs n) 0 = some n ∧ 1 ≤ (digs n).length ∧ (digs n).length ≤ k + 1 ∧ ((digs n).headD 0 = 48 → n = 0)
  | 0, n, h => by
    have h9 : n < 10 := by omega
    rw [digs_eq, if_pos h9]
    refine ⟨?_, Nat.le_refl _, Nat.le_refl _, fun e => ?_⟩
    · show (if 48 ≤ (UInt8.ofNat (48 + n)).toNat ∧ _ then _ else _) = _
      rw [dig_byte h9, if_pos (by omega)]
      show some (10 * 0 + (48 + n - 48)) = some n
      congr 1
      omega
    · have e2 : (UInt8.ofNat (48 + n)).toNat = 48 := by rw [show UInt8.ofNat (48 + n) = 48 from e]; rfl
      rw [dig_byte h9] at e2
      omega
  | k + 1, n, h => by
    by_cases h9 : n < 10
    · obtain ⟨q1, q2, q3, q4⟩ := digs_read 0 n (by omega)
      exact ⟨q1, q2, by omega, q4⟩
    · obtain ⟨q1, q2, q3, q4⟩ := digs_read k (n / 10) (by rw [Nat.pow_succ] at h; omega)
      have hm : n % 10 < 10 := by omega
      rw [digs_eq, if_neg h9]
      refine ⟨?_, by simp, by simp; omega, fun e => ?_⟩
      · rw [digF_app, q1]
        show (if 48 ≤ (UInt8.ofNat (48 + n % 10)).toNat ∧ _ then _ else _) = _
        rw [dig_byte hm, if_pos (by omega)]
        show some (10 * (n / 10) + (48 + n % 10 - 48)) = some n
        congr 1
        omega
      · match hd : digs (n / 10), q2 with
        | c :: l, _ =>
          rw [hd] at e q4
          have : n / 10 = 0 := q4 e
          omega
end Go.Proofs.YtfhfobikbfbajaaGreatDoor

namespace Go.Proofs.YtfhfobikbfbajaaGreatDoor

section
variable (nm pt : ByteArray → Bool) (cl : List ByteArray → ByteArray → Bool)
/-- Inputs, outputs, a task, tasks that can be. -/
def insO : List ByteArray → List ByteArray → Bool
  | _, [] => true
  | acc, p :: l => pt p && (!hasB acc p && insO (acc ++ [p]) l)
def outsO : List ByteArray → List (ByteArray × Tm) → Bool
  | _, [] => true
  | md, o :: l => pt o.1 && (!cl md o.1 && (fitT nm pt 64 o.2 && outsO (md ++ [o.1]) l))
def tskO (md : List ByteArray) (t : Tsk) : Bool := nm t.name && (decide (1 ≤ t.budget ∧ t.budget ≤ 1048576 ∧ t.ins.length ≤ 64 ∧ 1 ≤ t.outs.length ∧ t.outs.length ≤ 8) && (insO pt [] t.ins && outsO nm pt cl md t.outs))
def outsOf (t : Tsk) : List ByteArray := t.outs.map (·.1)
def tsO : List ByteArray → List ByteArray → List Tsk → Bool
  | _, _, [] => true
  | nms, md, t :: l => !hasB nms t.name && (tskO nm pt cl md t && tsO (nms ++ [t.name]) (md ++ outsOf t) l)
def manO (ts : List Tsk) : Bool := decide (ts.length ≤ 256) && tsO nm pt cl [] [] ts
end
end Go.Proofs.YtfhfobikbfbajaaGreatDoor

namespace Go.Proofs.YtfhfobikbfbajaaGreatDoor

end Go.Proofs.YtfhfobikbfbajaaGreatDoor
