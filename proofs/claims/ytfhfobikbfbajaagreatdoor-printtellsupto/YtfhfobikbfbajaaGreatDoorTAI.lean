/- Manifests in plain terms: tasks that are read can be written; and so both ways. Manifests in plain terms: the text of tasks. Manifests in plain terms: the text of tasks, byte by byte. Numbers as words, against the library's own reading and writing of decimal numerals. Nothing of a program. -/
import Derived.Test.YtfhfobikbfbajaaGreatDoorTAH
import Derived.Test.YtfhfobikbfbajaaGreatDoorTAE
import Derived.Lib.AtoiTie
import Derived.Lib.ItoaNum
import Derived.Lib.Strings
namespace Go.Proofs.YtfhfobikbfbajaaGreatDoor

end Go.Proofs.YtfhfobikbfbajaaGreatDoor

namespace Go.Proofs.YtfhfobikbfbajaaGreatDoor

end Go.Proofs.YtfhfobikbfbajaaGreatDoor

namespace Go.Proofs.YtfhfobikbfbajaaGreatDoor

def byL (s : ByteArray) : List UInt8 := s.data.toList
def pjB (mk : UInt8) : List (List UInt8) → List UInt8
  | [] => []
  | p :: ps => mk :: (p ++ pjB 44 ps)
def tmPB (k : Int) (x : ByteArray) (n m : Int) (az : List (List UInt8)) : List (List UInt8) := (if hasT k = true then [byL x] else []) ++ (az ++ (if k = 7 then [byL (decW n), byL (decW m)] else []))
/-- A term's bytes. -/
def tmB : Tm → List UInt8
  | ⟨k, x, n, m, az⟩ => if k = 1 then quoteL (byL x) else byL (wds.getD k.toNat noText) ++ (pjB 40 (tmPB k x n m (az.map tmB)) ++ [41])
theorem tmB_eq (t : Tm) : tmB t = if t.kind = 1 then quoteL (byL t.text) else byL (wds.getD t.kind.toNat noText) ++ (pjB 40 (tmPB t.kind t.text t.n t.m (t.args.map tmB)) ++ [41]) := by
  cases t; rw [tmB]
def outBy (o : ByteArray × Tm) : List UInt8 := byL wOut ++ (32 :: (byL o.1 ++ ([32, 61, 32] ++ (tmB o.2 ++ [10]))))
def insBy (l : List ByteArray) : List UInt8 := if l = [] then [] else byL wIn ++ (l.flatMap (fun s => 32 :: byL s) ++ [10])
def skBy (t : Tsk) : List UInt8 := byL wTask ++ (32 :: (byL t.name ++ (32 :: (byL (decW t.budget) ++ (10 :: (insBy t.ins ++ (t.outs.flatMap outBy ++ (byL wEnd ++ [10]))))))))
end Go.Proofs.YtfhfobikbfbajaaGreatDoor

namespace Go.Proofs.YtfhfobikbfbajaaGreatDoor

theorem digits_eq (u : Nat) : Lib.decDigits u = if u < 10 then [UInt8.ofNat (48 + u)] else Lib.decDigits (u / 10) ++ [UInt8.ofNat (48 + u % 10)] := by
  conv => lhs; rw [Lib.decDigits]
  split <;> rfl
end Go.Proofs.YtfhfobikbfbajaaGreatDoor
