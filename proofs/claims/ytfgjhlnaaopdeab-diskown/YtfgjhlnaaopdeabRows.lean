/-
  No cell of these rows narrows 'for every input' (looked for: loops, veiled, ifaces, maps, wideKeys, modest, calm, conditions, laid).
  DERIVED. THE GIVEN ROWS OF THIS SEAT. 6 by the template 'for every input the law returns true; each argument reads behind the call as it read before'; 0 by the template 'total and deterministic' (their statements: YtfgjhlnaaopdeabTotals.lean).
  GIVEN WITH THE SEED: the statements are not yours to turn. If you find one false, say at which input.
  Laid BY PROGRAM, IN A SANDBOX (cutbox-rows.mjs): the forced cells as the released guide's own fill.sh prints them over the translation bb7ce390014fc44f… (all of the seat's roots in one cut). By AI agents, Wed Nov 11 2026. No macro, syntax, notation, axiom, sorry.
-/
import Derived.Test.YtfgjhlnaaopdeabChecked
import GoSem.Claim
import GoSem.ClaimJoined
import GoSem.ClaimMapViews
import Derived.JoinedTies
import Derived.KernelRfl
namespace Go.Proofs.Ytfgjhlnaaopdeab
/- THE CELL 'sum', in the pinned program and in every row, IS THE sha256 OF THE DUMP (.gsa) THAT YtfgjhlnaaopdeabProg.lean LOADS. Nothing in Lean hashes anything: it is a label: what it is worth is what the hold of that sum in a sandbox is worth. -/
noncomputable def Try.pinned : Pinned := { name := "ytfgjhlnaaopdeab", sum := "bb7ce390014fc44f8fc0ef378c20a78ca83ac692c344b28a9c8523fa977cac12", checked := Try.checked }
namespace Rows
def none {H : Type} : Left H := { results := [], args := [] }

/-- 'kilnlaw3.DiskAgainLoads': WHATEVER THE INPUT: true; the input reads as it did. -/
def diskAgainLoadsSpec : ChangeSpec := { name := "diskAgainLoads", fn := fun _ => fun
  | [d1, d2, d3] => { results := [.lit (.bool true)], args := [d1, d2, d3] }
  | _ => none }
def diskAgainLoadsRow : OpenClaim := { program := "ytfgjhlnaaopdeab", sum := "bb7ce390014fc44f8fc0ef378c20a78ca83ac692c344b28a9c8523fa977cac12", func := "kiln/kilnlaw3.DiskAgainLoads", spec := "diskAgainLoads", unfollowed := true, recurses := true, apart := false }
def DiskAgainLoadsSaid : Prop := diskAgainLoadsRow.holds Try.pinned (OpenSpec.ofChange diskAgainLoadsSpec)

/-- ITS FALSE NEIGHBOUR: 'it returns false'. Refute it at one input. -/
def diskAgainLoadsWrong : ChangeSpec := { name := "diskAgainLoads", fn := fun _ => fun
  | [d1, d2, d3] => { results := [.lit (.bool false)], args := [d1, d2, d3] }
  | _ => none }
def DiskAgainLoadsWrongFalsely : Prop := diskAgainLoadsRow.holds Try.pinned (OpenSpec.ofChange diskAgainLoadsWrong)

/-- 'kilnlaw3.DiskTurns': WHATEVER THE INPUT: true; the input reads as it did. -/
def diskTurnsSpec : ChangeSpec := { name := "diskTurns", fn := fun _ => fun
  | [d1, d2, d3, d4, d5, d6] => { results := [.lit (.bool true)], args := [d1, d2, d3, d4, d5, d6] }
  | _ => none }
def diskTurnsRow : OpenClaim := { program := "ytfgjhlnaaopdeab", sum := "bb7ce390014fc44f8fc0ef378c20a78ca83ac692c344b28a9c8523fa977cac12", func := "kiln/kilnlaw3.DiskTurns", spec := "diskTurns", unfollowed := true, recurses := true, apart := false }
def DiskTurnsSaid : Prop := diskTurnsRow.holds Try.pinned (OpenSpec.ofChange diskTurnsSpec)

/-- ITS FALSE NEIGHBOUR: 'it returns false'. Refute it at one input. -/
def diskTurnsWrong : ChangeSpec := { name := "diskTurns", fn := fun _ => fun
  | [d1, d2, d3, d4, d5, d6] => { results := [.lit (.bool false)], args := [d1, d2, d3, d4, d5, d6] }
  | _ => none }
def DiskTurnsWrongFalsely : Prop := diskTurnsRow.holds Try.pinned (OpenSpec.ofChange diskTurnsWrong)

/-- 'kilnlaw3.DiskOwn': WHATEVER THE INPUT: true; the input reads as it did. -/
def diskOwnSpec : ChangeSpec := { name := "diskOwn", fn := fun _ => fun
  | [d1, d2, d3] => { results := [.lit (.bool true)], args := [d1, d2, d3] }
  | _ => none }
def diskOwnRow : OpenClaim := { program := "ytfgjhlnaaopdeab", sum := "bb7ce390014fc44f8fc0ef378c20a78ca83ac692c344b28a9c8523fa977cac12", func := "kiln/kilnlaw3.DiskOwn", spec := "diskOwn", unfollowed := true, recurses := true, apart := false }
def DiskOwnSaid : Prop := diskOwnRow.holds Try.pinned (OpenSpec.ofChange diskOwnSpec)

/-- ITS FALSE NEIGHBOUR: 'it returns false'. Refute it at one input. -/
def diskOwnWrong : ChangeSpec := { name := "diskOwn", fn := fun _ => fun
  | [d1, d2, d3] => { results := [.lit (.bool false)], args := [d1, d2, d3] }
  | _ => none }
def DiskOwnWrongFalsely : Prop := diskOwnRow.holds Try.pinned (OpenSpec.ofChange diskOwnWrong)

/-- 'kilnlaw3.DiskLent': WHATEVER THE INPUT: true; the input reads as it did. -/
def diskLentSpec : ChangeSpec := { name := "diskLent", fn := fun _ => fun
  | [d1, d2, d3] => { results := [.lit (.bool true)], args := [d1, d2, d3] }
  | _ => none }
def diskLentRow : OpenClaim := { program := "ytfgjhlnaaopdeab", sum := "bb7ce390014fc44f8fc0ef378c20a78ca83ac692c344b28a9c8523fa977cac12", func := "kiln/kilnlaw3.DiskLent", spec := "diskLent", unfollowed := true, recurses := true, apart := false }
def DiskLentSaid : Prop := diskLentRow.holds Try.pinned (OpenSpec.ofChange diskLentSpec)

/-- ITS FALSE NEIGHBOUR: 'it returns false'. Refute it at one input. -/
def diskLentWrong : ChangeSpec := { name := "diskLent", fn := fun _ => fun
  | [d1, d2, d3] => { results := [.lit (.bool false)], args := [d1, d2, d3] }
  | _ => none }
def DiskLentWrongFalsely : Prop := diskLentRow.holds Try.pinned (OpenSpec.ofChange diskLentWrong)

/-- 'kilnlaw3.DiskApart': WHATEVER THE INPUT: true; the input reads as it did. -/
def diskApartSpec : ChangeSpec := { name := "diskApart", fn := fun _ => fun
  | [d1, d2] => { results := [.lit (.bool true)], args := [d1, d2] }
  | _ => none }
def diskApartRow : OpenClaim := { program := "ytfgjhlnaaopdeab", sum := "bb7ce390014fc44f8fc0ef378c20a78ca83ac692c344b28a9c8523fa977cac12", func := "kiln/kilnlaw3.DiskApart", spec := "diskApart", unfollowed := true, recurses := true, apart := false }
def DiskApartSaid : Prop := diskApartRow.holds Try.pinned (OpenSpec.ofChange diskApartSpec)

/-- ITS FALSE NEIGHBOUR: 'it returns false'. Refute it at one input. -/
def diskApartWrong : ChangeSpec := { name := "diskApart", fn := fun _ => fun
  | [d1, d2] => { results := [.lit (.bool false)], args := [d1, d2] }
  | _ => none }
def DiskApartWrongFalsely : Prop := diskApartRow.holds Try.pinned (OpenSpec.ofChange diskApartWrong)

/-- 'kilnlaw3.DiskGreat': WHATEVER THE INPUT: true; the input reads as it did. -/
def diskGreatSpec : ChangeSpec := { name := "diskGreat", fn := fun _ => fun
  | [d1, d2, d3, d4] => { results := [.lit (.bool true)], args := [d1, d2, d3, d4] }
  | _ => none }
def diskGreatRow : OpenClaim := { program := "ytfgjhlnaaopdeab", sum := "bb7ce390014fc44f8fc0ef378c20a78ca83ac692c344b28a9c8523fa977cac12", func := "kiln/kilnlaw3.DiskGreat", spec := "diskGreat", unfollowed := true, recurses := true, apart := false }
def DiskGreatSaid : Prop := diskGreatRow.holds Try.pinned (OpenSpec.ofChange diskGreatSpec)

/-- ITS FALSE NEIGHBOUR: 'it returns false'. Refute it at one input. -/
def diskGreatWrong : ChangeSpec := { name := "diskGreat", fn := fun _ => fun
  | [d1, d2, d3, d4] => { results := [.lit (.bool false)], args := [d1, d2, d3, d4] }
  | _ => none }
def DiskGreatWrongFalsely : Prop := diskGreatRow.holds Try.pinned (OpenSpec.ofChange diskGreatWrong)

/- THE SECOND FORM. 'bulk': how many values and letters a reading holds, each counted each time it is reached (what is shared counts as often as it is met; a slice's spare places count too). A statement '..UptoSaid' is the law's where the arguments, and the package variables that the reading takes, are together of bulk at most 1048576: NARROWER than '..Said'. Prove '..Said' where nothing that the law and all that it calls make is longer than what came in: it says more and counts as full. Else prove '..UptoSaid'. A law counts once. -/
mutual
def uptoBulk {H : Type} : DataW H → Nat
  | .lit (.string bytes) => bytes.length + 1
  | .lit _ => 1
  | .nil => 1
  | .ptr d => uptoBulk d + 1
  | .slice elems spare => uptoBulkAll elems + uptoBulkAll spare + 1
  | .agg parts => uptoBulkAll parts + 1
  | .iface _ d => uptoBulk d + 1
  | .map entries => uptoBulkEntries entries + 1
  | .held _ => 1
def uptoBulkAll {H : Type} : List (DataW H) → Nat
  | [] => 0
  | d :: r => uptoBulk d + uptoBulkAll r
def uptoBulkEntries {H : Type} : List (Lit × DataW H) → Nat
  | [] => 0
  | x :: r => uptoBulkEntry x + uptoBulkEntries r
def uptoBulkEntry {H : Type} : Lit × DataW H → Nat
  | (.string bytes, d) => bytes.length + uptoBulk d + 1
  | (_, d) => uptoBulk d + 1
 end
def uptoSmall : (H : Type) → List (DataW H) → Bool := fun _ ds => decide (uptoBulkAll ds ≤ 1048576)
def OpenSpec.upto (s : _root_.Go.ChangeSpec) : _root_.Go.OpenSpec := { _root_.Go.OpenSpec.ofChange s with cond := some uptoSmall }

/-- 'kilnlaw3.DiskAgainLoads', WHERE WHAT IT READS IS OF BULK AT MOST 1048576: true; the input reads as it did. -/
def diskAgainLoadsUptoRow : OpenClaim := { program := "ytfgjhlnaaopdeab", sum := "bb7ce390014fc44f8fc0ef378c20a78ca83ac692c344b28a9c8523fa977cac12", func := "kiln/kilnlaw3.DiskAgainLoads", spec := "diskAgainLoads", unfollowed := true, recurses := true, apart := false, narrowed := true }
def DiskAgainLoadsUptoSaid : Prop := diskAgainLoadsUptoRow.holds Try.pinned (OpenSpec.upto diskAgainLoadsSpec)

/-- 'kilnlaw3.DiskTurns', WHERE WHAT IT READS IS OF BULK AT MOST 1048576: true; the input reads as it did. -/
def diskTurnsUptoRow : OpenClaim := { program := "ytfgjhlnaaopdeab", sum := "bb7ce390014fc44f8fc0ef378c20a78ca83ac692c344b28a9c8523fa977cac12", func := "kiln/kilnlaw3.DiskTurns", spec := "diskTurns", unfollowed := true, recurses := true, apart := false, narrowed := true }
def DiskTurnsUptoSaid : Prop := diskTurnsUptoRow.holds Try.pinned (OpenSpec.upto diskTurnsSpec)

/-- 'kilnlaw3.DiskOwn', WHERE WHAT IT READS IS OF BULK AT MOST 1048576: true; the input reads as it did. -/
def diskOwnUptoRow : OpenClaim := { program := "ytfgjhlnaaopdeab", sum := "bb7ce390014fc44f8fc0ef378c20a78ca83ac692c344b28a9c8523fa977cac12", func := "kiln/kilnlaw3.DiskOwn", spec := "diskOwn", unfollowed := true, recurses := true, apart := false, narrowed := true }
def DiskOwnUptoSaid : Prop := diskOwnUptoRow.holds Try.pinned (OpenSpec.upto diskOwnSpec)

/-- 'kilnlaw3.DiskLent', WHERE WHAT IT READS IS OF BULK AT MOST 1048576: true; the input reads as it did. -/
def diskLentUptoRow : OpenClaim := { program := "ytfgjhlnaaopdeab", sum := "bb7ce390014fc44f8fc0ef378c20a78ca83ac692c344b28a9c8523fa977cac12", func := "kiln/kilnlaw3.DiskLent", spec := "diskLent", unfollowed := true, recurses := true, apart := false, narrowed := true }
def DiskLentUptoSaid : Prop := diskLentUptoRow.holds Try.pinned (OpenSpec.upto diskLentSpec)

/-- 'kilnlaw3.DiskApart', WHERE WHAT IT READS IS OF BULK AT MOST 1048576: true; the input reads as it did. -/
def diskApartUptoRow : OpenClaim := { program := "ytfgjhlnaaopdeab", sum := "bb7ce390014fc44f8fc0ef378c20a78ca83ac692c344b28a9c8523fa977cac12", func := "kiln/kilnlaw3.DiskApart", spec := "diskApart", unfollowed := true, recurses := true, apart := false, narrowed := true }
def DiskApartUptoSaid : Prop := diskApartUptoRow.holds Try.pinned (OpenSpec.upto diskApartSpec)

/-- 'kilnlaw3.DiskGreat', WHERE WHAT IT READS IS OF BULK AT MOST 1048576: true; the input reads as it did. -/
def diskGreatUptoRow : OpenClaim := { program := "ytfgjhlnaaopdeab", sum := "bb7ce390014fc44f8fc0ef378c20a78ca83ac692c344b28a9c8523fa977cac12", func := "kiln/kilnlaw3.DiskGreat", spec := "diskGreat", unfollowed := true, recurses := true, apart := false, narrowed := true }
def DiskGreatUptoSaid : Prop := diskGreatUptoRow.holds Try.pinned (OpenSpec.upto diskGreatSpec)

end Rows
end Go.Proofs.Ytfgjhlnaaopdeab
