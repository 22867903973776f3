/-
  NARROWER THAN 'FOR EVERY INPUT', by the rows' own cells (each row's printed sentence says how): JournalWrites: laid · JournalReads: laid · JournalArgs: laid · JournalBack: laid · JournalKeeps: laid.
  DERIVED. THE GIVEN ROWS OF THIS SEAT. 5 by the template 'for every input the law returns true; each argument reads behind the call as it read before'; 0 by the template 'total and deterministic' (their statements: YtdmkpfpbhmchpaaDoorTotals.lean).
  GIVEN WITH THE SEED: the statements are not yours to turn. If you find one false, say at which input.
  Laid BY PROGRAM, IN A SANDBOX (cutbox-rows.mjs): the forced cells as the released guide's own fill.sh prints them over the translation 38ab49c680355251… (all of the seat's roots in one cut). By AI agents, Wed Nov 11 2026. No macro, syntax, notation, axiom, sorry.
-/
import Derived.Test.YtdmkpfpbhmchpaaDoorChecked
import GoSem.Claim
import GoSem.ClaimJoined
import GoSem.ClaimMapViews
import Derived.JoinedTies
import Derived.KernelRfl
namespace Go.Proofs.YtdmkpfpbhmchpaaDoor
/- THE CELL 'sum', in the pinned program and in every row, IS THE sha256 OF THE DUMP (.gsa) THAT YtdmkpfpbhmchpaaDoorProg.lean LOADS. Nothing in Lean hashes anything: it is a label: what it is worth is what the hold of that sum in a sandbox is worth. -/
noncomputable def Tryd.pinned : Pinned := { name := "ytdmkpfpbhmchpaadoor", sum := "38ab49c68035525155f357d13837b30e0fa39fce3f50cdafd3f7c0615bea785e", checked := Tryd.checked }
namespace Rows
def none {H : Type} : Left H := { results := [], args := [] }

/- WHAT THE LISTED PACKAGE-LEVEL VARIABLES READ AS WHEN THE CALL BEGINS. Each datum BY PROGRAM (the guide's laid-datum.mjs) off the statement by which the dump's own 'gosem.cut.vars' lays the variable. In a bare row this is a premise. The card (YtdmkpfpbhmchpaaDoorCards.lean) ties it to the program's text. -/
def laid_kiln_wire_sumSteps {H : Type} : DataW H := .agg [.lit (.int .u32 0), .lit (.int .u32 498536548), .lit (.int .u32 997073096), .lit (.int .u32 651767980), .lit (.int .u32 1994146192), .lit (.int .u32 1802195444), .lit (.int .u32 1303535960), .lit (.int .u32 1342533948), .lit (.int .u32 3988292384), .lit (.int .u32 4027552580), .lit (.int .u32 3604390888), .lit (.int .u32 3412177804), .lit (.int .u32 2607071920), .lit (.int .u32 2262029012), .lit (.int .u32 2685067896), .lit (.int .u32 3183342108)]

/-- 'kilnlaw17.JournalWrites': WHATEVER THE INPUT: true; the input reads as it did. -/
def journalWritesSpec : ChangeSpec := { name := "journalWrites", fn := fun _ => fun
  | [d] => { results := [.lit (.bool true)], args := [d] }
  | _ => none }
def journalWritesRow : OpenClaim := { program := "ytdmkpfpbhmchpaadoor", sum := "38ab49c68035525155f357d13837b30e0fa39fce3f50cdafd3f7c0615bea785e", func := "kiln/kilnlaw17.JournalWrites", spec := "journalWrites", unfollowed := true, recurses := true, named := ["kiln/wire.sumSteps"], apart := false, laid := [("kiln/wire.sumSteps", laid_kiln_wire_sumSteps)] }
def JournalWritesSaid : Prop := journalWritesRow.holds Tryd.pinned (OpenSpec.ofChange journalWritesSpec)

/-- ITS FALSE NEIGHBOUR: 'it returns false'. Refute it at one input. -/
def journalWritesWrong : ChangeSpec := { name := "journalWrites", fn := fun _ => fun
  | [d] => { results := [.lit (.bool false)], args := [d] }
  | _ => none }
def JournalWritesWrongFalsely : Prop := journalWritesRow.holds Tryd.pinned (OpenSpec.ofChange journalWritesWrong)

/-- 'kilnlaw17.JournalReads': WHATEVER THE INPUT: true; the input reads as it did. -/
def journalReadsSpec : ChangeSpec := { name := "journalReads", fn := fun _ => fun
  | [d1, d2] => { results := [.lit (.bool true)], args := [d1, d2] }
  | _ => none }
def journalReadsRow : OpenClaim := { program := "ytdmkpfpbhmchpaadoor", sum := "38ab49c68035525155f357d13837b30e0fa39fce3f50cdafd3f7c0615bea785e", func := "kiln/kilnlaw17.JournalReads", spec := "journalReads", unfollowed := true, recurses := true, named := ["kiln/wire.sumSteps"], apart := false, laid := [("kiln/wire.sumSteps", laid_kiln_wire_sumSteps)] }
def JournalReadsSaid : Prop := journalReadsRow.holds Tryd.pinned (OpenSpec.ofChange journalReadsSpec)

/-- ITS FALSE NEIGHBOUR: 'it returns false'. Refute it at one input. -/
def journalReadsWrong : ChangeSpec := { name := "journalReads", fn := fun _ => fun
  | [d1, d2] => { results := [.lit (.bool false)], args := [d1, d2] }
  | _ => none }
def JournalReadsWrongFalsely : Prop := journalReadsRow.holds Tryd.pinned (OpenSpec.ofChange journalReadsWrong)

/-- 'kilnlaw17.JournalArgs': WHATEVER THE INPUT: true; the input reads as it did. -/
def journalArgsSpec : ChangeSpec := { name := "journalArgs", fn := fun _ => fun
  | [d1, d2, d3] => { results := [.lit (.bool true)], args := [d1, d2, d3] }
  | _ => none }
def journalArgsRow : OpenClaim := { program := "ytdmkpfpbhmchpaadoor", sum := "38ab49c68035525155f357d13837b30e0fa39fce3f50cdafd3f7c0615bea785e", func := "kiln/kilnlaw17.JournalArgs", spec := "journalArgs", unfollowed := true, recurses := true, named := ["kiln/wire.sumSteps"], apart := false, laid := [("kiln/wire.sumSteps", laid_kiln_wire_sumSteps)] }
def JournalArgsSaid : Prop := journalArgsRow.holds Tryd.pinned (OpenSpec.ofChange journalArgsSpec)

/-- ITS FALSE NEIGHBOUR: 'it returns false'. Refute it at one input. -/
def journalArgsWrong : ChangeSpec := { name := "journalArgs", fn := fun _ => fun
  | [d1, d2, d3] => { results := [.lit (.bool false)], args := [d1, d2, d3] }
  | _ => none }
def JournalArgsWrongFalsely : Prop := journalArgsRow.holds Tryd.pinned (OpenSpec.ofChange journalArgsWrong)

/-- 'kilnlaw17.JournalBack': WHATEVER THE INPUT: true; the input reads as it did. -/
def journalBackSpec : ChangeSpec := { name := "journalBack", fn := fun _ => fun
  | [d1, d2, d3] => { results := [.lit (.bool true)], args := [d1, d2, d3] }
  | _ => none }
def journalBackRow : OpenClaim := { program := "ytdmkpfpbhmchpaadoor", sum := "38ab49c68035525155f357d13837b30e0fa39fce3f50cdafd3f7c0615bea785e", func := "kiln/kilnlaw17.JournalBack", spec := "journalBack", unfollowed := true, recurses := true, named := ["kiln/wire.sumSteps"], apart := false, laid := [("kiln/wire.sumSteps", laid_kiln_wire_sumSteps)] }
def JournalBackSaid : Prop := journalBackRow.holds Tryd.pinned (OpenSpec.ofChange journalBackSpec)

/-- ITS FALSE NEIGHBOUR: 'it returns false'. Refute it at one input. -/
def journalBackWrong : ChangeSpec := { name := "journalBack", fn := fun _ => fun
  | [d1, d2, d3] => { results := [.lit (.bool false)], args := [d1, d2, d3] }
  | _ => none }
def JournalBackWrongFalsely : Prop := journalBackRow.holds Tryd.pinned (OpenSpec.ofChange journalBackWrong)

/-- 'kilnlaw17.JournalKeeps': WHATEVER THE INPUT: true; the input reads as it did. -/
def journalKeepsSpec : ChangeSpec := { name := "journalKeeps", fn := fun _ => fun
  | [d1, d2] => { results := [.lit (.bool true)], args := [d1, d2] }
  | _ => none }
def journalKeepsRow : OpenClaim := { program := "ytdmkpfpbhmchpaadoor", sum := "38ab49c68035525155f357d13837b30e0fa39fce3f50cdafd3f7c0615bea785e", func := "kiln/kilnlaw17.JournalKeeps", spec := "journalKeeps", unfollowed := true, recurses := true, named := ["kiln/wire.sumSteps"], apart := false, laid := [("kiln/wire.sumSteps", laid_kiln_wire_sumSteps)] }
def JournalKeepsSaid : Prop := journalKeepsRow.holds Tryd.pinned (OpenSpec.ofChange journalKeepsSpec)

/-- ITS FALSE NEIGHBOUR: 'it returns false'. Refute it at one input. -/
def journalKeepsWrong : ChangeSpec := { name := "journalKeeps", fn := fun _ => fun
  | [d1, d2] => { results := [.lit (.bool false)], args := [d1, d2] }
  | _ => none }
def JournalKeepsWrongFalsely : Prop := journalKeepsRow.holds Tryd.pinned (OpenSpec.ofChange journalKeepsWrong)

/- THE SECOND FORM. 'bulk': how many values and letters a reading holds, each counted each time it is reached (what is shared counts as often as it is met; a slice's spare places count too). A statement '..UptoSaid' is the law's where the arguments, and the package variables that the reading takes, are together of bulk at most 1048576: NARROWER than '..Said'. Prove '..Said' where nothing that the law and all that it calls make is longer than what came in: it says more and counts as full. Else prove '..UptoSaid'. A law counts once. -/
mutual
def uptoBulk {H : Type} : DataW H → Nat
  | .lit (.string bytes) => bytes.length + 1
  | .lit _ => 1
  | .nil => 1
  | .ptr d => uptoBulk d + 1
  | .slice elems spare => uptoBulkAll elems + uptoBulkAll spare + 1
  | .agg parts => uptoBulkAll parts + 1
  | .iface _ d => uptoBulk d + 1
  | .map entries => uptoBulkEntries entries + 1
  | .held _ => 1
def uptoBulkAll {H : Type} : List (DataW H) → Nat
  | [] => 0
  | d :: r => uptoBulk d + uptoBulkAll r
def uptoBulkEntries {H : Type} : List (Lit × DataW H) → Nat
  | [] => 0
  | x :: r => uptoBulkEntry x + uptoBulkEntries r
def uptoBulkEntry {H : Type} : Lit × DataW H → Nat
  | (.string bytes, d) => bytes.length + uptoBulk d + 1
  | (_, d) => uptoBulk d + 1
 end
def uptoSmall : (H : Type) → List (DataW H) → Bool := fun _ ds => decide (uptoBulkAll ds ≤ 1048576)
def OpenSpec.upto (s : _root_.Go.ChangeSpec) : _root_.Go.OpenSpec := { _root_.Go.OpenSpec.ofChange s with cond := some uptoSmall }

/-- 'kilnlaw17.JournalWrites', WHERE WHAT IT READS IS OF BULK AT MOST 1048576: true; the input reads as it did. -/
def journalWritesUptoRow : OpenClaim := { program := "ytdmkpfpbhmchpaadoor", sum := "38ab49c68035525155f357d13837b30e0fa39fce3f50cdafd3f7c0615bea785e", func := "kiln/kilnlaw17.JournalWrites", spec := "journalWrites", unfollowed := true, recurses := true, named := ["kiln/wire.sumSteps"], apart := false, laid := [("kiln/wire.sumSteps", laid_kiln_wire_sumSteps)], narrowed := true }
def JournalWritesUptoSaid : Prop := journalWritesUptoRow.holds Tryd.pinned (OpenSpec.upto journalWritesSpec)

/-- 'kilnlaw17.JournalReads', WHERE WHAT IT READS IS OF BULK AT MOST 1048576: true; the input reads as it did. -/
def journalReadsUptoRow : OpenClaim := { program := "ytdmkpfpbhmchpaadoor", sum := "38ab49c68035525155f357d13837b30e0fa39fce3f50cdafd3f7c0615bea785e", func := "kiln/kilnlaw17.JournalReads", spec := "journalReads", unfollowed := true, recurses := true, named := ["kiln/wire.sumSteps"], apart := false, laid := [("kiln/wire.sumSteps", laid_kiln_wire_sumSteps)], narrowed := true }
def JournalReadsUptoSaid : Prop := journalReadsUptoRow.holds Tryd.pinned (OpenSpec.upto journalReadsSpec)

/-- 'kilnlaw17.JournalArgs', WHERE WHAT IT READS IS OF BULK AT MOST 1048576: true; the input reads as it did. -/
def journalArgsUptoRow : OpenClaim := { program := "ytdmkpfpbhmchpaadoor", sum := "38ab49c68035525155f357d13837b30e0fa39fce3f50cdafd3f7c0615bea785e", func := "kiln/kilnlaw17.JournalArgs", spec := "journalArgs", unfollowed := true, recurses := true, named := ["kiln/wire.sumSteps"], apart := false, laid := [("kiln/wire.sumSteps", laid_kiln_wire_sumSteps)], narrowed := true }
def JournalArgsUptoSaid : Prop := journalArgsUptoRow.holds Tryd.pinned (OpenSpec.upto journalArgsSpec)

/-- 'kilnlaw17.JournalBack', WHERE WHAT IT READS IS OF BULK AT MOST 1048576: true; the input reads as it did. -/
def journalBackUptoRow : OpenClaim := { program := "ytdmkpfpbhmchpaadoor", sum := "38ab49c68035525155f357d13837b30e0fa39fce3f50cdafd3f7c0615bea785e", func := "kiln/kilnlaw17.JournalBack", spec := "journalBack", unfollowed := true, recurses := true, named := ["kiln/wire.sumSteps"], apart := false, laid := [("kiln/wire.sumSteps", laid_kiln_wire_sumSteps)], narrowed := true }
def JournalBackUptoSaid : Prop := journalBackUptoRow.holds Tryd.pinned (OpenSpec.upto journalBackSpec)

/-- 'kilnlaw17.JournalKeeps', WHERE WHAT IT READS IS OF BULK AT MOST 1048576: true; the input reads as it did. -/
def journalKeepsUptoRow : OpenClaim := { program := "ytdmkpfpbhmchpaadoor", sum := "38ab49c68035525155f357d13837b30e0fa39fce3f50cdafd3f7c0615bea785e", func := "kiln/kilnlaw17.JournalKeeps", spec := "journalKeeps", unfollowed := true, recurses := true, named := ["kiln/wire.sumSteps"], apart := false, laid := [("kiln/wire.sumSteps", laid_kiln_wire_sumSteps)], narrowed := true }
def JournalKeepsUptoSaid : Prop := journalKeepsUptoRow.holds Tryd.pinned (OpenSpec.upto journalKeepsSpec)

end Rows
end Go.Proofs.YtdmkpfpbhmchpaaDoor
