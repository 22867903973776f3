/-
  NARROWER THAN 'FOR EVERY INPUT', by the rows' own cells (each row's printed sentence says how): JournalBit: laid · JournalWide: laid · JournalLast: laid · JournalAgain: laid · JournalLent: laid.
  DERIVED. THE GIVEN ROWS OF THIS SEAT. 5 by the template 'for every input the law returns true; each argument reads behind the call as it read before'; 0 by the template 'total and deterministic' (their statements: YthhjlopgpmaokabDoorTotals.lean).
  GIVEN WITH THE SEED: the statements are not yours to turn. If you find one false, say at which input.
  Laid BY PROGRAM, IN A SANDBOX (cutbox-rows.mjs): the forced cells as the released guide's own fill.sh prints them over the translation cb7798ea818f9cbe… (all of the seat's roots in one cut). By AI agents, Wed Nov 11 2026. No macro, syntax, notation, axiom, sorry.
-/
import Derived.Test.YthhjlopgpmaokabDoorChecked
import GoSem.Claim
import GoSem.ClaimJoined
import GoSem.ClaimMapViews
import Derived.JoinedTies
import Derived.KernelRfl
namespace Go.Proofs.YthhjlopgpmaokabDoor
/- THE CELL 'sum', in the pinned program and in every row, IS THE sha256 OF THE DUMP (.gsa) THAT YthhjlopgpmaokabDoorProg.lean LOADS. Nothing in Lean hashes anything: it is a label: what it is worth is what the hold of that sum in a sandbox is worth. -/
noncomputable def Tryd.pinned : Pinned := { name := "ythhjlopgpmaokabdoor", sum := "cb7798ea818f9cbeee23cccfe8dda6db8eeee5881e5edf308fa01ea4f289a591", checked := Tryd.checked }
namespace Rows
def none {H : Type} : Left H := { results := [], args := [] }

/- WHAT THE LISTED PACKAGE-LEVEL VARIABLES READ AS WHEN THE CALL BEGINS. Each datum BY PROGRAM (the guide's laid-datum.mjs) off the statement by which the dump's own 'gosem.cut.vars' lays the variable. In a bare row this is a premise. The card (YthhjlopgpmaokabDoorCards.lean) ties it to the program's text. -/
def laid_kiln_wire_sumSteps {H : Type} : DataW H := .agg [.lit (.int .u32 0), .lit (.int .u32 498536548), .lit (.int .u32 997073096), .lit (.int .u32 651767980), .lit (.int .u32 1994146192), .lit (.int .u32 1802195444), .lit (.int .u32 1303535960), .lit (.int .u32 1342533948), .lit (.int .u32 3988292384), .lit (.int .u32 4027552580), .lit (.int .u32 3604390888), .lit (.int .u32 3412177804), .lit (.int .u32 2607071920), .lit (.int .u32 2262029012), .lit (.int .u32 2685067896), .lit (.int .u32 3183342108)]

/-- 'kilnlaw17.JournalBit': WHATEVER THE INPUT: true; the input reads as it did. -/
def journalBitSpec : ChangeSpec := { name := "journalBit", fn := fun _ => fun
  | [d1, d2, d3, d4, d5] => { results := [.lit (.bool true)], args := [d1, d2, d3, d4, d5] }
  | _ => none }
def journalBitRow : OpenClaim := { program := "ythhjlopgpmaokabdoor", sum := "cb7798ea818f9cbeee23cccfe8dda6db8eeee5881e5edf308fa01ea4f289a591", func := "kiln/kilnlaw17.JournalBit", spec := "journalBit", unfollowed := true, recurses := true, named := ["kiln/wire.sumSteps"], apart := false, laid := [("kiln/wire.sumSteps", laid_kiln_wire_sumSteps)] }
def JournalBitSaid : Prop := journalBitRow.holds Tryd.pinned (OpenSpec.ofChange journalBitSpec)

/-- ITS FALSE NEIGHBOUR: 'it returns false'. Refute it at one input. -/
def journalBitWrong : ChangeSpec := { name := "journalBit", fn := fun _ => fun
  | [d1, d2, d3, d4, d5] => { results := [.lit (.bool false)], args := [d1, d2, d3, d4, d5] }
  | _ => none }
def JournalBitWrongFalsely : Prop := journalBitRow.holds Tryd.pinned (OpenSpec.ofChange journalBitWrong)

/-- 'kilnlaw17.JournalWide': WHATEVER THE INPUT: true; the input reads as it did. -/
def journalWideSpec : ChangeSpec := { name := "journalWide", fn := fun _ => fun
  | [d1, d2, d3, d4] => { results := [.lit (.bool true)], args := [d1, d2, d3, d4] }
  | _ => none }
def journalWideRow : OpenClaim := { program := "ythhjlopgpmaokabdoor", sum := "cb7798ea818f9cbeee23cccfe8dda6db8eeee5881e5edf308fa01ea4f289a591", func := "kiln/kilnlaw17.JournalWide", spec := "journalWide", unfollowed := true, recurses := true, named := ["kiln/wire.sumSteps"], apart := false, laid := [("kiln/wire.sumSteps", laid_kiln_wire_sumSteps)] }
def JournalWideSaid : Prop := journalWideRow.holds Tryd.pinned (OpenSpec.ofChange journalWideSpec)

/-- ITS FALSE NEIGHBOUR: 'it returns false'. Refute it at one input. -/
def journalWideWrong : ChangeSpec := { name := "journalWide", fn := fun _ => fun
  | [d1, d2, d3, d4] => { results := [.lit (.bool false)], args := [d1, d2, d3, d4] }
  | _ => none }
def JournalWideWrongFalsely : Prop := journalWideRow.holds Tryd.pinned (OpenSpec.ofChange journalWideWrong)

/-- 'kilnlaw17.JournalLast': WHATEVER THE INPUT: true; the input reads as it did. -/
def journalLastSpec : ChangeSpec := { name := "journalLast", fn := fun _ => fun
  | [d] => { results := [.lit (.bool true)], args := [d] }
  | _ => none }
def journalLastRow : OpenClaim := { program := "ythhjlopgpmaokabdoor", sum := "cb7798ea818f9cbeee23cccfe8dda6db8eeee5881e5edf308fa01ea4f289a591", func := "kiln/kilnlaw17.JournalLast", spec := "journalLast", unfollowed := true, recurses := true, named := ["kiln/wire.sumSteps"], apart := false, laid := [("kiln/wire.sumSteps", laid_kiln_wire_sumSteps)] }
def JournalLastSaid : Prop := journalLastRow.holds Tryd.pinned (OpenSpec.ofChange journalLastSpec)

/-- ITS FALSE NEIGHBOUR: 'it returns false'. Refute it at one input. -/
def journalLastWrong : ChangeSpec := { name := "journalLast", fn := fun _ => fun
  | [d] => { results := [.lit (.bool false)], args := [d] }
  | _ => none }
def JournalLastWrongFalsely : Prop := journalLastRow.holds Tryd.pinned (OpenSpec.ofChange journalLastWrong)

/-- 'kilnlaw17.JournalAgain': WHATEVER THE INPUT: true; the input reads as it did. -/
def journalAgainSpec : ChangeSpec := { name := "journalAgain", fn := fun _ => fun
  | [d1, d2] => { results := [.lit (.bool true)], args := [d1, d2] }
  | _ => none }
def journalAgainRow : OpenClaim := { program := "ythhjlopgpmaokabdoor", sum := "cb7798ea818f9cbeee23cccfe8dda6db8eeee5881e5edf308fa01ea4f289a591", func := "kiln/kilnlaw17.JournalAgain", spec := "journalAgain", unfollowed := true, recurses := true, named := ["kiln/wire.sumSteps"], apart := false, laid := [("kiln/wire.sumSteps", laid_kiln_wire_sumSteps)] }
def JournalAgainSaid : Prop := journalAgainRow.holds Tryd.pinned (OpenSpec.ofChange journalAgainSpec)

/-- ITS FALSE NEIGHBOUR: 'it returns false'. Refute it at one input. -/
def journalAgainWrong : ChangeSpec := { name := "journalAgain", fn := fun _ => fun
  | [d1, d2] => { results := [.lit (.bool false)], args := [d1, d2] }
  | _ => none }
def JournalAgainWrongFalsely : Prop := journalAgainRow.holds Tryd.pinned (OpenSpec.ofChange journalAgainWrong)

/-- 'kilnlaw17.JournalLent': WHATEVER THE INPUT: true; the input reads as it did. -/
def journalLentSpec : ChangeSpec := { name := "journalLent", fn := fun _ => fun
  | [d1, d2] => { results := [.lit (.bool true)], args := [d1, d2] }
  | _ => none }
def journalLentRow : OpenClaim := { program := "ythhjlopgpmaokabdoor", sum := "cb7798ea818f9cbeee23cccfe8dda6db8eeee5881e5edf308fa01ea4f289a591", func := "kiln/kilnlaw17.JournalLent", spec := "journalLent", unfollowed := true, recurses := true, named := ["kiln/wire.sumSteps"], apart := false, laid := [("kiln/wire.sumSteps", laid_kiln_wire_sumSteps)] }
def JournalLentSaid : Prop := journalLentRow.holds Tryd.pinned (OpenSpec.ofChange journalLentSpec)

/-- ITS FALSE NEIGHBOUR: 'it returns false'. Refute it at one input. -/
def journalLentWrong : ChangeSpec := { name := "journalLent", fn := fun _ => fun
  | [d1, d2] => { results := [.lit (.bool false)], args := [d1, d2] }
  | _ => none }
def JournalLentWrongFalsely : Prop := journalLentRow.holds Tryd.pinned (OpenSpec.ofChange journalLentWrong)

/- THE SECOND FORM. 'bulk': how many values and letters a reading holds, each counted each time it is reached (what is shared counts as often as it is met; a slice's spare places count too). A statement '..UptoSaid' is the law's where the arguments, and the package variables that the reading takes, are together of bulk at most 1048576: NARROWER than '..Said'. Prove '..Said' where nothing that the law and all that it calls make is longer than what came in: it says more and counts as full. Else prove '..UptoSaid'. A law counts once. -/
mutual
def uptoBulk {H : Type} : DataW H → Nat
  | .lit (.string bytes) => bytes.length + 1
  | .lit _ => 1
  | .nil => 1
  | .ptr d => uptoBulk d + 1
  | .slice elems spare => uptoBulkAll elems + uptoBulkAll spare + 1
  | .agg parts => uptoBulkAll parts + 1
  | .iface _ d => uptoBulk d + 1
  | .map entries => uptoBulkEntries entries + 1
  | .held _ => 1
def uptoBulkAll {H : Type} : List (DataW H) → Nat
  | [] => 0
  | d :: r => uptoBulk d + uptoBulkAll r
def uptoBulkEntries {H : Type} : List (Lit × DataW H) → Nat
  | [] => 0
  | x :: r => uptoBulkEntry x + uptoBulkEntries r
def uptoBulkEntry {H : Type} : Lit × DataW H → Nat
  | (.string bytes, d) => bytes.length + uptoBulk d + 1
  | (_, d) => uptoBulk d + 1
 end
def uptoSmall : (H : Type) → List (DataW H) → Bool := fun _ ds => decide (uptoBulkAll ds ≤ 1048576)
def OpenSpec.upto (s : _root_.Go.ChangeSpec) : _root_.Go.OpenSpec := { _root_.Go.OpenSpec.ofChange s with cond := some uptoSmall }

/-- 'kilnlaw17.JournalBit', WHERE WHAT IT READS IS OF BULK AT MOST 1048576: true; the input reads as it did. -/
def journalBitUptoRow : OpenClaim := { program := "ythhjlopgpmaokabdoor", sum := "cb7798ea818f9cbeee23cccfe8dda6db8eeee5881e5edf308fa01ea4f289a591", func := "kiln/kilnlaw17.JournalBit", spec := "journalBit", unfollowed := true, recurses := true, named := ["kiln/wire.sumSteps"], apart := false, laid := [("kiln/wire.sumSteps", laid_kiln_wire_sumSteps)], narrowed := true }
def JournalBitUptoSaid : Prop := journalBitUptoRow.holds Tryd.pinned (OpenSpec.upto journalBitSpec)

/-- 'kilnlaw17.JournalWide', WHERE WHAT IT READS IS OF BULK AT MOST 1048576: true; the input reads as it did. -/
def journalWideUptoRow : OpenClaim := { program := "ythhjlopgpmaokabdoor", sum := "cb7798ea818f9cbeee23cccfe8dda6db8eeee5881e5edf308fa01ea4f289a591", func := "kiln/kilnlaw17.JournalWide", spec := "journalWide", unfollowed := true, recurses := true, named := ["kiln/wire.sumSteps"], apart := false, laid := [("kiln/wire.sumSteps", laid_kiln_wire_sumSteps)], narrowed := true }
def JournalWideUptoSaid : Prop := journalWideUptoRow.holds Tryd.pinned (OpenSpec.upto journalWideSpec)

/-- 'kilnlaw17.JournalLast', WHERE WHAT IT READS IS OF BULK AT MOST 1048576: true; the input reads as it did. -/
def journalLastUptoRow : OpenClaim := { program := "ythhjlopgpmaokabdoor", sum := "cb7798ea818f9cbeee23cccfe8dda6db8eeee5881e5edf308fa01ea4f289a591", func := "kiln/kilnlaw17.JournalLast", spec := "journalLast", unfollowed := true, recurses := true, named := ["kiln/wire.sumSteps"], apart := false, laid := [("kiln/wire.sumSteps", laid_kiln_wire_sumSteps)], narrowed := true }
def JournalLastUptoSaid : Prop := journalLastUptoRow.holds Tryd.pinned (OpenSpec.upto journalLastSpec)

/-- 'kilnlaw17.JournalAgain', WHERE WHAT IT READS IS OF BULK AT MOST 1048576: true; the input reads as it did. -/
def journalAgainUptoRow : OpenClaim := { program := "ythhjlopgpmaokabdoor", sum := "cb7798ea818f9cbeee23cccfe8dda6db8eeee5881e5edf308fa01ea4f289a591", func := "kiln/kilnlaw17.JournalAgain", spec := "journalAgain", unfollowed := true, recurses := true, named := ["kiln/wire.sumSteps"], apart := false, laid := [("kiln/wire.sumSteps", laid_kiln_wire_sumSteps)], narrowed := true }
def JournalAgainUptoSaid : Prop := journalAgainUptoRow.holds Tryd.pinned (OpenSpec.upto journalAgainSpec)

/-- 'kilnlaw17.JournalLent', WHERE WHAT IT READS IS OF BULK AT MOST 1048576: true; the input reads as it did. -/
def journalLentUptoRow : OpenClaim := { program := "ythhjlopgpmaokabdoor", sum := "cb7798ea818f9cbeee23cccfe8dda6db8eeee5881e5edf308fa01ea4f289a591", func := "kiln/kilnlaw17.JournalLent", spec := "journalLent", unfollowed := true, recurses := true, named := ["kiln/wire.sumSteps"], apart := false, laid := [("kiln/wire.sumSteps", laid_kiln_wire_sumSteps)], narrowed := true }
def JournalLentUptoSaid : Prop := journalLentUptoRow.holds Tryd.pinned (OpenSpec.upto journalLentSpec)

end Rows
end Go.Proofs.YthhjlopgpmaokabDoor
