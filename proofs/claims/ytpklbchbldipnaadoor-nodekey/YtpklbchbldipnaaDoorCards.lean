/-
  DERIVED. GIVEN WITH THE SEED: THE CARDS: each row of YtpklbchbldipnaaDoorRows.lean that lists a variable, with what it lists TIED to the program's text (the seventh form; the later family's looks); each row that meets fmt, with fmt's text TOLD by the authors' own Lean function (tested against real Go, not proved from fmt's source: count such statements apart). THE CARD IS WHAT COUNTS. Prove the row's statement (the work); the ties are given (YtpklbchbldipnaaDoorTie.lean); close each card by the builder's one call (the guide's Derived/Test/ToyasCard.lean, 'card_holds'). Laid BY PROGRAM, IN A SANDBOX (cutbox-door.mjs). By AI agents, Wed Nov 11 2026. No macro, syntax, notation, axiom, sorry.
-/
import Derived.Test.YtpklbchbldipnaaDoorRows
import GoSem.ClaimSeven
namespace Go.Proofs.YtpklbchbldipnaaDoor
namespace Rows

/-- THE TIED CARD OF 'kilnlaw8.NodeWrites'. -/
def nodeWritesCard : Claim7 := { stood := { row := nodeWritesRow, standIns := [], harness := (true, "f70d2a2ec62d210c9febbb9efeb430b49ca4d4af54bb93991839823f8d73e7af"), looks := true }, kinds := [], alts := [], laidByText := true, laidKinds := [.data, .data], laidTests := true, laidLooks := .later }
def NodeWritesCardSaid : Prop := Claim7.holds Tryd.pinned (.plain (OpenSpec.ofChange nodeWritesSpec)) nodeWritesCard

/-- THE TIED CARD OF 'kilnlaw8.NodeReads'. -/
def nodeReadsCard : Claim7 := { stood := { row := nodeReadsRow, standIns := [], harness := (true, "f70d2a2ec62d210c9febbb9efeb430b49ca4d4af54bb93991839823f8d73e7af"), looks := true }, kinds := [], alts := [], laidByText := true, laidKinds := [.data, .data], laidTests := true, laidLooks := .later }
def NodeReadsCardSaid : Prop := Claim7.holds Tryd.pinned (.plain (OpenSpec.ofChange nodeReadsSpec)) nodeReadsCard

/-- THE TIED CARD OF 'kilnlaw8.NodeMany'. -/
def nodeManyCard : Claim7 := { stood := { row := nodeManyRow, standIns := [], harness := (true, "f70d2a2ec62d210c9febbb9efeb430b49ca4d4af54bb93991839823f8d73e7af"), looks := true }, kinds := [], alts := [], laidByText := true, laidKinds := [.data, .data], laidTests := true, laidLooks := .later }
def NodeManyCardSaid : Prop := Claim7.holds Tryd.pinned (.plain (OpenSpec.ofChange nodeManySpec)) nodeManyCard

/-- THE TIED CARD OF 'kilnlaw8.NodeLong'. -/
def nodeLongCard : Claim7 := { stood := { row := nodeLongRow, standIns := [], harness := (true, "f70d2a2ec62d210c9febbb9efeb430b49ca4d4af54bb93991839823f8d73e7af"), looks := true }, kinds := [], alts := [], laidByText := true, laidKinds := [.data, .data], laidTests := true, laidLooks := .later }
def NodeLongCardSaid : Prop := Claim7.holds Tryd.pinned (.plain (OpenSpec.ofChange nodeLongSpec)) nodeLongCard

/-- THE TIED CARD OF 'kilnlaw8.NodeBack'. -/
def nodeBackCard : Claim7 := { stood := { row := nodeBackRow, standIns := [], harness := (true, "f70d2a2ec62d210c9febbb9efeb430b49ca4d4af54bb93991839823f8d73e7af"), looks := true }, kinds := [], alts := [], laidByText := true, laidKinds := [.data, .data], laidTests := true, laidLooks := .later }
def NodeBackCardSaid : Prop := Claim7.holds Tryd.pinned (.plain (OpenSpec.ofChange nodeBackSpec)) nodeBackCard

/-- THE TIED CARD OF 'kilnlaw8.NodeKey'. -/
def nodeKeyCard : Claim7 := { stood := { row := nodeKeyRow, standIns := [], harness := (true, "f70d2a2ec62d210c9febbb9efeb430b49ca4d4af54bb93991839823f8d73e7af"), looks := true }, kinds := [], alts := [], laidByText := true, laidKinds := [.data, .data], laidTests := true, laidLooks := .later }
def NodeKeyCardSaid : Prop := Claim7.holds Tryd.pinned (.plain (OpenSpec.ofChange nodeKeySpec)) nodeKeyCard

/-- THE SECOND FORM's CARD OF 'kilnlaw8.NodeWrites'. -/
def nodeWritesUptoCard : Claim7 := { stood := { row := nodeWritesUptoRow, standIns := [], harness := (true, "f70d2a2ec62d210c9febbb9efeb430b49ca4d4af54bb93991839823f8d73e7af"), looks := true }, kinds := [], alts := [], laidByText := true, laidKinds := [.data, .data], laidTests := true, laidLooks := .later }
def NodeWritesUptoCardSaid : Prop := Claim7.holds Tryd.pinned (.plain (OpenSpec.upto nodeWritesSpec)) nodeWritesUptoCard

/-- THE SECOND FORM's CARD OF 'kilnlaw8.NodeReads'. -/
def nodeReadsUptoCard : Claim7 := { stood := { row := nodeReadsUptoRow, standIns := [], harness := (true, "f70d2a2ec62d210c9febbb9efeb430b49ca4d4af54bb93991839823f8d73e7af"), looks := true }, kinds := [], alts := [], laidByText := true, laidKinds := [.data, .data], laidTests := true, laidLooks := .later }
def NodeReadsUptoCardSaid : Prop := Claim7.holds Tryd.pinned (.plain (OpenSpec.upto nodeReadsSpec)) nodeReadsUptoCard

/-- THE SECOND FORM's CARD OF 'kilnlaw8.NodeMany'. -/
def nodeManyUptoCard : Claim7 := { stood := { row := nodeManyUptoRow, standIns := [], harness := (true, "f70d2a2ec62d210c9febbb9efeb430b49ca4d4af54bb93991839823f8d73e7af"), looks := true }, kinds := [], alts := [], laidByText := true, laidKinds := [.data, .data], laidTests := true, laidLooks := .later }
def NodeManyUptoCardSaid : Prop := Claim7.holds Tryd.pinned (.plain (OpenSpec.upto nodeManySpec)) nodeManyUptoCard

/-- THE SECOND FORM's CARD OF 'kilnlaw8.NodeLong'. -/
def nodeLongUptoCard : Claim7 := { stood := { row := nodeLongUptoRow, standIns := [], harness := (true, "f70d2a2ec62d210c9febbb9efeb430b49ca4d4af54bb93991839823f8d73e7af"), looks := true }, kinds := [], alts := [], laidByText := true, laidKinds := [.data, .data], laidTests := true, laidLooks := .later }
def NodeLongUptoCardSaid : Prop := Claim7.holds Tryd.pinned (.plain (OpenSpec.upto nodeLongSpec)) nodeLongUptoCard

/-- THE SECOND FORM's CARD OF 'kilnlaw8.NodeBack'. -/
def nodeBackUptoCard : Claim7 := { stood := { row := nodeBackUptoRow, standIns := [], harness := (true, "f70d2a2ec62d210c9febbb9efeb430b49ca4d4af54bb93991839823f8d73e7af"), looks := true }, kinds := [], alts := [], laidByText := true, laidKinds := [.data, .data], laidTests := true, laidLooks := .later }
def NodeBackUptoCardSaid : Prop := Claim7.holds Tryd.pinned (.plain (OpenSpec.upto nodeBackSpec)) nodeBackUptoCard

/-- THE SECOND FORM's CARD OF 'kilnlaw8.NodeKey'. -/
def nodeKeyUptoCard : Claim7 := { stood := { row := nodeKeyUptoRow, standIns := [], harness := (true, "f70d2a2ec62d210c9febbb9efeb430b49ca4d4af54bb93991839823f8d73e7af"), looks := true }, kinds := [], alts := [], laidByText := true, laidKinds := [.data, .data], laidTests := true, laidLooks := .later }
def NodeKeyUptoCardSaid : Prop := Claim7.holds Tryd.pinned (.plain (OpenSpec.upto nodeKeySpec)) nodeKeyUptoCard
end Rows
end Go.Proofs.YtpklbchbldipnaaDoor
