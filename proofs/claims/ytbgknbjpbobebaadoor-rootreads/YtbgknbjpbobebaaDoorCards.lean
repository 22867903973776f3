/-
  DERIVED. GIVEN WITH THE SEED: THE CARDS: each row of YtbgknbjpbobebaaDoorRows.lean that lists a variable, with what it lists TIED to the program's text (the seventh form; the later family's looks); each row that meets fmt, with fmt's text TOLD by the authors' own Lean function (tested against real Go, not proved from fmt's source: count such statements apart). THE CARD IS WHAT COUNTS. Prove the row's statement (the work); the ties are given (YtbgknbjpbobebaaDoorTie.lean); close each card by the builder's one call (the guide's Derived/Test/ToyasCard.lean, 'card_holds'). Laid BY PROGRAM, IN A SANDBOX (cutbox-door.mjs). By AI agents, Wed Nov 11 2026. No macro, syntax, notation, axiom, sorry.
-/
import Derived.Test.YtbgknbjpbobebaaDoorRows
import GoSem.ClaimSeven
namespace Go.Proofs.YtbgknbjpbobebaaDoor
namespace Rows

/-- THE TIED CARD OF 'kilnlaw18.RootCodes'. -/
def rootCodesCard : Claim7 := { stood := { row := rootCodesRow, standIns := [], harness := (true, "eb1aeef419e582fcab34f1d510f94988768ed50bdef45db0ccb1bd9dead78479"), looks := false }, kinds := [], alts := [], laidByText := true, laidKinds := [.data], laidTests := true, laidLooks := .later }
def RootCodesCardSaid : Prop := Claim7.holds Tryd.pinned (.plain (OpenSpec.ofChange rootCodesSpec)) rootCodesCard

/-- THE TIED CARD OF 'kilnlaw18.RootReads'. -/
def rootReadsCard : Claim7 := { stood := { row := rootReadsRow, standIns := [], harness := (true, "eb1aeef419e582fcab34f1d510f94988768ed50bdef45db0ccb1bd9dead78479"), looks := false }, kinds := [], alts := [], laidByText := true, laidKinds := [.data], laidTests := true, laidLooks := .later }
def RootReadsCardSaid : Prop := Claim7.holds Tryd.pinned (.plain (OpenSpec.ofChange rootReadsSpec)) rootReadsCard

/-- THE TIED CARD OF 'kilnlaw18.RootWrites'. -/
def rootWritesCard : Claim7 := { stood := { row := rootWritesRow, standIns := [], harness := (true, "eb1aeef419e582fcab34f1d510f94988768ed50bdef45db0ccb1bd9dead78479"), looks := false }, kinds := [], alts := [], laidByText := true, laidKinds := [.data], laidTests := true, laidLooks := .later }
def RootWritesCardSaid : Prop := Claim7.holds Tryd.pinned (.plain (OpenSpec.ofChange rootWritesSpec)) rootWritesCard

/-- THE TIED CARD OF 'kilnlaw18.RootBack'. -/
def rootBackCard : Claim7 := { stood := { row := rootBackRow, standIns := [], harness := (true, "eb1aeef419e582fcab34f1d510f94988768ed50bdef45db0ccb1bd9dead78479"), looks := false }, kinds := [], alts := [], laidByText := true, laidKinds := [.data], laidTests := true, laidLooks := .later }
def RootBackCardSaid : Prop := Claim7.holds Tryd.pinned (.plain (OpenSpec.ofChange rootBackSpec)) rootBackCard

/-- THE TIED CARD OF 'kilnlaw18.RootOneForm'. -/
def rootOneFormCard : Claim7 := { stood := { row := rootOneFormRow, standIns := [], harness := (true, "eb1aeef419e582fcab34f1d510f94988768ed50bdef45db0ccb1bd9dead78479"), looks := false }, kinds := [], alts := [], laidByText := true, laidKinds := [.data], laidTests := true, laidLooks := .later }
def RootOneFormCardSaid : Prop := Claim7.holds Tryd.pinned (.plain (OpenSpec.ofChange rootOneFormSpec)) rootOneFormCard

/-- THE TIED CARD OF 'kilnlaw18.RootOneBit'. -/
def rootOneBitCard : Claim7 := { stood := { row := rootOneBitRow, standIns := [], harness := (true, "eb1aeef419e582fcab34f1d510f94988768ed50bdef45db0ccb1bd9dead78479"), looks := false }, kinds := [], alts := [], laidByText := true, laidKinds := [.data], laidTests := true, laidLooks := .later }
def RootOneBitCardSaid : Prop := Claim7.holds Tryd.pinned (.plain (OpenSpec.ofChange rootOneBitSpec)) rootOneBitCard

/-- THE SECOND FORM's CARD OF 'kilnlaw18.RootCodes'. -/
def rootCodesUptoCard : Claim7 := { stood := { row := rootCodesUptoRow, standIns := [], harness := (true, "eb1aeef419e582fcab34f1d510f94988768ed50bdef45db0ccb1bd9dead78479"), looks := false }, kinds := [], alts := [], laidByText := true, laidKinds := [.data], laidTests := true, laidLooks := .later }
def RootCodesUptoCardSaid : Prop := Claim7.holds Tryd.pinned (.plain (OpenSpec.upto rootCodesSpec)) rootCodesUptoCard

/-- THE SECOND FORM's CARD OF 'kilnlaw18.RootReads'. -/
def rootReadsUptoCard : Claim7 := { stood := { row := rootReadsUptoRow, standIns := [], harness := (true, "eb1aeef419e582fcab34f1d510f94988768ed50bdef45db0ccb1bd9dead78479"), looks := false }, kinds := [], alts := [], laidByText := true, laidKinds := [.data], laidTests := true, laidLooks := .later }
def RootReadsUptoCardSaid : Prop := Claim7.holds Tryd.pinned (.plain (OpenSpec.upto rootReadsSpec)) rootReadsUptoCard

/-- THE SECOND FORM's CARD OF 'kilnlaw18.RootWrites'. -/
def rootWritesUptoCard : Claim7 := { stood := { row := rootWritesUptoRow, standIns := [], harness := (true, "eb1aeef419e582fcab34f1d510f94988768ed50bdef45db0ccb1bd9dead78479"), looks := false }, kinds := [], alts := [], laidByText := true, laidKinds := [.data], laidTests := true, laidLooks := .later }
def RootWritesUptoCardSaid : Prop := Claim7.holds Tryd.pinned (.plain (OpenSpec.upto rootWritesSpec)) rootWritesUptoCard

/-- THE SECOND FORM's CARD OF 'kilnlaw18.RootBack'. -/
def rootBackUptoCard : Claim7 := { stood := { row := rootBackUptoRow, standIns := [], harness := (true, "eb1aeef419e582fcab34f1d510f94988768ed50bdef45db0ccb1bd9dead78479"), looks := false }, kinds := [], alts := [], laidByText := true, laidKinds := [.data], laidTests := true, laidLooks := .later }
def RootBackUptoCardSaid : Prop := Claim7.holds Tryd.pinned (.plain (OpenSpec.upto rootBackSpec)) rootBackUptoCard

/-- THE SECOND FORM's CARD OF 'kilnlaw18.RootOneForm'. -/
def rootOneFormUptoCard : Claim7 := { stood := { row := rootOneFormUptoRow, standIns := [], harness := (true, "eb1aeef419e582fcab34f1d510f94988768ed50bdef45db0ccb1bd9dead78479"), looks := false }, kinds := [], alts := [], laidByText := true, laidKinds := [.data], laidTests := true, laidLooks := .later }
def RootOneFormUptoCardSaid : Prop := Claim7.holds Tryd.pinned (.plain (OpenSpec.upto rootOneFormSpec)) rootOneFormUptoCard

/-- THE SECOND FORM's CARD OF 'kilnlaw18.RootOneBit'. -/
def rootOneBitUptoCard : Claim7 := { stood := { row := rootOneBitUptoRow, standIns := [], harness := (true, "eb1aeef419e582fcab34f1d510f94988768ed50bdef45db0ccb1bd9dead78479"), looks := false }, kinds := [], alts := [], laidByText := true, laidKinds := [.data], laidTests := true, laidLooks := .later }
def RootOneBitUptoCardSaid : Prop := Claim7.holds Tryd.pinned (.plain (OpenSpec.upto rootOneBitSpec)) rootOneBitUptoCard
end Rows
end Go.Proofs.YtbgknbjpbobebaaDoor
