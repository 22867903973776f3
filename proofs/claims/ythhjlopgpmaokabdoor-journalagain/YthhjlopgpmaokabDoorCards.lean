/-
  DERIVED. GIVEN WITH THE SEED: THE CARDS: each row of YthhjlopgpmaokabDoorRows.lean that lists a variable, with what it lists TIED to the program's text (the seventh form; the later family's looks); each row that meets fmt, with fmt's text TOLD by the authors' own Lean function (tested against real Go, not proved from fmt's source: count such statements apart). THE CARD IS WHAT COUNTS. Prove the row's statement (the work); the ties are given (YthhjlopgpmaokabDoorTie.lean); close each card by the builder's one call (the guide's Derived/Test/ToyasCard.lean, 'card_holds'). Laid BY PROGRAM, IN A SANDBOX (cutbox-door.mjs). By AI agents, Wed Nov 11 2026. No macro, syntax, notation, axiom, sorry.
-/
import Derived.Test.YthhjlopgpmaokabDoorRows
import GoSem.ClaimSeven
namespace Go.Proofs.YthhjlopgpmaokabDoor
namespace Rows

/-- THE TIED CARD OF 'kilnlaw17.JournalBit'. -/
def journalBitCard : Claim7 := { stood := { row := journalBitRow, standIns := [], harness := (true, "f720953a0a041f535926120a2b81a0b0c20bb6b5ac2520d5fddab0ea77f71812"), looks := false }, kinds := [], alts := [], laidByText := true, laidKinds := [.data], laidTests := true, laidLooks := .later }
def JournalBitCardSaid : Prop := Claim7.holds Tryd.pinned (.plain (OpenSpec.ofChange journalBitSpec)) journalBitCard

/-- THE TIED CARD OF 'kilnlaw17.JournalWide'. -/
def journalWideCard : Claim7 := { stood := { row := journalWideRow, standIns := [], harness := (true, "f720953a0a041f535926120a2b81a0b0c20bb6b5ac2520d5fddab0ea77f71812"), looks := false }, kinds := [], alts := [], laidByText := true, laidKinds := [.data], laidTests := true, laidLooks := .later }
def JournalWideCardSaid : Prop := Claim7.holds Tryd.pinned (.plain (OpenSpec.ofChange journalWideSpec)) journalWideCard

/-- THE TIED CARD OF 'kilnlaw17.JournalLast'. -/
def journalLastCard : Claim7 := { stood := { row := journalLastRow, standIns := [], harness := (true, "f720953a0a041f535926120a2b81a0b0c20bb6b5ac2520d5fddab0ea77f71812"), looks := false }, kinds := [], alts := [], laidByText := true, laidKinds := [.data], laidTests := true, laidLooks := .later }
def JournalLastCardSaid : Prop := Claim7.holds Tryd.pinned (.plain (OpenSpec.ofChange journalLastSpec)) journalLastCard

/-- THE TIED CARD OF 'kilnlaw17.JournalAgain'. -/
def journalAgainCard : Claim7 := { stood := { row := journalAgainRow, standIns := [], harness := (true, "f720953a0a041f535926120a2b81a0b0c20bb6b5ac2520d5fddab0ea77f71812"), looks := false }, kinds := [], alts := [], laidByText := true, laidKinds := [.data], laidTests := true, laidLooks := .later }
def JournalAgainCardSaid : Prop := Claim7.holds Tryd.pinned (.plain (OpenSpec.ofChange journalAgainSpec)) journalAgainCard

/-- THE TIED CARD OF 'kilnlaw17.JournalLent'. -/
def journalLentCard : Claim7 := { stood := { row := journalLentRow, standIns := [], harness := (true, "f720953a0a041f535926120a2b81a0b0c20bb6b5ac2520d5fddab0ea77f71812"), looks := false }, kinds := [], alts := [], laidByText := true, laidKinds := [.data], laidTests := true, laidLooks := .later }
def JournalLentCardSaid : Prop := Claim7.holds Tryd.pinned (.plain (OpenSpec.ofChange journalLentSpec)) journalLentCard

/-- THE SECOND FORM's CARD OF 'kilnlaw17.JournalBit'. -/
def journalBitUptoCard : Claim7 := { stood := { row := journalBitUptoRow, standIns := [], harness := (true, "f720953a0a041f535926120a2b81a0b0c20bb6b5ac2520d5fddab0ea77f71812"), looks := false }, kinds := [], alts := [], laidByText := true, laidKinds := [.data], laidTests := true, laidLooks := .later }
def JournalBitUptoCardSaid : Prop := Claim7.holds Tryd.pinned (.plain (OpenSpec.upto journalBitSpec)) journalBitUptoCard

/-- THE SECOND FORM's CARD OF 'kilnlaw17.JournalWide'. -/
def journalWideUptoCard : Claim7 := { stood := { row := journalWideUptoRow, standIns := [], harness := (true, "f720953a0a041f535926120a2b81a0b0c20bb6b5ac2520d5fddab0ea77f71812"), looks := false }, kinds := [], alts := [], laidByText := true, laidKinds := [.data], laidTests := true, laidLooks := .later }
def JournalWideUptoCardSaid : Prop := Claim7.holds Tryd.pinned (.plain (OpenSpec.upto journalWideSpec)) journalWideUptoCard

/-- THE SECOND FORM's CARD OF 'kilnlaw17.JournalLast'. -/
def journalLastUptoCard : Claim7 := { stood := { row := journalLastUptoRow, standIns := [], harness := (true, "f720953a0a041f535926120a2b81a0b0c20bb6b5ac2520d5fddab0ea77f71812"), looks := false }, kinds := [], alts := [], laidByText := true, laidKinds := [.data], laidTests := true, laidLooks := .later }
def JournalLastUptoCardSaid : Prop := Claim7.holds Tryd.pinned (.plain (OpenSpec.upto journalLastSpec)) journalLastUptoCard

/-- THE SECOND FORM's CARD OF 'kilnlaw17.JournalAgain'. -/
def journalAgainUptoCard : Claim7 := { stood := { row := journalAgainUptoRow, standIns := [], harness := (true, "f720953a0a041f535926120a2b81a0b0c20bb6b5ac2520d5fddab0ea77f71812"), looks := false }, kinds := [], alts := [], laidByText := true, laidKinds := [.data], laidTests := true, laidLooks := .later }
def JournalAgainUptoCardSaid : Prop := Claim7.holds Tryd.pinned (.plain (OpenSpec.upto journalAgainSpec)) journalAgainUptoCard

/-- THE SECOND FORM's CARD OF 'kilnlaw17.JournalLent'. -/
def journalLentUptoCard : Claim7 := { stood := { row := journalLentUptoRow, standIns := [], harness := (true, "f720953a0a041f535926120a2b81a0b0c20bb6b5ac2520d5fddab0ea77f71812"), looks := false }, kinds := [], alts := [], laidByText := true, laidKinds := [.data], laidTests := true, laidLooks := .later }
def JournalLentUptoCardSaid : Prop := Claim7.holds Tryd.pinned (.plain (OpenSpec.upto journalLentSpec)) journalLentUptoCard
end Rows
end Go.Proofs.YthhjlopgpmaokabDoor
