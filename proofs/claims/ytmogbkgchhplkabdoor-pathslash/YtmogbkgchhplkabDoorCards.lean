/-
  DERIVED. GIVEN WITH THE SEED: THE CARDS: each row of YtmogbkgchhplkabDoorRows.lean that lists a variable, with what it lists TIED to the program's text (the seventh form; the later family's looks); each row that meets fmt, with fmt's text TOLD by the authors' own Lean function (tested against real Go, not proved from fmt's source: count such statements apart). THE CARD IS WHAT COUNTS. Prove the row's statement (the work); the ties are given (YtmogbkgchhplkabDoorTie.lean); close each card by the builder's one call (the guide's Derived/Test/ToyasCard.lean, 'card_holds'). Laid BY PROGRAM, IN A SANDBOX (cutbox-door.mjs). By AI agents, Wed Nov 11 2026. No macro, syntax, notation, axiom, sorry.
-/
import Derived.Test.YtmogbkgchhplkabDoorRows
import GoSem.ClaimSeven
namespace Go.Proofs.YtmogbkgchhplkabDoor
namespace Rows

/-- THE TIED CARD OF 'kilnlaw5.PathTogether'. -/
def pathTogetherCard : Claim7 := { stood := { row := pathTogetherRow, standIns := [], harness := (true, "651a9be2fab9afcf28d8be2563dfc6a8fcd8c490800714d1111287e82428653b"), looks := false }, kinds := [], alts := [], laidByText := true, laidKinds := [.data, .pinned], laidTests := true, laidLooks := .later }
def PathTogetherCardSaid : Prop := Claim7.holds Tryd.pinned (.plain (OpenSpec.ofChange pathTogetherSpec)) pathTogetherCard

/-- THE TIED CARD OF 'kilnlaw5.PathSlash'. -/
def pathSlashCard : Claim7 := { stood := { row := pathSlashRow, standIns := [], harness := (true, "651a9be2fab9afcf28d8be2563dfc6a8fcd8c490800714d1111287e82428653b"), looks := false }, kinds := [], alts := [], laidByText := true, laidKinds := [.data, .pinned], laidTests := true, laidLooks := .later }
def PathSlashCardSaid : Prop := Claim7.holds Tryd.pinned (.plain (OpenSpec.ofChange pathSlashSpec)) pathSlashCard

/-- THE TIED CARD OF 'kilnlaw5.PathAgain'. -/
def pathAgainCard : Claim7 := { stood := { row := pathAgainRow, standIns := [], harness := (true, "651a9be2fab9afcf28d8be2563dfc6a8fcd8c490800714d1111287e82428653b"), looks := false }, kinds := [], alts := [], laidByText := true, laidKinds := [.data, .pinned], laidTests := true, laidLooks := .later }
def PathAgainCardSaid : Prop := Claim7.holds Tryd.pinned (.plain (OpenSpec.ofChange pathAgainSpec)) pathAgainCard

/-- THE TIED CARD OF 'kilnlaw5.PathLent'. -/
def pathLentCard : Claim7 := { stood := { row := pathLentRow, standIns := [], harness := (true, "651a9be2fab9afcf28d8be2563dfc6a8fcd8c490800714d1111287e82428653b"), looks := false }, kinds := [], alts := [], laidByText := true, laidKinds := [.data, .pinned], laidTests := true, laidLooks := .later }
def PathLentCardSaid : Prop := Claim7.holds Tryd.pinned (.plain (OpenSpec.ofChange pathLentSpec)) pathLentCard

/-- THE SECOND FORM's CARD OF 'kilnlaw5.PathTogether'. -/
def pathTogetherUptoCard : Claim7 := { stood := { row := pathTogetherUptoRow, standIns := [], harness := (true, "651a9be2fab9afcf28d8be2563dfc6a8fcd8c490800714d1111287e82428653b"), looks := false }, kinds := [], alts := [], laidByText := true, laidKinds := [.data, .pinned], laidTests := true, laidLooks := .later }
def PathTogetherUptoCardSaid : Prop := Claim7.holds Tryd.pinned (.plain (OpenSpec.upto pathTogetherSpec)) pathTogetherUptoCard

/-- THE SECOND FORM's CARD OF 'kilnlaw5.PathSlash'. -/
def pathSlashUptoCard : Claim7 := { stood := { row := pathSlashUptoRow, standIns := [], harness := (true, "651a9be2fab9afcf28d8be2563dfc6a8fcd8c490800714d1111287e82428653b"), looks := false }, kinds := [], alts := [], laidByText := true, laidKinds := [.data, .pinned], laidTests := true, laidLooks := .later }
def PathSlashUptoCardSaid : Prop := Claim7.holds Tryd.pinned (.plain (OpenSpec.upto pathSlashSpec)) pathSlashUptoCard

/-- THE SECOND FORM's CARD OF 'kilnlaw5.PathAgain'. -/
def pathAgainUptoCard : Claim7 := { stood := { row := pathAgainUptoRow, standIns := [], harness := (true, "651a9be2fab9afcf28d8be2563dfc6a8fcd8c490800714d1111287e82428653b"), looks := false }, kinds := [], alts := [], laidByText := true, laidKinds := [.data, .pinned], laidTests := true, laidLooks := .later }
def PathAgainUptoCardSaid : Prop := Claim7.holds Tryd.pinned (.plain (OpenSpec.upto pathAgainSpec)) pathAgainUptoCard

/-- THE SECOND FORM's CARD OF 'kilnlaw5.PathLent'. -/
def pathLentUptoCard : Claim7 := { stood := { row := pathLentUptoRow, standIns := [], harness := (true, "651a9be2fab9afcf28d8be2563dfc6a8fcd8c490800714d1111287e82428653b"), looks := false }, kinds := [], alts := [], laidByText := true, laidKinds := [.data, .pinned], laidTests := true, laidLooks := .later }
def PathLentUptoCardSaid : Prop := Claim7.holds Tryd.pinned (.plain (OpenSpec.upto pathLentSpec)) pathLentUptoCard
end Rows
end Go.Proofs.YtmogbkgchhplkabDoor
