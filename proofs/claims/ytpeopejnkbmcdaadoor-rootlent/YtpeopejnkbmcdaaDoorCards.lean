/-
  DERIVED. GIVEN WITH THE SEED: THE CARDS: each row of YtpeopejnkbmcdaaDoorRows.lean that lists a variable, with what it lists TIED to the program's text (the seventh form; the later family's looks); each row that meets fmt, with fmt's text TOLD by the authors' own Lean function (tested against real Go, not proved from fmt's source: count such statements apart). THE CARD IS WHAT COUNTS. Prove the row's statement (the work); the ties are given (YtpeopejnkbmcdaaDoorTie.lean); close each card by the builder's one call (the guide's Derived/Test/ToyasCard.lean, 'card_holds'). Laid BY PROGRAM, IN A SANDBOX (cutbox-door.mjs). By AI agents, Wed Nov 11 2026. No macro, syntax, notation, axiom, sorry.
-/
import Derived.Test.YtpeopejnkbmcdaaDoorRows
import GoSem.ClaimSeven
namespace Go.Proofs.YtpeopejnkbmcdaaDoor
namespace Rows

/-- THE TIED CARD OF 'kilnlaw18.RootNewest'. -/
def rootNewestCard : Claim7 := { stood := { row := rootNewestRow, standIns := [], harness := (true, "7a95a60bcdece2fd5cde5b6b7116258f6b5f690adfe81f5be3429a2ce21d3801"), looks := false }, kinds := [], alts := [], laidByText := true, laidKinds := [.data], laidTests := true, laidLooks := .later }
def RootNewestCardSaid : Prop := Claim7.holds Tryd.pinned (.plain (OpenSpec.ofChange rootNewestSpec)) rootNewestCard

/-- THE TIED CARD OF 'kilnlaw18.RootElsewhere'. -/
def rootElsewhereCard : Claim7 := { stood := { row := rootElsewhereRow, standIns := [], harness := (true, "7a95a60bcdece2fd5cde5b6b7116258f6b5f690adfe81f5be3429a2ce21d3801"), looks := false }, kinds := [], alts := [], laidByText := true, laidKinds := [.data], laidTests := true, laidLooks := .later }
def RootElsewhereCardSaid : Prop := Claim7.holds Tryd.pinned (.plain (OpenSpec.ofChange rootElsewhereSpec)) rootElsewhereCard

/-- THE TIED CARD OF 'kilnlaw18.RootLent'. -/
def rootLentCard : Claim7 := { stood := { row := rootLentRow, standIns := [], harness := (true, "7a95a60bcdece2fd5cde5b6b7116258f6b5f690adfe81f5be3429a2ce21d3801"), looks := false }, kinds := [], alts := [], laidByText := true, laidKinds := [.data], laidTests := true, laidLooks := .later }
def RootLentCardSaid : Prop := Claim7.holds Tryd.pinned (.plain (OpenSpec.ofChange rootLentSpec)) rootLentCard

/-- THE SECOND FORM's CARD OF 'kilnlaw18.RootNewest'. -/
def rootNewestUptoCard : Claim7 := { stood := { row := rootNewestUptoRow, standIns := [], harness := (true, "7a95a60bcdece2fd5cde5b6b7116258f6b5f690adfe81f5be3429a2ce21d3801"), looks := false }, kinds := [], alts := [], laidByText := true, laidKinds := [.data], laidTests := true, laidLooks := .later }
def RootNewestUptoCardSaid : Prop := Claim7.holds Tryd.pinned (.plain (OpenSpec.upto rootNewestSpec)) rootNewestUptoCard

/-- THE SECOND FORM's CARD OF 'kilnlaw18.RootElsewhere'. -/
def rootElsewhereUptoCard : Claim7 := { stood := { row := rootElsewhereUptoRow, standIns := [], harness := (true, "7a95a60bcdece2fd5cde5b6b7116258f6b5f690adfe81f5be3429a2ce21d3801"), looks := false }, kinds := [], alts := [], laidByText := true, laidKinds := [.data], laidTests := true, laidLooks := .later }
def RootElsewhereUptoCardSaid : Prop := Claim7.holds Tryd.pinned (.plain (OpenSpec.upto rootElsewhereSpec)) rootElsewhereUptoCard

/-- THE SECOND FORM's CARD OF 'kilnlaw18.RootLent'. -/
def rootLentUptoCard : Claim7 := { stood := { row := rootLentUptoRow, standIns := [], harness := (true, "7a95a60bcdece2fd5cde5b6b7116258f6b5f690adfe81f5be3429a2ce21d3801"), looks := false }, kinds := [], alts := [], laidByText := true, laidKinds := [.data], laidTests := true, laidLooks := .later }
def RootLentUptoCardSaid : Prop := Claim7.holds Tryd.pinned (.plain (OpenSpec.upto rootLentSpec)) rootLentUptoCard
end Rows
end Go.Proofs.YtpeopejnkbmcdaaDoor
