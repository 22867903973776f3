/-
  DERIVED. GIVEN WITH THE SEED: THE CARDS: each row of YtpmapbggjnpkhaaDoorRows.lean that lists a variable, with what it lists TIED to the program's text (the seventh form; the later family's looks); each row that meets fmt, with fmt's text TOLD by the authors' own Lean function (tested against real Go, not proved from fmt's source: count such statements apart). THE CARD IS WHAT COUNTS. Prove the row's statement (the work); the ties are given (YtpmapbggjnpkhaaDoorTie.lean); close each card by the builder's one call (the guide's Derived/Test/ToyasCard.lean, 'card_holds'). Laid BY PROGRAM, IN A SANDBOX (cutbox-door.mjs). By AI agents, Wed Nov 11 2026. No macro, syntax, notation, axiom, sorry.
-/
import Derived.Test.YtpmapbggjnpkhaaDoorRows
import GoSem.ClaimSeven
namespace Go.Proofs.YtpmapbggjnpkhaaDoor
namespace Rows

/-- THE TIED CARD OF 'kilnlaw5.PathLent'. -/
def pathLentCard : Claim7 := { stood := { row := pathLentRow, standIns := [], harness := (true, "09c433809ef52b3d019a2ea97a3d858450d239439c0454bfb66efa98ff322cc1"), looks := false }, kinds := [], alts := [], laidByText := true, laidKinds := [.data, .pinned], laidTests := true, laidLooks := .later }
def PathLentCardSaid : Prop := Claim7.holds Tryd.pinned (.plain (OpenSpec.ofChange pathLentSpec)) pathLentCard

/-- THE SECOND FORM's CARD OF 'kilnlaw5.PathLent'. -/
def pathLentUptoCard : Claim7 := { stood := { row := pathLentUptoRow, standIns := [], harness := (true, "09c433809ef52b3d019a2ea97a3d858450d239439c0454bfb66efa98ff322cc1"), looks := false }, kinds := [], alts := [], laidByText := true, laidKinds := [.data, .pinned], laidTests := true, laidLooks := .later }
def PathLentUptoCardSaid : Prop := Claim7.holds Tryd.pinned (.plain (OpenSpec.upto pathLentSpec)) pathLentUptoCard
end Rows
end Go.Proofs.YtpmapbggjnpkhaaDoor
