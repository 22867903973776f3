/-
  DERIVED. GIVEN WITH THE SEED: THE CARDS: each row of YtlaipnjhddnpiaaDoorRows.lean that lists a variable, with what it lists TIED to the program's text (the seventh form; the later family's looks); each row that meets fmt, with fmt's text TOLD by the authors' own Lean function (tested against real Go, not proved from fmt's source: count such statements apart). THE CARD IS WHAT COUNTS. Prove the row's statement (the work); the ties are given (YtlaipnjhddnpiaaDoorTie.lean); close each card by the builder's one call (the guide's Derived/Test/ToyasCard.lean, 'card_holds'). Laid BY PROGRAM, IN A SANDBOX (cutbox-door.mjs). By AI agents, Wed Nov 11 2026. No macro, syntax, notation, axiom, sorry.
-/
import Derived.Test.YtlaipnjhddnpiaaDoorRows
import GoSem.ClaimSeven
namespace Go.Proofs.YtlaipnjhddnpiaaDoor
namespace Rows

/-- THE TIED CARD OF 'kilnlaw20.MarkMakes'. -/
def markMakesCard : Claim7 := { stood := { row := markMakesRow, standIns := [], harness := (true, "b3c4f0bc92e57e34336b28579cee0949639b42ac93563b0b4ad94aabebfad56e"), looks := false }, kinds := [], alts := [], laidByText := true, laidKinds := [.data, .data, .data], laidTests := true, laidLooks := .later }
def MarkMakesCardSaid : Prop := Claim7.holds Tryd.pinned (.plain (OpenSpec.ofChange markMakesSpec)) markMakesCard

/-- THE SECOND FORM's CARD OF 'kilnlaw20.MarkMakes'. -/
def markMakesUptoCard : Claim7 := { stood := { row := markMakesUptoRow, standIns := [], harness := (true, "b3c4f0bc92e57e34336b28579cee0949639b42ac93563b0b4ad94aabebfad56e"), looks := false }, kinds := [], alts := [], laidByText := true, laidKinds := [.data, .data, .data], laidTests := true, laidLooks := .later }
def MarkMakesUptoCardSaid : Prop := Claim7.holds Tryd.pinned (.plain (OpenSpec.upto markMakesSpec)) markMakesUptoCard
end Rows
end Go.Proofs.YtlaipnjhddnpiaaDoor
