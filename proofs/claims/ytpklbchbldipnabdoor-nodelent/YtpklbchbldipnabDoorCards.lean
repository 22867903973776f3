/-
  DERIVED. GIVEN WITH THE SEED: THE CARDS: each row of YtpklbchbldipnabDoorRows.lean that lists a variable, with what it lists TIED to the program's text (the seventh form; the later family's looks); each row that meets fmt, with fmt's text TOLD by the authors' own Lean function (tested against real Go, not proved from fmt's source: count such statements apart). THE CARD IS WHAT COUNTS. Prove the row's statement (the work); the ties are given (YtpklbchbldipnabDoorTie.lean); close each card by the builder's one call (the guide's Derived/Test/ToyasCard.lean, 'card_holds'). Laid BY PROGRAM, IN A SANDBOX (cutbox-door.mjs). By AI agents, Wed Nov 11 2026. No macro, syntax, notation, axiom, sorry.
-/
import Derived.Test.YtpklbchbldipnabDoorRows
import GoSem.ClaimSeven
namespace Go.Proofs.YtpklbchbldipnabDoor
namespace Rows

/-- THE TIED CARD OF 'kilnlaw8.NodeUnlike'. -/
def nodeUnlikeCard : Claim7 := { stood := { row := nodeUnlikeRow, standIns := [], harness := (true, "9c4137164b23fb93c48402f92f0bcd7296eaaf9765906490d1219631fd91f8ae"), looks := true }, kinds := [], alts := [], laidByText := true, laidKinds := [.data, .data], laidTests := true, laidLooks := .later }
def NodeUnlikeCardSaid : Prop := Claim7.holds Tryd.pinned (.plain (OpenSpec.ofChange nodeUnlikeSpec)) nodeUnlikeCard

/-- THE TIED CARD OF 'kilnlaw8.NodeAgain'. -/
def nodeAgainCard : Claim7 := { stood := { row := nodeAgainRow, standIns := [], harness := (true, "9c4137164b23fb93c48402f92f0bcd7296eaaf9765906490d1219631fd91f8ae"), looks := true }, kinds := [], alts := [], laidByText := true, laidKinds := [.data, .data], laidTests := true, laidLooks := .later }
def NodeAgainCardSaid : Prop := Claim7.holds Tryd.pinned (.plain (OpenSpec.ofChange nodeAgainSpec)) nodeAgainCard

/-- THE TIED CARD OF 'kilnlaw8.NodeLent'. -/
def nodeLentCard : Claim7 := { stood := { row := nodeLentRow, standIns := [], harness := (true, "9c4137164b23fb93c48402f92f0bcd7296eaaf9765906490d1219631fd91f8ae"), looks := true }, kinds := [], alts := [], laidByText := true, laidKinds := [.data, .data], laidTests := true, laidLooks := .later }
def NodeLentCardSaid : Prop := Claim7.holds Tryd.pinned (.plain (OpenSpec.ofChange nodeLentSpec)) nodeLentCard

/-- THE SECOND FORM's CARD OF 'kilnlaw8.NodeUnlike'. -/
def nodeUnlikeUptoCard : Claim7 := { stood := { row := nodeUnlikeUptoRow, standIns := [], harness := (true, "9c4137164b23fb93c48402f92f0bcd7296eaaf9765906490d1219631fd91f8ae"), looks := true }, kinds := [], alts := [], laidByText := true, laidKinds := [.data, .data], laidTests := true, laidLooks := .later }
def NodeUnlikeUptoCardSaid : Prop := Claim7.holds Tryd.pinned (.plain (OpenSpec.upto nodeUnlikeSpec)) nodeUnlikeUptoCard

/-- THE SECOND FORM's CARD OF 'kilnlaw8.NodeAgain'. -/
def nodeAgainUptoCard : Claim7 := { stood := { row := nodeAgainUptoRow, standIns := [], harness := (true, "9c4137164b23fb93c48402f92f0bcd7296eaaf9765906490d1219631fd91f8ae"), looks := true }, kinds := [], alts := [], laidByText := true, laidKinds := [.data, .data], laidTests := true, laidLooks := .later }
def NodeAgainUptoCardSaid : Prop := Claim7.holds Tryd.pinned (.plain (OpenSpec.upto nodeAgainSpec)) nodeAgainUptoCard

/-- THE SECOND FORM's CARD OF 'kilnlaw8.NodeLent'. -/
def nodeLentUptoCard : Claim7 := { stood := { row := nodeLentUptoRow, standIns := [], harness := (true, "9c4137164b23fb93c48402f92f0bcd7296eaaf9765906490d1219631fd91f8ae"), looks := true }, kinds := [], alts := [], laidByText := true, laidKinds := [.data, .data], laidTests := true, laidLooks := .later }
def NodeLentUptoCardSaid : Prop := Claim7.holds Tryd.pinned (.plain (OpenSpec.upto nodeLentSpec)) nodeLentUptoCard
end Rows
end Go.Proofs.YtpklbchbldipnabDoor
