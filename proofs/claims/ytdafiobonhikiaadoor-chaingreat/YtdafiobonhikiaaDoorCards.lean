/-
  DERIVED. GIVEN WITH THE SEED: THE CARDS: each row of YtdafiobonhikiaaDoorRows.lean that lists a variable, with what it lists TIED to the program's text (the seventh form; the later family's looks); each row that meets fmt, with fmt's text TOLD by the authors' own Lean function (tested against real Go, not proved from fmt's source: count such statements apart). THE CARD IS WHAT COUNTS. Prove the row's statement (the work); the ties are given (YtdafiobonhikiaaDoorTie.lean); close each card by the builder's one call (the guide's Derived/Test/ToyasCard.lean, 'card_holds'). Laid BY PROGRAM, IN A SANDBOX (cutbox-door.mjs). By AI agents, Wed Nov 11 2026. No macro, syntax, notation, axiom, sorry.
-/
import Derived.Test.YtdafiobonhikiaaDoorRows
import GoSem.ClaimSeven
namespace Go.Proofs.YtdafiobonhikiaaDoor
namespace Rows

/-- THE TIED CARD OF 'kilnlaw6.ChainBytes'. -/
def chainBytesCard : Claim7 := { stood := { row := chainBytesRow, standIns := [], harness := (true, "4f000875deff8ffa5058a86f070fd97dd52d7001577f43229651221e75a0372d"), looks := false }, kinds := [], alts := [], laidByText := true, laidKinds := [.data, .data, .data, .data], laidTests := true, laidLooks := .later }
def ChainBytesCardSaid : Prop := Claim7.holds Tryd.pinned (.plain (OpenSpec.ofChange chainBytesSpec)) chainBytesCard

/-- THE TIED CARD OF 'kilnlaw6.ChainGreat'. -/
def chainGreatCard : Claim7 := { stood := { row := chainGreatRow, standIns := [], harness := (true, "4f000875deff8ffa5058a86f070fd97dd52d7001577f43229651221e75a0372d"), looks := false }, kinds := [], alts := [], laidByText := true, laidKinds := [.data, .data, .data, .data], laidTests := true, laidLooks := .later }
def ChainGreatCardSaid : Prop := Claim7.holds Tryd.pinned (.plain (OpenSpec.ofChange chainGreatSpec)) chainGreatCard

/-- THE TIED CARD OF 'kilnlaw6.ChainBack'. -/
def chainBackCard : Claim7 := { stood := { row := chainBackRow, standIns := [], harness := (true, "4f000875deff8ffa5058a86f070fd97dd52d7001577f43229651221e75a0372d"), looks := false }, kinds := [], alts := [], laidByText := true, laidKinds := [.data, .data, .data], laidTests := true, laidLooks := .later }
def ChainBackCardSaid : Prop := Claim7.holds Tryd.pinned (.plain (OpenSpec.ofChange chainBackSpec)) chainBackCard

/-- THE SECOND FORM's CARD OF 'kilnlaw6.ChainBytes'. -/
def chainBytesUptoCard : Claim7 := { stood := { row := chainBytesUptoRow, standIns := [], harness := (true, "4f000875deff8ffa5058a86f070fd97dd52d7001577f43229651221e75a0372d"), looks := false }, kinds := [], alts := [], laidByText := true, laidKinds := [.data, .data, .data, .data], laidTests := true, laidLooks := .later }
def ChainBytesUptoCardSaid : Prop := Claim7.holds Tryd.pinned (.plain (OpenSpec.upto chainBytesSpec)) chainBytesUptoCard

/-- THE SECOND FORM's CARD OF 'kilnlaw6.ChainGreat'. -/
def chainGreatUptoCard : Claim7 := { stood := { row := chainGreatUptoRow, standIns := [], harness := (true, "4f000875deff8ffa5058a86f070fd97dd52d7001577f43229651221e75a0372d"), looks := false }, kinds := [], alts := [], laidByText := true, laidKinds := [.data, .data, .data, .data], laidTests := true, laidLooks := .later }
def ChainGreatUptoCardSaid : Prop := Claim7.holds Tryd.pinned (.plain (OpenSpec.upto chainGreatSpec)) chainGreatUptoCard

/-- THE SECOND FORM's CARD OF 'kilnlaw6.ChainBack'. -/
def chainBackUptoCard : Claim7 := { stood := { row := chainBackUptoRow, standIns := [], harness := (true, "4f000875deff8ffa5058a86f070fd97dd52d7001577f43229651221e75a0372d"), looks := false }, kinds := [], alts := [], laidByText := true, laidKinds := [.data, .data, .data], laidTests := true, laidLooks := .later }
def ChainBackUptoCardSaid : Prop := Claim7.holds Tryd.pinned (.plain (OpenSpec.upto chainBackSpec)) chainBackUptoCard
end Rows
end Go.Proofs.YtdafiobonhikiaaDoor
