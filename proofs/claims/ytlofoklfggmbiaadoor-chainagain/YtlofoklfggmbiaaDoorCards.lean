/-
  DERIVED. GIVEN WITH THE SEED: THE CARDS: each row of YtlofoklfggmbiaaDoorRows.lean that lists a variable, with what it lists TIED to the program's text (the seventh form; the later family's looks); each row that meets fmt, with fmt's text TOLD by the authors' own Lean function (tested against real Go, not proved from fmt's source: count such statements apart). THE CARD IS WHAT COUNTS. Prove the row's statement (the work); the ties are given (YtlofoklfggmbiaaDoorTie.lean); close each card by the builder's one call (the guide's Derived/Test/ToyasCard.lean, 'card_holds'). Laid BY PROGRAM, IN A SANDBOX (cutbox-door.mjs). By AI agents, Wed Nov 11 2026. No macro, syntax, notation, axiom, sorry.
-/
import Derived.Test.YtlofoklfggmbiaaDoorRows
import GoSem.ClaimSeven
namespace Go.Proofs.YtlofoklfggmbiaaDoor
namespace Rows

/-- THE TIED CARD OF 'kilnlaw6.ChainTells'. -/
def chainTellsCard : Claim7 := { stood := { row := chainTellsRow, standIns := [], harness := (true, "70dd801b573c796a775254cb05a25a519defcd1e5fe240cc4f8f2d18555df0fa"), looks := false }, kinds := [], alts := [], laidByText := true, laidKinds := [.data, .data, .data], laidTests := true, laidLooks := .later }
def ChainTellsCardSaid : Prop := Claim7.holds Tryd.pinned (.plain (OpenSpec.ofChange chainTellsSpec)) chainTellsCard

/-- THE TIED CARD OF 'kilnlaw6.ChainEnds'. -/
def chainEndsCard : Claim7 := { stood := { row := chainEndsRow, standIns := [], harness := (true, "70dd801b573c796a775254cb05a25a519defcd1e5fe240cc4f8f2d18555df0fa"), looks := false }, kinds := [], alts := [], laidByText := true, laidKinds := [.data, .data, .data, .data], laidTests := true, laidLooks := .later }
def ChainEndsCardSaid : Prop := Claim7.holds Tryd.pinned (.plain (OpenSpec.ofChange chainEndsSpec)) chainEndsCard

/-- THE TIED CARD OF 'kilnlaw6.ChainTurns'. -/
def chainTurnsCard : Claim7 := { stood := { row := chainTurnsRow, standIns := [], harness := (true, "70dd801b573c796a775254cb05a25a519defcd1e5fe240cc4f8f2d18555df0fa"), looks := false }, kinds := [], alts := [], laidByText := true, laidKinds := [.data, .data, .data, .data], laidTests := true, laidLooks := .later }
def ChainTurnsCardSaid : Prop := Claim7.holds Tryd.pinned (.plain (OpenSpec.ofChange chainTurnsSpec)) chainTurnsCard

/-- THE TIED CARD OF 'kilnlaw6.ChainAgain'. -/
def chainAgainCard : Claim7 := { stood := { row := chainAgainRow, standIns := [], harness := (true, "70dd801b573c796a775254cb05a25a519defcd1e5fe240cc4f8f2d18555df0fa"), looks := false }, kinds := [], alts := [], laidByText := true, laidKinds := [.data, .data, .data, .data], laidTests := true, laidLooks := .later }
def ChainAgainCardSaid : Prop := Claim7.holds Tryd.pinned (.plain (OpenSpec.ofChange chainAgainSpec)) chainAgainCard

/-- THE TIED CARD OF 'kilnlaw6.ChainLent'. -/
def chainLentCard : Claim7 := { stood := { row := chainLentRow, standIns := [], harness := (true, "70dd801b573c796a775254cb05a25a519defcd1e5fe240cc4f8f2d18555df0fa"), looks := false }, kinds := [], alts := [], laidByText := true, laidKinds := [.data, .data, .data, .data], laidTests := true, laidLooks := .later }
def ChainLentCardSaid : Prop := Claim7.holds Tryd.pinned (.plain (OpenSpec.ofChange chainLentSpec)) chainLentCard

/-- THE SECOND FORM's CARD OF 'kilnlaw6.ChainTells'. -/
def chainTellsUptoCard : Claim7 := { stood := { row := chainTellsUptoRow, standIns := [], harness := (true, "70dd801b573c796a775254cb05a25a519defcd1e5fe240cc4f8f2d18555df0fa"), looks := false }, kinds := [], alts := [], laidByText := true, laidKinds := [.data, .data, .data], laidTests := true, laidLooks := .later }
def ChainTellsUptoCardSaid : Prop := Claim7.holds Tryd.pinned (.plain (OpenSpec.upto chainTellsSpec)) chainTellsUptoCard

/-- THE SECOND FORM's CARD OF 'kilnlaw6.ChainEnds'. -/
def chainEndsUptoCard : Claim7 := { stood := { row := chainEndsUptoRow, standIns := [], harness := (true, "70dd801b573c796a775254cb05a25a519defcd1e5fe240cc4f8f2d18555df0fa"), looks := false }, kinds := [], alts := [], laidByText := true, laidKinds := [.data, .data, .data, .data], laidTests := true, laidLooks := .later }
def ChainEndsUptoCardSaid : Prop := Claim7.holds Tryd.pinned (.plain (OpenSpec.upto chainEndsSpec)) chainEndsUptoCard

/-- THE SECOND FORM's CARD OF 'kilnlaw6.ChainTurns'. -/
def chainTurnsUptoCard : Claim7 := { stood := { row := chainTurnsUptoRow, standIns := [], harness := (true, "70dd801b573c796a775254cb05a25a519defcd1e5fe240cc4f8f2d18555df0fa"), looks := false }, kinds := [], alts := [], laidByText := true, laidKinds := [.data, .data, .data, .data], laidTests := true, laidLooks := .later }
def ChainTurnsUptoCardSaid : Prop := Claim7.holds Tryd.pinned (.plain (OpenSpec.upto chainTurnsSpec)) chainTurnsUptoCard

/-- THE SECOND FORM's CARD OF 'kilnlaw6.ChainAgain'. -/
def chainAgainUptoCard : Claim7 := { stood := { row := chainAgainUptoRow, standIns := [], harness := (true, "70dd801b573c796a775254cb05a25a519defcd1e5fe240cc4f8f2d18555df0fa"), looks := false }, kinds := [], alts := [], laidByText := true, laidKinds := [.data, .data, .data, .data], laidTests := true, laidLooks := .later }
def ChainAgainUptoCardSaid : Prop := Claim7.holds Tryd.pinned (.plain (OpenSpec.upto chainAgainSpec)) chainAgainUptoCard

/-- THE SECOND FORM's CARD OF 'kilnlaw6.ChainLent'. -/
def chainLentUptoCard : Claim7 := { stood := { row := chainLentUptoRow, standIns := [], harness := (true, "70dd801b573c796a775254cb05a25a519defcd1e5fe240cc4f8f2d18555df0fa"), looks := false }, kinds := [], alts := [], laidByText := true, laidKinds := [.data, .data, .data, .data], laidTests := true, laidLooks := .later }
def ChainLentUptoCardSaid : Prop := Claim7.holds Tryd.pinned (.plain (OpenSpec.upto chainLentSpec)) chainLentUptoCard
end Rows
end Go.Proofs.YtlofoklfggmbiaaDoor
