/-
  No cell of these rows narrows 'for every input' (looked for: loops, veiled, ifaces, maps, wideKeys, modest, calm, conditions, laid).
  DERIVED. THE GIVEN ROWS OF THIS SEAT. 5 by the template 'for every input the law returns true; each argument reads behind the call as it read before'; 0 by the template 'total and deterministic' (their statements: YtcdilcjgmcamcabTotals.lean).
  GIVEN WITH THE SEED: the statements are not yours to turn. If you find one false, say at which input.
  Laid BY PROGRAM, IN A SANDBOX (cutbox-rows.mjs): the forced cells as the released guide's own fill.sh prints them over the translation c46f7c79ec1b1d08… (all of the seat's roots in one cut). By AI agents, Wed Nov 11 2026. No macro, syntax, notation, axiom, sorry.
-/
import Derived.Test.YtcdilcjgmcamcabChecked
import GoSem.Claim
import GoSem.ClaimJoined
import GoSem.ClaimMapViews
import Derived.JoinedTies
import Derived.KernelRfl
namespace Go.Proofs.Ytcdilcjgmcamcab
/- THE CELL 'sum', in the pinned program and in every row, IS THE sha256 OF THE DUMP (.gsa) THAT YtcdilcjgmcamcabProg.lean LOADS. Nothing in Lean hashes anything: it is a label: what it is worth is what the hold of that sum in a sandbox is worth. -/
noncomputable def Try.pinned : Pinned := { name := "ytcdilcjgmcamcab", sum := "c46f7c79ec1b1d08a76b9682d465b053eb0307b450c9aeeca714de683d187524", checked := Try.checked }
namespace Rows
def none {H : Type} : Left H := { results := [], args := [] }

/-- 'kilnlaw11.TokenParts': WHATEVER THE INPUT: true; the input reads as it did. -/
def tokenPartsSpec : ChangeSpec := { name := "tokenParts", fn := fun _ => fun
  | [d1, d2] => { results := [.lit (.bool true)], args := [d1, d2] }
  | _ => none }
def tokenPartsRow : OpenClaim := { program := "ytcdilcjgmcamcab", sum := "c46f7c79ec1b1d08a76b9682d465b053eb0307b450c9aeeca714de683d187524", func := "kiln/kilnlaw11.TokenParts", spec := "tokenParts", inPlace := ["internal/abi.NoEscape", "internal/bytealg.MakeNoZero"], apart := false }
def TokenPartsSaid : Prop := tokenPartsRow.holds Try.pinned (OpenSpec.ofChange tokenPartsSpec)

/-- ITS FALSE NEIGHBOUR: 'it returns false'. Refute it at one input. -/
def tokenPartsWrong : ChangeSpec := { name := "tokenParts", fn := fun _ => fun
  | [d1, d2] => { results := [.lit (.bool false)], args := [d1, d2] }
  | _ => none }
def TokenPartsWrongFalsely : Prop := tokenPartsRow.holds Try.pinned (OpenSpec.ofChange tokenPartsWrong)

/-- 'kilnlaw11.TokenQuote': WHATEVER THE INPUT: true; the input reads as it did. -/
def tokenQuoteSpec : ChangeSpec := { name := "tokenQuote", fn := fun _ => fun
  | [d] => { results := [.lit (.bool true)], args := [d] }
  | _ => none }
def tokenQuoteRow : OpenClaim := { program := "ytcdilcjgmcamcab", sum := "c46f7c79ec1b1d08a76b9682d465b053eb0307b450c9aeeca714de683d187524", func := "kiln/kilnlaw11.TokenQuote", spec := "tokenQuote", inPlace := ["internal/abi.NoEscape", "internal/bytealg.MakeNoZero"], apart := false }
def TokenQuoteSaid : Prop := tokenQuoteRow.holds Try.pinned (OpenSpec.ofChange tokenQuoteSpec)

/-- ITS FALSE NEIGHBOUR: 'it returns false'. Refute it at one input. -/
def tokenQuoteWrong : ChangeSpec := { name := "tokenQuote", fn := fun _ => fun
  | [d] => { results := [.lit (.bool false)], args := [d] }
  | _ => none }
def TokenQuoteWrongFalsely : Prop := tokenQuoteRow.holds Try.pinned (OpenSpec.ofChange tokenQuoteWrong)

/-- 'kilnlaw11.TokenFirst': WHATEVER THE INPUT: true; the input reads as it did. -/
def tokenFirstSpec : ChangeSpec := { name := "tokenFirst", fn := fun _ => fun
  | [d1, d2, d3] => { results := [.lit (.bool true)], args := [d1, d2, d3] }
  | _ => none }
def tokenFirstRow : OpenClaim := { program := "ytcdilcjgmcamcab", sum := "c46f7c79ec1b1d08a76b9682d465b053eb0307b450c9aeeca714de683d187524", func := "kiln/kilnlaw11.TokenFirst", spec := "tokenFirst", inPlace := ["internal/abi.NoEscape", "internal/bytealg.MakeNoZero"], apart := false }
def TokenFirstSaid : Prop := tokenFirstRow.holds Try.pinned (OpenSpec.ofChange tokenFirstSpec)

/-- ITS FALSE NEIGHBOUR: 'it returns false'. Refute it at one input. -/
def tokenFirstWrong : ChangeSpec := { name := "tokenFirst", fn := fun _ => fun
  | [d1, d2, d3] => { results := [.lit (.bool false)], args := [d1, d2, d3] }
  | _ => none }
def TokenFirstWrongFalsely : Prop := tokenFirstRow.holds Try.pinned (OpenSpec.ofChange tokenFirstWrong)

/-- 'kilnlaw11.TokenAgain': WHATEVER THE INPUT: true; the input reads as it did. -/
def tokenAgainSpec : ChangeSpec := { name := "tokenAgain", fn := fun _ => fun
  | [d1, d2, d3] => { results := [.lit (.bool true)], args := [d1, d2, d3] }
  | _ => none }
def tokenAgainRow : OpenClaim := { program := "ytcdilcjgmcamcab", sum := "c46f7c79ec1b1d08a76b9682d465b053eb0307b450c9aeeca714de683d187524", func := "kiln/kilnlaw11.TokenAgain", spec := "tokenAgain", inPlace := ["internal/abi.NoEscape", "internal/bytealg.MakeNoZero"], apart := false }
def TokenAgainSaid : Prop := tokenAgainRow.holds Try.pinned (OpenSpec.ofChange tokenAgainSpec)

/-- ITS FALSE NEIGHBOUR: 'it returns false'. Refute it at one input. -/
def tokenAgainWrong : ChangeSpec := { name := "tokenAgain", fn := fun _ => fun
  | [d1, d2, d3] => { results := [.lit (.bool false)], args := [d1, d2, d3] }
  | _ => none }
def TokenAgainWrongFalsely : Prop := tokenAgainRow.holds Try.pinned (OpenSpec.ofChange tokenAgainWrong)

/-- 'kilnlaw11.TokenLent': WHATEVER THE INPUT: true; the input reads as it did. -/
def tokenLentSpec : ChangeSpec := { name := "tokenLent", fn := fun _ => fun
  | [d] => { results := [.lit (.bool true)], args := [d] }
  | _ => none }
def tokenLentRow : OpenClaim := { program := "ytcdilcjgmcamcab", sum := "c46f7c79ec1b1d08a76b9682d465b053eb0307b450c9aeeca714de683d187524", func := "kiln/kilnlaw11.TokenLent", spec := "tokenLent", inPlace := ["internal/abi.NoEscape", "internal/bytealg.MakeNoZero"], apart := false }
def TokenLentSaid : Prop := tokenLentRow.holds Try.pinned (OpenSpec.ofChange tokenLentSpec)

/-- ITS FALSE NEIGHBOUR: 'it returns false'. Refute it at one input. -/
def tokenLentWrong : ChangeSpec := { name := "tokenLent", fn := fun _ => fun
  | [d] => { results := [.lit (.bool false)], args := [d] }
  | _ => none }
def TokenLentWrongFalsely : Prop := tokenLentRow.holds Try.pinned (OpenSpec.ofChange tokenLentWrong)

/- THE SECOND FORM. 'bulk': how many values and letters a reading holds, each counted each time it is reached (what is shared counts as often as it is met; a slice's spare places count too). A statement '..UptoSaid' is the law's where the arguments, and the package variables that the reading takes, are together of bulk at most 1048576: NARROWER than '..Said'. Prove '..Said' where nothing that the law and all that it calls make is longer than what came in: it says more and counts as full. Else prove '..UptoSaid'. A law counts once. -/
mutual
def uptoBulk {H : Type} : DataW H → Nat
  | .lit (.string bytes) => bytes.length + 1
  | .lit _ => 1
  | .nil => 1
  | .ptr d => uptoBulk d + 1
  | .slice elems spare => uptoBulkAll elems + uptoBulkAll spare + 1
  | .agg parts => uptoBulkAll parts + 1
  | .iface _ d => uptoBulk d + 1
  | .map entries => uptoBulkEntries entries + 1
  | .held _ => 1
def uptoBulkAll {H : Type} : List (DataW H) → Nat
  | [] => 0
  | d :: r => uptoBulk d + uptoBulkAll r
def uptoBulkEntries {H : Type} : List (Lit × DataW H) → Nat
  | [] => 0
  | x :: r => uptoBulkEntry x + uptoBulkEntries r
def uptoBulkEntry {H : Type} : Lit × DataW H → Nat
  | (.string bytes, d) => bytes.length + uptoBulk d + 1
  | (_, d) => uptoBulk d + 1
 end
def uptoSmall : (H : Type) → List (DataW H) → Bool := fun _ ds => decide (uptoBulkAll ds ≤ 1048576)
def OpenSpec.upto (s : _root_.Go.ChangeSpec) : _root_.Go.OpenSpec := { _root_.Go.OpenSpec.ofChange s with cond := some uptoSmall }

/-- 'kilnlaw11.TokenParts', WHERE WHAT IT READS IS OF BULK AT MOST 1048576: true; the input reads as it did. -/
def tokenPartsUptoRow : OpenClaim := { program := "ytcdilcjgmcamcab", sum := "c46f7c79ec1b1d08a76b9682d465b053eb0307b450c9aeeca714de683d187524", func := "kiln/kilnlaw11.TokenParts", spec := "tokenParts", inPlace := ["internal/abi.NoEscape", "internal/bytealg.MakeNoZero"], apart := false, narrowed := true }
def TokenPartsUptoSaid : Prop := tokenPartsUptoRow.holds Try.pinned (OpenSpec.upto tokenPartsSpec)

/-- 'kilnlaw11.TokenQuote', WHERE WHAT IT READS IS OF BULK AT MOST 1048576: true; the input reads as it did. -/
def tokenQuoteUptoRow : OpenClaim := { program := "ytcdilcjgmcamcab", sum := "c46f7c79ec1b1d08a76b9682d465b053eb0307b450c9aeeca714de683d187524", func := "kiln/kilnlaw11.TokenQuote", spec := "tokenQuote", inPlace := ["internal/abi.NoEscape", "internal/bytealg.MakeNoZero"], apart := false, narrowed := true }
def TokenQuoteUptoSaid : Prop := tokenQuoteUptoRow.holds Try.pinned (OpenSpec.upto tokenQuoteSpec)

/-- 'kilnlaw11.TokenFirst', WHERE WHAT IT READS IS OF BULK AT MOST 1048576: true; the input reads as it did. -/
def tokenFirstUptoRow : OpenClaim := { program := "ytcdilcjgmcamcab", sum := "c46f7c79ec1b1d08a76b9682d465b053eb0307b450c9aeeca714de683d187524", func := "kiln/kilnlaw11.TokenFirst", spec := "tokenFirst", inPlace := ["internal/abi.NoEscape", "internal/bytealg.MakeNoZero"], apart := false, narrowed := true }
def TokenFirstUptoSaid : Prop := tokenFirstUptoRow.holds Try.pinned (OpenSpec.upto tokenFirstSpec)

/-- 'kilnlaw11.TokenAgain', WHERE WHAT IT READS IS OF BULK AT MOST 1048576: true; the input reads as it did. -/
def tokenAgainUptoRow : OpenClaim := { program := "ytcdilcjgmcamcab", sum := "c46f7c79ec1b1d08a76b9682d465b053eb0307b450c9aeeca714de683d187524", func := "kiln/kilnlaw11.TokenAgain", spec := "tokenAgain", inPlace := ["internal/abi.NoEscape", "internal/bytealg.MakeNoZero"], apart := false, narrowed := true }
def TokenAgainUptoSaid : Prop := tokenAgainUptoRow.holds Try.pinned (OpenSpec.upto tokenAgainSpec)

/-- 'kilnlaw11.TokenLent', WHERE WHAT IT READS IS OF BULK AT MOST 1048576: true; the input reads as it did. -/
def tokenLentUptoRow : OpenClaim := { program := "ytcdilcjgmcamcab", sum := "c46f7c79ec1b1d08a76b9682d465b053eb0307b450c9aeeca714de683d187524", func := "kiln/kilnlaw11.TokenLent", spec := "tokenLent", inPlace := ["internal/abi.NoEscape", "internal/bytealg.MakeNoZero"], apart := false, narrowed := true }
def TokenLentUptoSaid : Prop := tokenLentUptoRow.holds Try.pinned (OpenSpec.upto tokenLentSpec)

end Rows
end Go.Proofs.Ytcdilcjgmcamcab
