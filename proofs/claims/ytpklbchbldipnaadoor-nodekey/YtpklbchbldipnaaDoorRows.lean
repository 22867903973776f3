/-
  NARROWER THAN 'FOR EVERY INPUT', by the rows' own cells (each row's printed sentence says how): NodeWrites: laid · NodeReads: laid · NodeMany: laid · NodeLong: laid · NodeBack: laid · NodeKey: laid.
  DERIVED. THE GIVEN ROWS OF THIS SEAT. 6 by the template 'for every input the law returns true; each argument reads behind the call as it read before'; 0 by the template 'total and deterministic' (their statements: YtpklbchbldipnaaDoorTotals.lean).
  GIVEN WITH THE SEED: the statements are not yours to turn. If you find one false, say at which input.
  Laid BY PROGRAM, IN A SANDBOX (cutbox-rows.mjs): the forced cells as the released guide's own fill.sh prints them over the translation aa9d35bba7ac3df8… (all of the seat's roots in one cut). By AI agents, Wed Nov 11 2026. No macro, syntax, notation, axiom, sorry.
-/
import Derived.Test.YtpklbchbldipnaaDoorChecked
import GoSem.Claim
import GoSem.ClaimJoined
import GoSem.ClaimMapViews
import Derived.JoinedTies
import Derived.KernelRfl
namespace Go.Proofs.YtpklbchbldipnaaDoor
/- THE CELL 'sum', in the pinned program and in every row, IS THE sha256 OF THE DUMP (.gsa) THAT YtpklbchbldipnaaDoorProg.lean LOADS. Nothing in Lean hashes anything: it is a label: what it is worth is what the hold of that sum in a sandbox is worth. -/
noncomputable def Tryd.pinned : Pinned := { name := "ytpklbchbldipnaadoor", sum := "aa9d35bba7ac3df8e5ead040b9fdd60252e479f3eba334dabc086c118b5f86e5", checked := Tryd.checked }
namespace Rows
def none {H : Type} : Left H := { results := [], args := [] }

/- WHAT THE LISTED PACKAGE-LEVEL VARIABLES READ AS WHEN THE CALL BEGINS. Each datum BY PROGRAM (the guide's laid-datum.mjs) off the statement by which the dump's own 'gosem.cut.vars' lays the variable. In a bare row this is a premise. The card (YtpklbchbldipnaaDoorCards.lean) ties it to the program's text. -/
def laid_kiln_sha_startWords {H : Type} : DataW H := .agg [.lit (.int .u32 1779033703), .lit (.int .u32 3144134277), .lit (.int .u32 1013904242), .lit (.int .u32 2773480762), .lit (.int .u32 1359893119), .lit (.int .u32 2600822924), .lit (.int .u32 528734635), .lit (.int .u32 1541459225)]
def laid_kiln_sha_roundWords {H : Type} : DataW H := .agg [.lit (.int .u32 1116352408), .lit (.int .u32 1899447441), .lit (.int .u32 3049323471), .lit (.int .u32 3921009573), .lit (.int .u32 961987163), .lit (.int .u32 1508970993), .lit (.int .u32 2453635748), .lit (.int .u32 2870763221), .lit (.int .u32 3624381080), .lit (.int .u32 310598401), .lit (.int .u32 607225278), .lit (.int .u32 1426881987), .lit (.int .u32 1925078388), .lit (.int .u32 2162078206), .lit (.int .u32 2614888103), .lit (.int .u32 3248222580), .lit (.int .u32 3835390401), .lit (.int .u32 4022224774), .lit (.int .u32 264347078), .lit (.int .u32 604807628), .lit (.int .u32 770255983), .lit (.int .u32 1249150122), .lit (.int .u32 1555081692), .lit (.int .u32 1996064986), .lit (.int .u32 2554220882), .lit (.int .u32 2821834349), .lit (.int .u32 2952996808), .lit (.int .u32 3210313671), .lit (.int .u32 3336571891), .lit (.int .u32 3584528711), .lit (.int .u32 113926993), .lit (.int .u32 338241895), .lit (.int .u32 666307205), .lit (.int .u32 773529912), .lit (.int .u32 1294757372), .lit (.int .u32 1396182291), .lit (.int .u32 1695183700), .lit (.int .u32 1986661051), .lit (.int .u32 2177026350), .lit (.int .u32 2456956037), .lit (.int .u32 2730485921), .lit (.int .u32 2820302411), .lit (.int .u32 3259730800), .lit (.int .u32 3345764771), .lit (.int .u32 3516065817), .lit (.int .u32 3600352804), .lit (.int .u32 4094571909), .lit (.int .u32 275423344), .lit (.int .u32 430227734), .lit (.int .u32 506948616), .lit (.int .u32 659060556), .lit (.int .u32 883997877), .lit (.int .u32 958139571), .lit (.int .u32 1322822218), .lit (.int .u32 1537002063), .lit (.int .u32 1747873779), .lit (.int .u32 1955562222), .lit (.int .u32 2024104815), .lit (.int .u32 2227730452), .lit (.int .u32 2361852424), .lit (.int .u32 2428436474), .lit (.int .u32 2756734187), .lit (.int .u32 3204031479), .lit (.int .u32 3329325298)]

/-- 'kilnlaw8.NodeWrites': WHATEVER THE INPUT: true; the input reads as it did. -/
def nodeWritesSpec : ChangeSpec := { name := "nodeWrites", fn := fun _ => fun
  | [d] => { results := [.lit (.bool true)], args := [d] }
  | _ => none }
def nodeWritesRow : OpenClaim := { program := "ytpklbchbldipnaadoor", sum := "aa9d35bba7ac3df8e5ead040b9fdd60252e479f3eba334dabc086c118b5f86e5", func := "kiln/kilnlaw8.NodeWrites", spec := "nodeWrites", inPlace := ["internal/bytealg.IndexByteString", "internal/bytealg.IndexString"], unfollowed := true, recurses := true, named := ["internal/bytealg.MaxLen", "kiln/sha.startWords", "kiln/sha.roundWords"], apart := false, laid := [("kiln/sha.startWords", laid_kiln_sha_startWords), ("kiln/sha.roundWords", laid_kiln_sha_roundWords)] }
def NodeWritesSaid : Prop := nodeWritesRow.holds Tryd.pinned (OpenSpec.ofChange nodeWritesSpec)

/-- ITS FALSE NEIGHBOUR: 'it returns false'. Refute it at one input. -/
def nodeWritesWrong : ChangeSpec := { name := "nodeWrites", fn := fun _ => fun
  | [d] => { results := [.lit (.bool false)], args := [d] }
  | _ => none }
def NodeWritesWrongFalsely : Prop := nodeWritesRow.holds Tryd.pinned (OpenSpec.ofChange nodeWritesWrong)

/-- 'kilnlaw8.NodeReads': WHATEVER THE INPUT: true; the input reads as it did. -/
def nodeReadsSpec : ChangeSpec := { name := "nodeReads", fn := fun _ => fun
  | [d] => { results := [.lit (.bool true)], args := [d] }
  | _ => none }
def nodeReadsRow : OpenClaim := { program := "ytpklbchbldipnaadoor", sum := "aa9d35bba7ac3df8e5ead040b9fdd60252e479f3eba334dabc086c118b5f86e5", func := "kiln/kilnlaw8.NodeReads", spec := "nodeReads", inPlace := ["internal/bytealg.IndexByteString", "internal/bytealg.IndexString"], unfollowed := true, recurses := true, named := ["internal/bytealg.MaxLen", "kiln/sha.startWords", "kiln/sha.roundWords"], apart := false, laid := [("kiln/sha.startWords", laid_kiln_sha_startWords), ("kiln/sha.roundWords", laid_kiln_sha_roundWords)] }
def NodeReadsSaid : Prop := nodeReadsRow.holds Tryd.pinned (OpenSpec.ofChange nodeReadsSpec)

/-- ITS FALSE NEIGHBOUR: 'it returns false'. Refute it at one input. -/
def nodeReadsWrong : ChangeSpec := { name := "nodeReads", fn := fun _ => fun
  | [d] => { results := [.lit (.bool false)], args := [d] }
  | _ => none }
def NodeReadsWrongFalsely : Prop := nodeReadsRow.holds Tryd.pinned (OpenSpec.ofChange nodeReadsWrong)

/-- 'kilnlaw8.NodeMany': WHATEVER THE INPUT: true; the input reads as it did. -/
def nodeManySpec : ChangeSpec := { name := "nodeMany", fn := fun _ => fun
  | [d1, d2] => { results := [.lit (.bool true)], args := [d1, d2] }
  | _ => none }
def nodeManyRow : OpenClaim := { program := "ytpklbchbldipnaadoor", sum := "aa9d35bba7ac3df8e5ead040b9fdd60252e479f3eba334dabc086c118b5f86e5", func := "kiln/kilnlaw8.NodeMany", spec := "nodeMany", inPlace := ["internal/bytealg.IndexByteString", "internal/bytealg.IndexString"], unfollowed := true, recurses := true, named := ["internal/bytealg.MaxLen", "kiln/sha.startWords", "kiln/sha.roundWords"], apart := false, laid := [("kiln/sha.startWords", laid_kiln_sha_startWords), ("kiln/sha.roundWords", laid_kiln_sha_roundWords)] }
def NodeManySaid : Prop := nodeManyRow.holds Tryd.pinned (OpenSpec.ofChange nodeManySpec)

/-- ITS FALSE NEIGHBOUR: 'it returns false'. Refute it at one input. -/
def nodeManyWrong : ChangeSpec := { name := "nodeMany", fn := fun _ => fun
  | [d1, d2] => { results := [.lit (.bool false)], args := [d1, d2] }
  | _ => none }
def NodeManyWrongFalsely : Prop := nodeManyRow.holds Tryd.pinned (OpenSpec.ofChange nodeManyWrong)

/-- 'kilnlaw8.NodeLong': WHATEVER THE INPUT: true; the input reads as it did. -/
def nodeLongSpec : ChangeSpec := { name := "nodeLong", fn := fun _ => fun
  | [d] => { results := [.lit (.bool true)], args := [d] }
  | _ => none }
def nodeLongRow : OpenClaim := { program := "ytpklbchbldipnaadoor", sum := "aa9d35bba7ac3df8e5ead040b9fdd60252e479f3eba334dabc086c118b5f86e5", func := "kiln/kilnlaw8.NodeLong", spec := "nodeLong", inPlace := ["internal/bytealg.IndexByteString", "internal/bytealg.IndexString"], unfollowed := true, recurses := true, named := ["internal/bytealg.MaxLen", "kiln/sha.startWords", "kiln/sha.roundWords"], apart := false, laid := [("kiln/sha.startWords", laid_kiln_sha_startWords), ("kiln/sha.roundWords", laid_kiln_sha_roundWords)] }
def NodeLongSaid : Prop := nodeLongRow.holds Tryd.pinned (OpenSpec.ofChange nodeLongSpec)

/-- ITS FALSE NEIGHBOUR: 'it returns false'. Refute it at one input. -/
def nodeLongWrong : ChangeSpec := { name := "nodeLong", fn := fun _ => fun
  | [d] => { results := [.lit (.bool false)], args := [d] }
  | _ => none }
def NodeLongWrongFalsely : Prop := nodeLongRow.holds Tryd.pinned (OpenSpec.ofChange nodeLongWrong)

/-- 'kilnlaw8.NodeBack': WHATEVER THE INPUT: true; the input reads as it did. -/
def nodeBackSpec : ChangeSpec := { name := "nodeBack", fn := fun _ => fun
  | [d1, d2, d3] => { results := [.lit (.bool true)], args := [d1, d2, d3] }
  | _ => none }
def nodeBackRow : OpenClaim := { program := "ytpklbchbldipnaadoor", sum := "aa9d35bba7ac3df8e5ead040b9fdd60252e479f3eba334dabc086c118b5f86e5", func := "kiln/kilnlaw8.NodeBack", spec := "nodeBack", inPlace := ["internal/bytealg.IndexByteString", "internal/bytealg.IndexString"], unfollowed := true, recurses := true, named := ["internal/bytealg.MaxLen", "kiln/sha.startWords", "kiln/sha.roundWords"], apart := false, laid := [("kiln/sha.startWords", laid_kiln_sha_startWords), ("kiln/sha.roundWords", laid_kiln_sha_roundWords)] }
def NodeBackSaid : Prop := nodeBackRow.holds Tryd.pinned (OpenSpec.ofChange nodeBackSpec)

/-- ITS FALSE NEIGHBOUR: 'it returns false'. Refute it at one input. -/
def nodeBackWrong : ChangeSpec := { name := "nodeBack", fn := fun _ => fun
  | [d1, d2, d3] => { results := [.lit (.bool false)], args := [d1, d2, d3] }
  | _ => none }
def NodeBackWrongFalsely : Prop := nodeBackRow.holds Tryd.pinned (OpenSpec.ofChange nodeBackWrong)

/-- 'kilnlaw8.NodeKey': WHATEVER THE INPUT: true; the input reads as it did. -/
def nodeKeySpec : ChangeSpec := { name := "nodeKey", fn := fun _ => fun
  | [d1, d2, d3, d4, d5] => { results := [.lit (.bool true)], args := [d1, d2, d3, d4, d5] }
  | _ => none }
def nodeKeyRow : OpenClaim := { program := "ytpklbchbldipnaadoor", sum := "aa9d35bba7ac3df8e5ead040b9fdd60252e479f3eba334dabc086c118b5f86e5", func := "kiln/kilnlaw8.NodeKey", spec := "nodeKey", inPlace := ["internal/bytealg.IndexByteString", "internal/bytealg.IndexString"], unfollowed := true, recurses := true, named := ["internal/bytealg.MaxLen", "kiln/sha.startWords", "kiln/sha.roundWords"], apart := false, laid := [("kiln/sha.startWords", laid_kiln_sha_startWords), ("kiln/sha.roundWords", laid_kiln_sha_roundWords)] }
def NodeKeySaid : Prop := nodeKeyRow.holds Tryd.pinned (OpenSpec.ofChange nodeKeySpec)

/-- ITS FALSE NEIGHBOUR: 'it returns false'. Refute it at one input. -/
def nodeKeyWrong : ChangeSpec := { name := "nodeKey", fn := fun _ => fun
  | [d1, d2, d3, d4, d5] => { results := [.lit (.bool false)], args := [d1, d2, d3, d4, d5] }
  | _ => none }
def NodeKeyWrongFalsely : Prop := nodeKeyRow.holds Tryd.pinned (OpenSpec.ofChange nodeKeyWrong)

/- THE SECOND FORM. 'bulk': how many values and letters a reading holds, each counted each time it is reached (what is shared counts as often as it is met; a slice's spare places count too). A statement '..UptoSaid' is the law's where the arguments, and the package variables that the reading takes, are together of bulk at most 1048576: NARROWER than '..Said'. Prove '..Said' where nothing that the law and all that it calls make is longer than what came in: it says more and counts as full. Else prove '..UptoSaid'. A law counts once. -/
mutual
def uptoBulk {H : Type} : DataW H → Nat
  | .lit (.string bytes) => bytes.length + 1
  | .lit _ => 1
  | .nil => 1
  | .ptr d => uptoBulk d + 1
  | .slice elems spare => uptoBulkAll elems + uptoBulkAll spare + 1
  | .agg parts => uptoBulkAll parts + 1
  | .iface _ d => uptoBulk d + 1
  | .map entries => uptoBulkEntries entries + 1
  | .held _ => 1
def uptoBulkAll {H : Type} : List (DataW H) → Nat
  | [] => 0
  | d :: r => uptoBulk d + uptoBulkAll r
def uptoBulkEntries {H : Type} : List (Lit × DataW H) → Nat
  | [] => 0
  | x :: r => uptoBulkEntry x + uptoBulkEntries r
def uptoBulkEntry {H : Type} : Lit × DataW H → Nat
  | (.string bytes, d) => bytes.length + uptoBulk d + 1
  | (_, d) => uptoBulk d + 1
 end
def uptoSmall : (H : Type) → List (DataW H) → Bool := fun _ ds => decide (uptoBulkAll ds ≤ 1048576)
def OpenSpec.upto (s : _root_.Go.ChangeSpec) : _root_.Go.OpenSpec := { _root_.Go.OpenSpec.ofChange s with cond := some uptoSmall }

/-- 'kilnlaw8.NodeWrites', WHERE WHAT IT READS IS OF BULK AT MOST 1048576: true; the input reads as it did. -/
def nodeWritesUptoRow : OpenClaim := { program := "ytpklbchbldipnaadoor", sum := "aa9d35bba7ac3df8e5ead040b9fdd60252e479f3eba334dabc086c118b5f86e5", func := "kiln/kilnlaw8.NodeWrites", spec := "nodeWrites", inPlace := ["internal/bytealg.IndexByteString", "internal/bytealg.IndexString"], unfollowed := true, recurses := true, named := ["internal/bytealg.MaxLen", "kiln/sha.startWords", "kiln/sha.roundWords"], apart := false, laid := [("kiln/sha.startWords", laid_kiln_sha_startWords), ("kiln/sha.roundWords", laid_kiln_sha_roundWords)], narrowed := true }
def NodeWritesUptoSaid : Prop := nodeWritesUptoRow.holds Tryd.pinned (OpenSpec.upto nodeWritesSpec)

/-- 'kilnlaw8.NodeReads', WHERE WHAT IT READS IS OF BULK AT MOST 1048576: true; the input reads as it did. -/
def nodeReadsUptoRow : OpenClaim := { program := "ytpklbchbldipnaadoor", sum := "aa9d35bba7ac3df8e5ead040b9fdd60252e479f3eba334dabc086c118b5f86e5", func := "kiln/kilnlaw8.NodeReads", spec := "nodeReads", inPlace := ["internal/bytealg.IndexByteString", "internal/bytealg.IndexString"], unfollowed := true, recurses := true, named := ["internal/bytealg.MaxLen", "kiln/sha.startWords", "kiln/sha.roundWords"], apart := false, laid := [("kiln/sha.startWords", laid_kiln_sha_startWords), ("kiln/sha.roundWords", laid_kiln_sha_roundWords)], narrowed := true }
def NodeReadsUptoSaid : Prop := nodeReadsUptoRow.holds Tryd.pinned (OpenSpec.upto nodeReadsSpec)

/-- 'kilnlaw8.NodeMany', WHERE WHAT IT READS IS OF BULK AT MOST 1048576: true; the input reads as it did. -/
def nodeManyUptoRow : OpenClaim := { program := "ytpklbchbldipnaadoor", sum := "aa9d35bba7ac3df8e5ead040b9fdd60252e479f3eba334dabc086c118b5f86e5", func := "kiln/kilnlaw8.NodeMany", spec := "nodeMany", inPlace := ["internal/bytealg.IndexByteString", "internal/bytealg.IndexString"], unfollowed := true, recurses := true, named := ["internal/bytealg.MaxLen", "kiln/sha.startWords", "kiln/sha.roundWords"], apart := false, laid := [("kiln/sha.startWords", laid_kiln_sha_startWords), ("kiln/sha.roundWords", laid_kiln_sha_roundWords)], narrowed := true }
def NodeManyUptoSaid : Prop := nodeManyUptoRow.holds Tryd.pinned (OpenSpec.upto nodeManySpec)

/-- 'kilnlaw8.NodeLong', WHERE WHAT IT READS IS OF BULK AT MOST 1048576: true; the input reads as it did. -/
def nodeLongUptoRow : OpenClaim := { program := "ytpklbchbldipnaadoor", sum := "aa9d35bba7ac3df8e5ead040b9fdd60252e479f3eba334dabc086c118b5f86e5", func := "kiln/kilnlaw8.NodeLong", spec := "nodeLong", inPlace := ["internal/bytealg.IndexByteString", "internal/bytealg.IndexString"], unfollowed := true, recurses := true, named := ["internal/bytealg.MaxLen", "kiln/sha.startWords", "kiln/sha.roundWords"], apart := false, laid := [("kiln/sha.startWords", laid_kiln_sha_startWords), ("kiln/sha.roundWords", laid_kiln_sha_roundWords)], narrowed := true }
def NodeLongUptoSaid : Prop := nodeLongUptoRow.holds Tryd.pinned (OpenSpec.upto nodeLongSpec)

/-- 'kilnlaw8.NodeBack', WHERE WHAT IT READS IS OF BULK AT MOST 1048576: true; the input reads as it did. -/
def nodeBackUptoRow : OpenClaim := { program := "ytpklbchbldipnaadoor", sum := "aa9d35bba7ac3df8e5ead040b9fdd60252e479f3eba334dabc086c118b5f86e5", func := "kiln/kilnlaw8.NodeBack", spec := "nodeBack", inPlace := ["internal/bytealg.IndexByteString", "internal/bytealg.IndexString"], unfollowed := true, recurses := true, named := ["internal/bytealg.MaxLen", "kiln/sha.startWords", "kiln/sha.roundWords"], apart := false, laid := [("kiln/sha.startWords", laid_kiln_sha_startWords), ("kiln/sha.roundWords", laid_kiln_sha_roundWords)], narrowed := true }
def NodeBackUptoSaid : Prop := nodeBackUptoRow.holds Tryd.pinned (OpenSpec.upto nodeBackSpec)

/-- 'kilnlaw8.NodeKey', WHERE WHAT IT READS IS OF BULK AT MOST 1048576: true; the input reads as it did. -/
def nodeKeyUptoRow : OpenClaim := { program := "ytpklbchbldipnaadoor", sum := "aa9d35bba7ac3df8e5ead040b9fdd60252e479f3eba334dabc086c118b5f86e5", func := "kiln/kilnlaw8.NodeKey", spec := "nodeKey", inPlace := ["internal/bytealg.IndexByteString", "internal/bytealg.IndexString"], unfollowed := true, recurses := true, named := ["internal/bytealg.MaxLen", "kiln/sha.startWords", "kiln/sha.roundWords"], apart := false, laid := [("kiln/sha.startWords", laid_kiln_sha_startWords), ("kiln/sha.roundWords", laid_kiln_sha_roundWords)], narrowed := true }
def NodeKeyUptoSaid : Prop := nodeKeyUptoRow.holds Tryd.pinned (OpenSpec.upto nodeKeySpec)

end Rows
end Go.Proofs.YtpklbchbldipnaaDoor
