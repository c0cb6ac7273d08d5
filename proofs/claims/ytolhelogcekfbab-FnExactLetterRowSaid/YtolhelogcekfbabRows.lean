/-
  No cell of these rows narrows 'for every input' (looked for: loops, veiled, ifaces, maps, wideKeys, modest, calm, conditions, laid).
  DERIVED. THE GIVEN ROWS OF THIS SEAT. 11 by the template 'for every input the law returns true; each argument reads behind the call as it read before'; 0 by the template 'total and deterministic' (their statements: YtolhelogcekfbabTotals.lean).
  GIVEN WITH THE SEED: the statements are not yours to turn. If you find one false, say at which input.
  Laid BY PROGRAM, IN A SANDBOX (cutbox-rows.mjs): the forced cells as the released guide's own fill.sh prints them over the translation 164746e160cac29a… (all of the seat's roots in one cut). By AI agents, Wed Nov 11 2026. No macro, syntax, notation, axiom, sorry.
-/
import Derived.Test.YtolhelogcekfbabChecked
import GoSem.Claim
import GoSem.ClaimJoined
import GoSem.ClaimMapViews
import Derived.JoinedTies
import Derived.KernelRfl
namespace Go.Proofs.Ytolhelogcekfbab
/- THE CELL 'sum', in the pinned program and in every row, IS THE sha256 OF THE DUMP (.gsa) THAT YtolhelogcekfbabProg.lean LOADS. Nothing in Lean hashes anything: it is a label: what it is worth is what the hold of that sum in a sandbox is worth. -/
noncomputable def Try.pinned : Pinned := { name := "ytolhelogcekfbab", sum := "164746e160cac29abded3c3ac2a771f67fd5c1da8ec04bb7ae43b427cab4fd27", checked := Try.checked }
namespace Rows
def none {H : Type} : Left H := { results := [], args := [] }

/-- 'laws.FnExactSameSystem': WHATEVER THE INPUT: true; the input reads as it did. -/
def fnExactSameSystemSpec : ChangeSpec := { name := "fnExactSameSystem", fn := fun _ => fun
  | [d1, d2] => { results := [.lit (.bool true)], args := [d1, d2] }
  | _ => none }
def fnExactSameSystemRow : OpenClaim := { program := "ytolhelogcekfbab", sum := "164746e160cac29abded3c3ac2a771f67fd5c1da8ec04bb7ae43b427cab4fd27", func := "loop.example/g01143/laws.FnExactSameSystem", spec := "fnExactSameSystem", apart := false }
def FnExactSameSystemSaid : Prop := fnExactSameSystemRow.holds Try.pinned (OpenSpec.ofChange fnExactSameSystemSpec)

/-- ITS FALSE NEIGHBOUR: 'it returns false'. Refute it at one input. -/
def fnExactSameSystemWrong : ChangeSpec := { name := "fnExactSameSystem", fn := fun _ => fun
  | [d1, d2] => { results := [.lit (.bool false)], args := [d1, d2] }
  | _ => none }
def FnExactSameSystemWrongFalsely : Prop := fnExactSameSystemRow.holds Try.pinned (OpenSpec.ofChange fnExactSameSystemWrong)

/-- 'laws.FnExactSystemText': WHATEVER THE INPUT: true; the input reads as it did. -/
def fnExactSystemTextSpec : ChangeSpec := { name := "fnExactSystemText", fn := fun _ => fun
  | [d] => { results := [.lit (.bool true)], args := [d] }
  | _ => none }
def fnExactSystemTextRow : OpenClaim := { program := "ytolhelogcekfbab", sum := "164746e160cac29abded3c3ac2a771f67fd5c1da8ec04bb7ae43b427cab4fd27", func := "loop.example/g01143/laws.FnExactSystemText", spec := "fnExactSystemText", inPlace := ["internal/bytealg.IndexByteString", "internal/abi.NoEscape"], apart := false }
def FnExactSystemTextSaid : Prop := fnExactSystemTextRow.holds Try.pinned (OpenSpec.ofChange fnExactSystemTextSpec)

/-- ITS FALSE NEIGHBOUR: 'it returns false'. Refute it at one input. -/
def fnExactSystemTextWrong : ChangeSpec := { name := "fnExactSystemText", fn := fun _ => fun
  | [d] => { results := [.lit (.bool false)], args := [d] }
  | _ => none }
def FnExactSystemTextWrongFalsely : Prop := fnExactSystemTextRow.holds Try.pinned (OpenSpec.ofChange fnExactSystemTextWrong)

/-- 'laws.FnExactReadSystem': WHATEVER THE INPUT: true; the input reads as it did. -/
def fnExactReadSystemSpec : ChangeSpec := { name := "fnExactReadSystem", fn := fun _ => fun
  | [d] => { results := [.lit (.bool true)], args := [d] }
  | _ => none }
def fnExactReadSystemRow : OpenClaim := { program := "ytolhelogcekfbab", sum := "164746e160cac29abded3c3ac2a771f67fd5c1da8ec04bb7ae43b427cab4fd27", func := "loop.example/g01143/laws.FnExactReadSystem", spec := "fnExactReadSystem", inPlace := ["internal/bytealg.IndexByteString", "internal/bytealg.IndexString", "internal/abi.NoEscape"], unfollowed := true, recurses := true, named := ["internal/bytealg.MaxLen"], apart := false }
def FnExactReadSystemSaid : Prop := fnExactReadSystemRow.holds Try.pinned (OpenSpec.ofChange fnExactReadSystemSpec)

/-- ITS FALSE NEIGHBOUR: 'it returns false'. Refute it at one input. -/
def fnExactReadSystemWrong : ChangeSpec := { name := "fnExactReadSystem", fn := fun _ => fun
  | [d] => { results := [.lit (.bool false)], args := [d] }
  | _ => none }
def FnExactReadSystemWrongFalsely : Prop := fnExactReadSystemRow.holds Try.pinned (OpenSpec.ofChange fnExactReadSystemWrong)

/-- 'laws.FnExactHolds': WHATEVER THE INPUT: true; the input reads as it did. -/
def fnExactHoldsSpec : ChangeSpec := { name := "fnExactHolds", fn := fun _ => fun
  | [d1, d2] => { results := [.lit (.bool true)], args := [d1, d2] }
  | _ => none }
def fnExactHoldsRow : OpenClaim := { program := "ytolhelogcekfbab", sum := "164746e160cac29abded3c3ac2a771f67fd5c1da8ec04bb7ae43b427cab4fd27", func := "loop.example/g01143/laws.FnExactHolds", spec := "fnExactHolds", inPlace := ["internal/bytealg.IndexByteString", "internal/abi.NoEscape"], apart := false }
def FnExactHoldsSaid : Prop := fnExactHoldsRow.holds Try.pinned (OpenSpec.ofChange fnExactHoldsSpec)

/-- ITS FALSE NEIGHBOUR: 'it returns false'. Refute it at one input. -/
def fnExactHoldsWrong : ChangeSpec := { name := "fnExactHolds", fn := fun _ => fun
  | [d1, d2] => { results := [.lit (.bool false)], args := [d1, d2] }
  | _ => none }
def FnExactHoldsWrongFalsely : Prop := fnExactHoldsRow.holds Try.pinned (OpenSpec.ofChange fnExactHoldsWrong)

/-- 'laws.FnExactStripEnds': WHATEVER THE INPUT: true; the input reads as it did. -/
def fnExactStripEndsSpec : ChangeSpec := { name := "fnExactStripEnds", fn := fun _ => fun
  | [d] => { results := [.lit (.bool true)], args := [d] }
  | _ => none }
def fnExactStripEndsRow : OpenClaim := { program := "ytolhelogcekfbab", sum := "164746e160cac29abded3c3ac2a771f67fd5c1da8ec04bb7ae43b427cab4fd27", func := "loop.example/g01143/laws.FnExactStripEnds", spec := "fnExactStripEnds", inPlace := ["internal/bytealg.IndexByteString"], apart := false }
def FnExactStripEndsSaid : Prop := fnExactStripEndsRow.holds Try.pinned (OpenSpec.ofChange fnExactStripEndsSpec)

/-- ITS FALSE NEIGHBOUR: 'it returns false'. Refute it at one input. -/
def fnExactStripEndsWrong : ChangeSpec := { name := "fnExactStripEnds", fn := fun _ => fun
  | [d] => { results := [.lit (.bool false)], args := [d] }
  | _ => none }
def FnExactStripEndsWrongFalsely : Prop := fnExactStripEndsRow.holds Try.pinned (OpenSpec.ofChange fnExactStripEndsWrong)

/-- 'laws.FnExactClashOf': WHATEVER THE INPUT: true; the input reads as it did. -/
def fnExactClashOfSpec : ChangeSpec := { name := "fnExactClashOf", fn := fun _ => fun
  | [d] => { results := [.lit (.bool true)], args := [d] }
  | _ => none }
def fnExactClashOfRow : OpenClaim := { program := "ytolhelogcekfbab", sum := "164746e160cac29abded3c3ac2a771f67fd5c1da8ec04bb7ae43b427cab4fd27", func := "loop.example/g01143/laws.FnExactClashOf", spec := "fnExactClashOf", inPlace := ["internal/bytealg.IndexByteString", "internal/bytealg.IndexString"], named := ["internal/bytealg.MaxLen"], apart := false }
def FnExactClashOfSaid : Prop := fnExactClashOfRow.holds Try.pinned (OpenSpec.ofChange fnExactClashOfSpec)

/-- ITS FALSE NEIGHBOUR: 'it returns false'. Refute it at one input. -/
def fnExactClashOfWrong : ChangeSpec := { name := "fnExactClashOf", fn := fun _ => fun
  | [d] => { results := [.lit (.bool false)], args := [d] }
  | _ => none }
def FnExactClashOfWrongFalsely : Prop := fnExactClashOfRow.holds Try.pinned (OpenSpec.ofChange fnExactClashOfWrong)

/-- 'laws.FnExactCombineEquations': WHATEVER THE INPUT: true; the input reads as it did. -/
def fnExactCombineEquationsSpec : ChangeSpec := { name := "fnExactCombineEquations", fn := fun _ => fun
  | [d1, d2] => { results := [.lit (.bool true)], args := [d1, d2] }
  | _ => none }
def fnExactCombineEquationsRow : OpenClaim := { program := "ytolhelogcekfbab", sum := "164746e160cac29abded3c3ac2a771f67fd5c1da8ec04bb7ae43b427cab4fd27", func := "loop.example/g01143/laws.FnExactCombineEquations", spec := "fnExactCombineEquations", inPlace := ["internal/bytealg.IndexByteString"], apart := false }
def FnExactCombineEquationsSaid : Prop := fnExactCombineEquationsRow.holds Try.pinned (OpenSpec.ofChange fnExactCombineEquationsSpec)

/-- ITS FALSE NEIGHBOUR: 'it returns false'. Refute it at one input. -/
def fnExactCombineEquationsWrong : ChangeSpec := { name := "fnExactCombineEquations", fn := fun _ => fun
  | [d1, d2] => { results := [.lit (.bool false)], args := [d1, d2] }
  | _ => none }
def FnExactCombineEquationsWrongFalsely : Prop := fnExactCombineEquationsRow.holds Try.pinned (OpenSpec.ofChange fnExactCombineEquationsWrong)

/-- 'laws.FnExactLengthRow': WHATEVER THE INPUT: true; the input reads as it did. -/
def fnExactLengthRowSpec : ChangeSpec := { name := "fnExactLengthRow", fn := fun _ => fun
  | [d] => { results := [.lit (.bool true)], args := [d] }
  | _ => none }
def fnExactLengthRowRow : OpenClaim := { program := "ytolhelogcekfbab", sum := "164746e160cac29abded3c3ac2a771f67fd5c1da8ec04bb7ae43b427cab4fd27", func := "loop.example/g01143/laws.FnExactLengthRow", spec := "fnExactLengthRow", inPlace := ["internal/bytealg.IndexByteString"], unfollowed := true, recurses := true, apart := false }
def FnExactLengthRowSaid : Prop := fnExactLengthRowRow.holds Try.pinned (OpenSpec.ofChange fnExactLengthRowSpec)

/-- ITS FALSE NEIGHBOUR: 'it returns false'. Refute it at one input. -/
def fnExactLengthRowWrong : ChangeSpec := { name := "fnExactLengthRow", fn := fun _ => fun
  | [d] => { results := [.lit (.bool false)], args := [d] }
  | _ => none }
def FnExactLengthRowWrongFalsely : Prop := fnExactLengthRowRow.holds Try.pinned (OpenSpec.ofChange fnExactLengthRowWrong)

/-- 'laws.FnExactLetterRow': WHATEVER THE INPUT: true; the input reads as it did. -/
def fnExactLetterRowSpec : ChangeSpec := { name := "fnExactLetterRow", fn := fun _ => fun
  | [d1, d2] => { results := [.lit (.bool true)], args := [d1, d2] }
  | _ => none }
def fnExactLetterRowRow : OpenClaim := { program := "ytolhelogcekfbab", sum := "164746e160cac29abded3c3ac2a771f67fd5c1da8ec04bb7ae43b427cab4fd27", func := "loop.example/g01143/laws.FnExactLetterRow", spec := "fnExactLetterRow", inPlace := ["internal/bytealg.IndexByteString", "internal/bytealg.IndexString"], unfollowed := true, recurses := true, named := ["internal/bytealg.MaxLen"], apart := false }
def FnExactLetterRowSaid : Prop := fnExactLetterRowRow.holds Try.pinned (OpenSpec.ofChange fnExactLetterRowSpec)

/-- ITS FALSE NEIGHBOUR: 'it returns false'. Refute it at one input. -/
def fnExactLetterRowWrong : ChangeSpec := { name := "fnExactLetterRow", fn := fun _ => fun
  | [d1, d2] => { results := [.lit (.bool false)], args := [d1, d2] }
  | _ => none }
def FnExactLetterRowWrongFalsely : Prop := fnExactLetterRowRow.holds Try.pinned (OpenSpec.ofChange fnExactLetterRowWrong)

/-- 'laws.FnExactLengthLists': WHATEVER THE INPUT: true; the input reads as it did. -/
def fnExactLengthListsSpec : ChangeSpec := { name := "fnExactLengthLists", fn := fun _ => fun
  | [d1, d2] => { results := [.lit (.bool true)], args := [d1, d2] }
  | _ => none }
def fnExactLengthListsRow : OpenClaim := { program := "ytolhelogcekfbab", sum := "164746e160cac29abded3c3ac2a771f67fd5c1da8ec04bb7ae43b427cab4fd27", func := "loop.example/g01143/laws.FnExactLengthLists", spec := "fnExactLengthLists", inPlace := ["internal/bytealg.IndexByteString", "internal/bytealg.IndexString"], unfollowed := true, recurses := true, named := ["internal/bytealg.MaxLen"], apart := false }
def FnExactLengthListsSaid : Prop := fnExactLengthListsRow.holds Try.pinned (OpenSpec.ofChange fnExactLengthListsSpec)

/-- ITS FALSE NEIGHBOUR: 'it returns false'. Refute it at one input. -/
def fnExactLengthListsWrong : ChangeSpec := { name := "fnExactLengthLists", fn := fun _ => fun
  | [d1, d2] => { results := [.lit (.bool false)], args := [d1, d2] }
  | _ => none }
def FnExactLengthListsWrongFalsely : Prop := fnExactLengthListsRow.holds Try.pinned (OpenSpec.ofChange fnExactLengthListsWrong)

/-- 'laws.FnExactIsNoProof': WHATEVER THE INPUT: true; the input reads as it did. -/
def fnExactIsNoProofSpec : ChangeSpec := { name := "fnExactIsNoProof", fn := fun _ => fun
  | [d1, d2] => { results := [.lit (.bool true)], args := [d1, d2] }
  | _ => none }
def fnExactIsNoProofRow : OpenClaim := { program := "ytolhelogcekfbab", sum := "164746e160cac29abded3c3ac2a771f67fd5c1da8ec04bb7ae43b427cab4fd27", func := "loop.example/g01143/laws.FnExactIsNoProof", spec := "fnExactIsNoProof", inPlace := ["internal/bytealg.IndexByteString"], unfollowed := true, recurses := true, apart := false }
def FnExactIsNoProofSaid : Prop := fnExactIsNoProofRow.holds Try.pinned (OpenSpec.ofChange fnExactIsNoProofSpec)

/-- ITS FALSE NEIGHBOUR: 'it returns false'. Refute it at one input. -/
def fnExactIsNoProofWrong : ChangeSpec := { name := "fnExactIsNoProof", fn := fun _ => fun
  | [d1, d2] => { results := [.lit (.bool false)], args := [d1, d2] }
  | _ => none }
def FnExactIsNoProofWrongFalsely : Prop := fnExactIsNoProofRow.holds Try.pinned (OpenSpec.ofChange fnExactIsNoProofWrong)

/- THE SECOND FORM. 'bulk': how many values and letters a reading holds, each counted each time it is reached (what is shared counts as often as it is met; a slice's spare places count too). A statement '..UptoSaid' is the law's where the arguments, and the package variables that the reading takes, are together of bulk at most 1048576: NARROWER than '..Said'. Prove '..Said' where nothing that the law and all that it calls make is longer than what came in: it says more and counts as full. Else prove '..UptoSaid'. A law counts once. -/
mutual
def uptoBulk {H : Type} : DataW H → Nat
  | .lit (.string bytes) => bytes.length + 1
  | .lit _ => 1
  | .nil => 1
  | .ptr d => uptoBulk d + 1
  | .slice elems spare => uptoBulkAll elems + uptoBulkAll spare + 1
  | .agg parts => uptoBulkAll parts + 1
  | .iface _ d => uptoBulk d + 1
  | .map entries => uptoBulkEntries entries + 1
  | .held _ => 1
def uptoBulkAll {H : Type} : List (DataW H) → Nat
  | [] => 0
  | d :: r => uptoBulk d + uptoBulkAll r
def uptoBulkEntries {H : Type} : List (Lit × DataW H) → Nat
  | [] => 0
  | x :: r => uptoBulkEntry x + uptoBulkEntries r
def uptoBulkEntry {H : Type} : Lit × DataW H → Nat
  | (.string bytes, d) => bytes.length + uptoBulk d + 1
  | (_, d) => uptoBulk d + 1
 end
def uptoSmall : (H : Type) → List (DataW H) → Bool := fun _ ds => decide (uptoBulkAll ds ≤ 1048576)
def OpenSpec.upto (s : _root_.Go.ChangeSpec) : _root_.Go.OpenSpec := { _root_.Go.OpenSpec.ofChange s with cond := some uptoSmall }

/-- 'laws.FnExactSameSystem', WHERE WHAT IT READS IS OF BULK AT MOST 1048576: true; the input reads as it did. -/
def fnExactSameSystemUptoRow : OpenClaim := { program := "ytolhelogcekfbab", sum := "164746e160cac29abded3c3ac2a771f67fd5c1da8ec04bb7ae43b427cab4fd27", func := "loop.example/g01143/laws.FnExactSameSystem", spec := "fnExactSameSystem", apart := false, narrowed := true }
def FnExactSameSystemUptoSaid : Prop := fnExactSameSystemUptoRow.holds Try.pinned (OpenSpec.upto fnExactSameSystemSpec)

/-- 'laws.FnExactSystemText', WHERE WHAT IT READS IS OF BULK AT MOST 1048576: true; the input reads as it did. -/
def fnExactSystemTextUptoRow : OpenClaim := { program := "ytolhelogcekfbab", sum := "164746e160cac29abded3c3ac2a771f67fd5c1da8ec04bb7ae43b427cab4fd27", func := "loop.example/g01143/laws.FnExactSystemText", spec := "fnExactSystemText", inPlace := ["internal/bytealg.IndexByteString", "internal/abi.NoEscape"], apart := false, narrowed := true }
def FnExactSystemTextUptoSaid : Prop := fnExactSystemTextUptoRow.holds Try.pinned (OpenSpec.upto fnExactSystemTextSpec)

/-- 'laws.FnExactReadSystem', WHERE WHAT IT READS IS OF BULK AT MOST 1048576: true; the input reads as it did. -/
def fnExactReadSystemUptoRow : OpenClaim := { program := "ytolhelogcekfbab", sum := "164746e160cac29abded3c3ac2a771f67fd5c1da8ec04bb7ae43b427cab4fd27", func := "loop.example/g01143/laws.FnExactReadSystem", spec := "fnExactReadSystem", inPlace := ["internal/bytealg.IndexByteString", "internal/bytealg.IndexString", "internal/abi.NoEscape"], unfollowed := true, recurses := true, named := ["internal/bytealg.MaxLen"], apart := false, narrowed := true }
def FnExactReadSystemUptoSaid : Prop := fnExactReadSystemUptoRow.holds Try.pinned (OpenSpec.upto fnExactReadSystemSpec)

/-- 'laws.FnExactHolds', WHERE WHAT IT READS IS OF BULK AT MOST 1048576: true; the input reads as it did. -/
def fnExactHoldsUptoRow : OpenClaim := { program := "ytolhelogcekfbab", sum := "164746e160cac29abded3c3ac2a771f67fd5c1da8ec04bb7ae43b427cab4fd27", func := "loop.example/g01143/laws.FnExactHolds", spec := "fnExactHolds", inPlace := ["internal/bytealg.IndexByteString", "internal/abi.NoEscape"], apart := false, narrowed := true }
def FnExactHoldsUptoSaid : Prop := fnExactHoldsUptoRow.holds Try.pinned (OpenSpec.upto fnExactHoldsSpec)

/-- 'laws.FnExactStripEnds', WHERE WHAT IT READS IS OF BULK AT MOST 1048576: true; the input reads as it did. -/
def fnExactStripEndsUptoRow : OpenClaim := { program := "ytolhelogcekfbab", sum := "164746e160cac29abded3c3ac2a771f67fd5c1da8ec04bb7ae43b427cab4fd27", func := "loop.example/g01143/laws.FnExactStripEnds", spec := "fnExactStripEnds", inPlace := ["internal/bytealg.IndexByteString"], apart := false, narrowed := true }
def FnExactStripEndsUptoSaid : Prop := fnExactStripEndsUptoRow.holds Try.pinned (OpenSpec.upto fnExactStripEndsSpec)

/-- 'laws.FnExactClashOf', WHERE WHAT IT READS IS OF BULK AT MOST 1048576: true; the input reads as it did. -/
def fnExactClashOfUptoRow : OpenClaim := { program := "ytolhelogcekfbab", sum := "164746e160cac29abded3c3ac2a771f67fd5c1da8ec04bb7ae43b427cab4fd27", func := "loop.example/g01143/laws.FnExactClashOf", spec := "fnExactClashOf", inPlace := ["internal/bytealg.IndexByteString", "internal/bytealg.IndexString"], named := ["internal/bytealg.MaxLen"], apart := false, narrowed := true }
def FnExactClashOfUptoSaid : Prop := fnExactClashOfUptoRow.holds Try.pinned (OpenSpec.upto fnExactClashOfSpec)

/-- 'laws.FnExactCombineEquations', WHERE WHAT IT READS IS OF BULK AT MOST 1048576: true; the input reads as it did. -/
def fnExactCombineEquationsUptoRow : OpenClaim := { program := "ytolhelogcekfbab", sum := "164746e160cac29abded3c3ac2a771f67fd5c1da8ec04bb7ae43b427cab4fd27", func := "loop.example/g01143/laws.FnExactCombineEquations", spec := "fnExactCombineEquations", inPlace := ["internal/bytealg.IndexByteString"], apart := false, narrowed := true }
def FnExactCombineEquationsUptoSaid : Prop := fnExactCombineEquationsUptoRow.holds Try.pinned (OpenSpec.upto fnExactCombineEquationsSpec)

/-- 'laws.FnExactLengthRow', WHERE WHAT IT READS IS OF BULK AT MOST 1048576: true; the input reads as it did. -/
def fnExactLengthRowUptoRow : OpenClaim := { program := "ytolhelogcekfbab", sum := "164746e160cac29abded3c3ac2a771f67fd5c1da8ec04bb7ae43b427cab4fd27", func := "loop.example/g01143/laws.FnExactLengthRow", spec := "fnExactLengthRow", inPlace := ["internal/bytealg.IndexByteString"], unfollowed := true, recurses := true, apart := false, narrowed := true }
def FnExactLengthRowUptoSaid : Prop := fnExactLengthRowUptoRow.holds Try.pinned (OpenSpec.upto fnExactLengthRowSpec)

/-- 'laws.FnExactLetterRow', WHERE WHAT IT READS IS OF BULK AT MOST 1048576: true; the input reads as it did. -/
def fnExactLetterRowUptoRow : OpenClaim := { program := "ytolhelogcekfbab", sum := "164746e160cac29abded3c3ac2a771f67fd5c1da8ec04bb7ae43b427cab4fd27", func := "loop.example/g01143/laws.FnExactLetterRow", spec := "fnExactLetterRow", inPlace := ["internal/bytealg.IndexByteString", "internal/bytealg.IndexString"], unfollowed := true, recurses := true, named := ["internal/bytealg.MaxLen"], apart := false, narrowed := true }
def FnExactLetterRowUptoSaid : Prop := fnExactLetterRowUptoRow.holds Try.pinned (OpenSpec.upto fnExactLetterRowSpec)

/-- 'laws.FnExactLengthLists', WHERE WHAT IT READS IS OF BULK AT MOST 1048576: true; the input reads as it did. -/
def fnExactLengthListsUptoRow : OpenClaim := { program := "ytolhelogcekfbab", sum := "164746e160cac29abded3c3ac2a771f67fd5c1da8ec04bb7ae43b427cab4fd27", func := "loop.example/g01143/laws.FnExactLengthLists", spec := "fnExactLengthLists", inPlace := ["internal/bytealg.IndexByteString", "internal/bytealg.IndexString"], unfollowed := true, recurses := true, named := ["internal/bytealg.MaxLen"], apart := false, narrowed := true }
def FnExactLengthListsUptoSaid : Prop := fnExactLengthListsUptoRow.holds Try.pinned (OpenSpec.upto fnExactLengthListsSpec)

/-- 'laws.FnExactIsNoProof', WHERE WHAT IT READS IS OF BULK AT MOST 1048576: true; the input reads as it did. -/
def fnExactIsNoProofUptoRow : OpenClaim := { program := "ytolhelogcekfbab", sum := "164746e160cac29abded3c3ac2a771f67fd5c1da8ec04bb7ae43b427cab4fd27", func := "loop.example/g01143/laws.FnExactIsNoProof", spec := "fnExactIsNoProof", inPlace := ["internal/bytealg.IndexByteString"], unfollowed := true, recurses := true, apart := false, narrowed := true }
def FnExactIsNoProofUptoSaid : Prop := fnExactIsNoProofUptoRow.holds Try.pinned (OpenSpec.upto fnExactIsNoProofSpec)

end Rows
end Go.Proofs.Ytolhelogcekfbab
