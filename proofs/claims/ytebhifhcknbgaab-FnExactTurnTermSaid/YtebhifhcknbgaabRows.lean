/-
  No cell of these rows narrows 'for every input' (looked for: loops, veiled, ifaces, maps, wideKeys, modest, calm, conditions, laid).
  DERIVED. THE GIVEN ROWS OF THIS SEAT. 10 by the template 'for every input the law returns true; each argument reads behind the call as it read before'; 0 by the template 'total and deterministic' (their statements: YtebhifhcknbgaabTotals.lean).
  GIVEN WITH THE SEED: the statements are not yours to turn. If you find one false, say at which input.
  Laid BY PROGRAM, IN A SANDBOX (cutbox-rows.mjs): the forced cells as the released guide's own fill.sh prints them over the translation b9dff60b85507d52… (all of the seat's roots in one cut). By AI agents, Wed Nov 11 2026. No macro, syntax, notation, axiom, sorry.
-/
import Derived.Test.YtebhifhcknbgaabChecked
import GoSem.Claim
import GoSem.ClaimJoined
import GoSem.ClaimMapViews
import Derived.JoinedTies
import Derived.KernelRfl
namespace Go.Proofs.Ytebhifhcknbgaab
/- THE CELL 'sum', in the pinned program and in every row, IS THE sha256 OF THE DUMP (.gsa) THAT YtebhifhcknbgaabProg.lean LOADS. Nothing in Lean hashes anything: it is a label: what it is worth is what the hold of that sum in a sandbox is worth. -/
noncomputable def Try.pinned : Pinned := { name := "ytebhifhcknbgaab", sum := "b9dff60b85507d52572bad4b3079ecaf232edec09a463f8d3dd6880fe62511e7", checked := Try.checked }
namespace Rows
def none {H : Type} : Left H := { results := [], args := [] }

/-- 'laws.FnExactUnknownsOf': WHATEVER THE INPUT: true; the input reads as it did. -/
def fnExactUnknownsOfSpec : ChangeSpec := { name := "fnExactUnknownsOf", fn := fun _ => fun
  | [d] => { results := [.lit (.bool true)], args := [d] }
  | _ => none }
def fnExactUnknownsOfRow : OpenClaim := { program := "ytebhifhcknbgaab", sum := "b9dff60b85507d52572bad4b3079ecaf232edec09a463f8d3dd6880fe62511e7", func := "loop.example/g01143/laws.FnExactUnknownsOf", spec := "fnExactUnknownsOf", inPlace := ["internal/bytealg.IndexByteString"], unfollowed := true, recurses := true, apart := false }
def FnExactUnknownsOfSaid : Prop := fnExactUnknownsOfRow.holds Try.pinned (OpenSpec.ofChange fnExactUnknownsOfSpec)

/-- ITS FALSE NEIGHBOUR: 'it returns false'. Refute it at one input. -/
def fnExactUnknownsOfWrong : ChangeSpec := { name := "fnExactUnknownsOf", fn := fun _ => fun
  | [d] => { results := [.lit (.bool false)], args := [d] }
  | _ => none }
def FnExactUnknownsOfWrongFalsely : Prop := fnExactUnknownsOfRow.holds Try.pinned (OpenSpec.ofChange fnExactUnknownsOfWrong)

/-- 'laws.FnExactCountIn': WHATEVER THE INPUT: true; the input reads as it did. -/
def fnExactCountInSpec : ChangeSpec := { name := "fnExactCountIn", fn := fun _ => fun
  | [d] => { results := [.lit (.bool true)], args := [d] }
  | _ => none }
def fnExactCountInRow : OpenClaim := { program := "ytebhifhcknbgaab", sum := "b9dff60b85507d52572bad4b3079ecaf232edec09a463f8d3dd6880fe62511e7", func := "loop.example/g01143/laws.FnExactCountIn", spec := "fnExactCountIn", inPlace := ["internal/bytealg.IndexByteString"], unfollowed := true, recurses := true, apart := false }
def FnExactCountInSaid : Prop := fnExactCountInRow.holds Try.pinned (OpenSpec.ofChange fnExactCountInSpec)

/-- ITS FALSE NEIGHBOUR: 'it returns false'. Refute it at one input. -/
def fnExactCountInWrong : ChangeSpec := { name := "fnExactCountIn", fn := fun _ => fun
  | [d] => { results := [.lit (.bool false)], args := [d] }
  | _ => none }
def FnExactCountInWrongFalsely : Prop := fnExactCountInRow.holds Try.pinned (OpenSpec.ofChange fnExactCountInWrong)

/-- 'laws.FnExactValidValues': WHATEVER THE INPUT: true; the input reads as it did. -/
def fnExactValidValuesSpec : ChangeSpec := { name := "fnExactValidValues", fn := fun _ => fun
  | [d] => { results := [.lit (.bool true)], args := [d] }
  | _ => none }
def fnExactValidValuesRow : OpenClaim := { program := "ytebhifhcknbgaab", sum := "b9dff60b85507d52572bad4b3079ecaf232edec09a463f8d3dd6880fe62511e7", func := "loop.example/g01143/laws.FnExactValidValues", spec := "fnExactValidValues", inPlace := ["internal/bytealg.IndexByteString"], apart := false }
def FnExactValidValuesSaid : Prop := fnExactValidValuesRow.holds Try.pinned (OpenSpec.ofChange fnExactValidValuesSpec)

/-- ITS FALSE NEIGHBOUR: 'it returns false'. Refute it at one input. -/
def fnExactValidValuesWrong : ChangeSpec := { name := "fnExactValidValues", fn := fun _ => fun
  | [d] => { results := [.lit (.bool false)], args := [d] }
  | _ => none }
def FnExactValidValuesWrongFalsely : Prop := fnExactValidValuesRow.holds Try.pinned (OpenSpec.ofChange fnExactValidValuesWrong)

/-- 'laws.FnExactPutIn': WHATEVER THE INPUT: true; the input reads as it did. -/
def fnExactPutInSpec : ChangeSpec := { name := "fnExactPutIn", fn := fun _ => fun
  | [d1, d2] => { results := [.lit (.bool true)], args := [d1, d2] }
  | _ => none }
def fnExactPutInRow : OpenClaim := { program := "ytebhifhcknbgaab", sum := "b9dff60b85507d52572bad4b3079ecaf232edec09a463f8d3dd6880fe62511e7", func := "loop.example/g01143/laws.FnExactPutIn", spec := "fnExactPutIn", inPlace := ["internal/bytealg.IndexByteString", "internal/abi.NoEscape"], apart := false }
def FnExactPutInSaid : Prop := fnExactPutInRow.holds Try.pinned (OpenSpec.ofChange fnExactPutInSpec)

/-- ITS FALSE NEIGHBOUR: 'it returns false'. Refute it at one input. -/
def fnExactPutInWrong : ChangeSpec := { name := "fnExactPutIn", fn := fun _ => fun
  | [d1, d2] => { results := [.lit (.bool false)], args := [d1, d2] }
  | _ => none }
def FnExactPutInWrongFalsely : Prop := fnExactPutInRow.holds Try.pinned (OpenSpec.ofChange fnExactPutInWrong)

/-- 'laws.FnExactTermLength': WHATEVER THE INPUT: true; the input reads as it did. -/
def fnExactTermLengthSpec : ChangeSpec := { name := "fnExactTermLength", fn := fun _ => fun
  | [d1, d2] => { results := [.lit (.bool true)], args := [d1, d2] }
  | _ => none }
def fnExactTermLengthRow : OpenClaim := { program := "ytebhifhcknbgaab", sum := "b9dff60b85507d52572bad4b3079ecaf232edec09a463f8d3dd6880fe62511e7", func := "loop.example/g01143/laws.FnExactTermLength", spec := "fnExactTermLength", inPlace := ["internal/bytealg.IndexByteString"], apart := false }
def FnExactTermLengthSaid : Prop := fnExactTermLengthRow.holds Try.pinned (OpenSpec.ofChange fnExactTermLengthSpec)

/-- ITS FALSE NEIGHBOUR: 'it returns false'. Refute it at one input. -/
def fnExactTermLengthWrong : ChangeSpec := { name := "fnExactTermLength", fn := fun _ => fun
  | [d1, d2] => { results := [.lit (.bool false)], args := [d1, d2] }
  | _ => none }
def FnExactTermLengthWrongFalsely : Prop := fnExactTermLengthRow.holds Try.pinned (OpenSpec.ofChange fnExactTermLengthWrong)

/-- 'laws.FnExactRenameTerm': WHATEVER THE INPUT: true; the input reads as it did. -/
def fnExactRenameTermSpec : ChangeSpec := { name := "fnExactRenameTerm", fn := fun _ => fun
  | [d1, d2] => { results := [.lit (.bool true)], args := [d1, d2] }
  | _ => none }
def fnExactRenameTermRow : OpenClaim := { program := "ytebhifhcknbgaab", sum := "b9dff60b85507d52572bad4b3079ecaf232edec09a463f8d3dd6880fe62511e7", func := "loop.example/g01143/laws.FnExactRenameTerm", spec := "fnExactRenameTerm", inPlace := ["internal/bytealg.IndexByteString", "internal/abi.NoEscape"], unfollowed := true, recurses := true, apart := false }
def FnExactRenameTermSaid : Prop := fnExactRenameTermRow.holds Try.pinned (OpenSpec.ofChange fnExactRenameTermSpec)

/-- ITS FALSE NEIGHBOUR: 'it returns false'. Refute it at one input. -/
def fnExactRenameTermWrong : ChangeSpec := { name := "fnExactRenameTerm", fn := fun _ => fun
  | [d1, d2] => { results := [.lit (.bool false)], args := [d1, d2] }
  | _ => none }
def FnExactRenameTermWrongFalsely : Prop := fnExactRenameTermRow.holds Try.pinned (OpenSpec.ofChange fnExactRenameTermWrong)

/-- 'laws.FnExactTurnTerm': WHATEVER THE INPUT: true; the input reads as it did. -/
def fnExactTurnTermSpec : ChangeSpec := { name := "fnExactTurnTerm", fn := fun _ => fun
  | [d] => { results := [.lit (.bool true)], args := [d] }
  | _ => none }
def fnExactTurnTermRow : OpenClaim := { program := "ytebhifhcknbgaab", sum := "b9dff60b85507d52572bad4b3079ecaf232edec09a463f8d3dd6880fe62511e7", func := "loop.example/g01143/laws.FnExactTurnTerm", spec := "fnExactTurnTerm", inPlace := ["internal/bytealg.IndexByteString", "internal/abi.NoEscape"], unfollowed := true, recurses := true, apart := false }
def FnExactTurnTermSaid : Prop := fnExactTurnTermRow.holds Try.pinned (OpenSpec.ofChange fnExactTurnTermSpec)

/-- ITS FALSE NEIGHBOUR: 'it returns false'. Refute it at one input. -/
def fnExactTurnTermWrong : ChangeSpec := { name := "fnExactTurnTerm", fn := fun _ => fun
  | [d] => { results := [.lit (.bool false)], args := [d] }
  | _ => none }
def FnExactTurnTermWrongFalsely : Prop := fnExactTurnTermRow.holds Try.pinned (OpenSpec.ofChange fnExactTurnTermWrong)

/-- 'laws.FnExactMatchesOf': WHATEVER THE INPUT: true; the input reads as it did. -/
def fnExactMatchesOfSpec : ChangeSpec := { name := "fnExactMatchesOf", fn := fun _ => fun
  | [d1, d2] => { results := [.lit (.bool true)], args := [d1, d2] }
  | _ => none }
def fnExactMatchesOfRow : OpenClaim := { program := "ytebhifhcknbgaab", sum := "b9dff60b85507d52572bad4b3079ecaf232edec09a463f8d3dd6880fe62511e7", func := "loop.example/g01143/laws.FnExactMatchesOf", spec := "fnExactMatchesOf", inPlace := ["internal/bytealg.IndexByteString"], unfollowed := true, recurses := true, apart := false }
def FnExactMatchesOfSaid : Prop := fnExactMatchesOfRow.holds Try.pinned (OpenSpec.ofChange fnExactMatchesOfSpec)

/-- ITS FALSE NEIGHBOUR: 'it returns false'. Refute it at one input. -/
def fnExactMatchesOfWrong : ChangeSpec := { name := "fnExactMatchesOf", fn := fun _ => fun
  | [d1, d2] => { results := [.lit (.bool false)], args := [d1, d2] }
  | _ => none }
def FnExactMatchesOfWrongFalsely : Prop := fnExactMatchesOfRow.holds Try.pinned (OpenSpec.ofChange fnExactMatchesOfWrong)

/-- 'laws.FnExactFirstMatch': WHATEVER THE INPUT: true; the input reads as it did. -/
def fnExactFirstMatchSpec : ChangeSpec := { name := "fnExactFirstMatch", fn := fun _ => fun
  | [d1, d2] => { results := [.lit (.bool true)], args := [d1, d2] }
  | _ => none }
def fnExactFirstMatchRow : OpenClaim := { program := "ytebhifhcknbgaab", sum := "b9dff60b85507d52572bad4b3079ecaf232edec09a463f8d3dd6880fe62511e7", func := "loop.example/g01143/laws.FnExactFirstMatch", spec := "fnExactFirstMatch", inPlace := ["internal/bytealg.IndexByteString"], unfollowed := true, recurses := true, apart := false }
def FnExactFirstMatchSaid : Prop := fnExactFirstMatchRow.holds Try.pinned (OpenSpec.ofChange fnExactFirstMatchSpec)

/-- ITS FALSE NEIGHBOUR: 'it returns false'. Refute it at one input. -/
def fnExactFirstMatchWrong : ChangeSpec := { name := "fnExactFirstMatch", fn := fun _ => fun
  | [d1, d2] => { results := [.lit (.bool false)], args := [d1, d2] }
  | _ => none }
def FnExactFirstMatchWrongFalsely : Prop := fnExactFirstMatchRow.holds Try.pinned (OpenSpec.ofChange fnExactFirstMatchWrong)

/-- 'laws.FnExactIsLinear': WHATEVER THE INPUT: true; the input reads as it did. -/
def fnExactIsLinearSpec : ChangeSpec := { name := "fnExactIsLinear", fn := fun _ => fun
  | [d] => { results := [.lit (.bool true)], args := [d] }
  | _ => none }
def fnExactIsLinearRow : OpenClaim := { program := "ytebhifhcknbgaab", sum := "b9dff60b85507d52572bad4b3079ecaf232edec09a463f8d3dd6880fe62511e7", func := "loop.example/g01143/laws.FnExactIsLinear", spec := "fnExactIsLinear", inPlace := ["internal/bytealg.IndexByteString"], unfollowed := true, recurses := true, apart := false }
def FnExactIsLinearSaid : Prop := fnExactIsLinearRow.holds Try.pinned (OpenSpec.ofChange fnExactIsLinearSpec)

/-- ITS FALSE NEIGHBOUR: 'it returns false'. Refute it at one input. -/
def fnExactIsLinearWrong : ChangeSpec := { name := "fnExactIsLinear", fn := fun _ => fun
  | [d] => { results := [.lit (.bool false)], args := [d] }
  | _ => none }
def FnExactIsLinearWrongFalsely : Prop := fnExactIsLinearRow.holds Try.pinned (OpenSpec.ofChange fnExactIsLinearWrong)

/- THE SECOND FORM. 'bulk': how many values and letters a reading holds, each counted each time it is reached (what is shared counts as often as it is met; a slice's spare places count too). A statement '..UptoSaid' is the law's where the arguments, and the package variables that the reading takes, are together of bulk at most 1048576: NARROWER than '..Said'. Prove '..Said' where nothing that the law and all that it calls make is longer than what came in: it says more and counts as full. Else prove '..UptoSaid'. A law counts once. -/
mutual
def uptoBulk {H : Type} : DataW H → Nat
  | .lit (.string bytes) => bytes.length + 1
  | .lit _ => 1
  | .nil => 1
  | .ptr d => uptoBulk d + 1
  | .slice elems spare => uptoBulkAll elems + uptoBulkAll spare + 1
  | .agg parts => uptoBulkAll parts + 1
  | .iface _ d => uptoBulk d + 1
  | .map entries => uptoBulkEntries entries + 1
  | .held _ => 1
def uptoBulkAll {H : Type} : List (DataW H) → Nat
  | [] => 0
  | d :: r => uptoBulk d + uptoBulkAll r
def uptoBulkEntries {H : Type} : List (Lit × DataW H) → Nat
  | [] => 0
  | x :: r => uptoBulkEntry x + uptoBulkEntries r
def uptoBulkEntry {H : Type} : Lit × DataW H → Nat
  | (.string bytes, d) => bytes.length + uptoBulk d + 1
  | (_, d) => uptoBulk d + 1
 end
def uptoSmall : (H : Type) → List (DataW H) → Bool := fun _ ds => decide (uptoBulkAll ds ≤ 1048576)
def OpenSpec.upto (s : _root_.Go.ChangeSpec) : _root_.Go.OpenSpec := { _root_.Go.OpenSpec.ofChange s with cond := some uptoSmall }

/-- 'laws.FnExactUnknownsOf', WHERE WHAT IT READS IS OF BULK AT MOST 1048576: true; the input reads as it did. -/
def fnExactUnknownsOfUptoRow : OpenClaim := { program := "ytebhifhcknbgaab", sum := "b9dff60b85507d52572bad4b3079ecaf232edec09a463f8d3dd6880fe62511e7", func := "loop.example/g01143/laws.FnExactUnknownsOf", spec := "fnExactUnknownsOf", inPlace := ["internal/bytealg.IndexByteString"], unfollowed := true, recurses := true, apart := false, narrowed := true }
def FnExactUnknownsOfUptoSaid : Prop := fnExactUnknownsOfUptoRow.holds Try.pinned (OpenSpec.upto fnExactUnknownsOfSpec)

/-- 'laws.FnExactCountIn', WHERE WHAT IT READS IS OF BULK AT MOST 1048576: true; the input reads as it did. -/
def fnExactCountInUptoRow : OpenClaim := { program := "ytebhifhcknbgaab", sum := "b9dff60b85507d52572bad4b3079ecaf232edec09a463f8d3dd6880fe62511e7", func := "loop.example/g01143/laws.FnExactCountIn", spec := "fnExactCountIn", inPlace := ["internal/bytealg.IndexByteString"], unfollowed := true, recurses := true, apart := false, narrowed := true }
def FnExactCountInUptoSaid : Prop := fnExactCountInUptoRow.holds Try.pinned (OpenSpec.upto fnExactCountInSpec)

/-- 'laws.FnExactValidValues', WHERE WHAT IT READS IS OF BULK AT MOST 1048576: true; the input reads as it did. -/
def fnExactValidValuesUptoRow : OpenClaim := { program := "ytebhifhcknbgaab", sum := "b9dff60b85507d52572bad4b3079ecaf232edec09a463f8d3dd6880fe62511e7", func := "loop.example/g01143/laws.FnExactValidValues", spec := "fnExactValidValues", inPlace := ["internal/bytealg.IndexByteString"], apart := false, narrowed := true }
def FnExactValidValuesUptoSaid : Prop := fnExactValidValuesUptoRow.holds Try.pinned (OpenSpec.upto fnExactValidValuesSpec)

/-- 'laws.FnExactPutIn', WHERE WHAT IT READS IS OF BULK AT MOST 1048576: true; the input reads as it did. -/
def fnExactPutInUptoRow : OpenClaim := { program := "ytebhifhcknbgaab", sum := "b9dff60b85507d52572bad4b3079ecaf232edec09a463f8d3dd6880fe62511e7", func := "loop.example/g01143/laws.FnExactPutIn", spec := "fnExactPutIn", inPlace := ["internal/bytealg.IndexByteString", "internal/abi.NoEscape"], apart := false, narrowed := true }
def FnExactPutInUptoSaid : Prop := fnExactPutInUptoRow.holds Try.pinned (OpenSpec.upto fnExactPutInSpec)

/-- 'laws.FnExactTermLength', WHERE WHAT IT READS IS OF BULK AT MOST 1048576: true; the input reads as it did. -/
def fnExactTermLengthUptoRow : OpenClaim := { program := "ytebhifhcknbgaab", sum := "b9dff60b85507d52572bad4b3079ecaf232edec09a463f8d3dd6880fe62511e7", func := "loop.example/g01143/laws.FnExactTermLength", spec := "fnExactTermLength", inPlace := ["internal/bytealg.IndexByteString"], apart := false, narrowed := true }
def FnExactTermLengthUptoSaid : Prop := fnExactTermLengthUptoRow.holds Try.pinned (OpenSpec.upto fnExactTermLengthSpec)

/-- 'laws.FnExactRenameTerm', WHERE WHAT IT READS IS OF BULK AT MOST 1048576: true; the input reads as it did. -/
def fnExactRenameTermUptoRow : OpenClaim := { program := "ytebhifhcknbgaab", sum := "b9dff60b85507d52572bad4b3079ecaf232edec09a463f8d3dd6880fe62511e7", func := "loop.example/g01143/laws.FnExactRenameTerm", spec := "fnExactRenameTerm", inPlace := ["internal/bytealg.IndexByteString", "internal/abi.NoEscape"], unfollowed := true, recurses := true, apart := false, narrowed := true }
def FnExactRenameTermUptoSaid : Prop := fnExactRenameTermUptoRow.holds Try.pinned (OpenSpec.upto fnExactRenameTermSpec)

/-- 'laws.FnExactTurnTerm', WHERE WHAT IT READS IS OF BULK AT MOST 1048576: true; the input reads as it did. -/
def fnExactTurnTermUptoRow : OpenClaim := { program := "ytebhifhcknbgaab", sum := "b9dff60b85507d52572bad4b3079ecaf232edec09a463f8d3dd6880fe62511e7", func := "loop.example/g01143/laws.FnExactTurnTerm", spec := "fnExactTurnTerm", inPlace := ["internal/bytealg.IndexByteString", "internal/abi.NoEscape"], unfollowed := true, recurses := true, apart := false, narrowed := true }
def FnExactTurnTermUptoSaid : Prop := fnExactTurnTermUptoRow.holds Try.pinned (OpenSpec.upto fnExactTurnTermSpec)

/-- 'laws.FnExactMatchesOf', WHERE WHAT IT READS IS OF BULK AT MOST 1048576: true; the input reads as it did. -/
def fnExactMatchesOfUptoRow : OpenClaim := { program := "ytebhifhcknbgaab", sum := "b9dff60b85507d52572bad4b3079ecaf232edec09a463f8d3dd6880fe62511e7", func := "loop.example/g01143/laws.FnExactMatchesOf", spec := "fnExactMatchesOf", inPlace := ["internal/bytealg.IndexByteString"], unfollowed := true, recurses := true, apart := false, narrowed := true }
def FnExactMatchesOfUptoSaid : Prop := fnExactMatchesOfUptoRow.holds Try.pinned (OpenSpec.upto fnExactMatchesOfSpec)

/-- 'laws.FnExactFirstMatch', WHERE WHAT IT READS IS OF BULK AT MOST 1048576: true; the input reads as it did. -/
def fnExactFirstMatchUptoRow : OpenClaim := { program := "ytebhifhcknbgaab", sum := "b9dff60b85507d52572bad4b3079ecaf232edec09a463f8d3dd6880fe62511e7", func := "loop.example/g01143/laws.FnExactFirstMatch", spec := "fnExactFirstMatch", inPlace := ["internal/bytealg.IndexByteString"], unfollowed := true, recurses := true, apart := false, narrowed := true }
def FnExactFirstMatchUptoSaid : Prop := fnExactFirstMatchUptoRow.holds Try.pinned (OpenSpec.upto fnExactFirstMatchSpec)

/-- 'laws.FnExactIsLinear', WHERE WHAT IT READS IS OF BULK AT MOST 1048576: true; the input reads as it did. -/
def fnExactIsLinearUptoRow : OpenClaim := { program := "ytebhifhcknbgaab", sum := "b9dff60b85507d52572bad4b3079ecaf232edec09a463f8d3dd6880fe62511e7", func := "loop.example/g01143/laws.FnExactIsLinear", spec := "fnExactIsLinear", inPlace := ["internal/bytealg.IndexByteString"], unfollowed := true, recurses := true, apart := false, narrowed := true }
def FnExactIsLinearUptoSaid : Prop := fnExactIsLinearUptoRow.holds Try.pinned (OpenSpec.upto fnExactIsLinearSpec)

end Rows
end Go.Proofs.Ytebhifhcknbgaab
