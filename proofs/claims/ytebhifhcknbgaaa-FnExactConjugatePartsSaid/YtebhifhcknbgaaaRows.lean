/-
  No cell of these rows narrows 'for every input' (looked for: loops, veiled, ifaces, maps, wideKeys, modest, calm, conditions, laid).
  DERIVED. THE GIVEN ROWS OF THIS SEAT. 11 by the template 'for every input the law returns true; each argument reads behind the call as it read before'; 0 by the template 'total and deterministic' (their statements: YtebhifhcknbgaaaTotals.lean).
  GIVEN WITH THE SEED: the statements are not yours to turn. If you find one false, say at which input.
  Laid BY PROGRAM, IN A SANDBOX (cutbox-rows.mjs): the forced cells as the released guide's own fill.sh prints them over the translation 1c8f3c0ed7cf40a3… (all of the seat's roots in one cut). By AI agents, Wed Nov 11 2026. No macro, syntax, notation, axiom, sorry.
-/
import Derived.Test.YtebhifhcknbgaaaChecked
import GoSem.Claim
import GoSem.ClaimJoined
import GoSem.ClaimMapViews
import Derived.JoinedTies
import Derived.KernelRfl
namespace Go.Proofs.Ytebhifhcknbgaaa
/- THE CELL 'sum', in the pinned program and in every row, IS THE sha256 OF THE DUMP (.gsa) THAT YtebhifhcknbgaaaProg.lean LOADS. Nothing in Lean hashes anything: it is a label: what it is worth is what the hold of that sum in a sandbox is worth. -/
noncomputable def Try.pinned : Pinned := { name := "ytebhifhcknbgaaa", sum := "1c8f3c0ed7cf40a3bf74fe9d50a3b78a9a47ad4457f53d5c6c9699ba197d2b4c", checked := Try.checked }
namespace Rows
def none {H : Type} : Left H := { results := [], args := [] }

/-- 'laws.FnCommuting': WHATEVER THE INPUT: true; the input reads as it did. -/
def fnCommutingSpec : ChangeSpec := { name := "fnCommuting", fn := fun _ => fun
  | [d1, d2] => { results := [.lit (.bool true)], args := [d1, d2] }
  | _ => none }
def fnCommutingRow : OpenClaim := { program := "ytebhifhcknbgaaa", sum := "1c8f3c0ed7cf40a3bf74fe9d50a3b78a9a47ad4457f53d5c6c9699ba197d2b4c", func := "loop.example/g01143/laws.FnCommuting", spec := "fnCommuting", inPlace := ["internal/bytealg.IndexByteString", "internal/abi.NoEscape", "internal/bytealg.MakeNoZero"], apart := false }
def FnCommutingSaid : Prop := fnCommutingRow.holds Try.pinned (OpenSpec.ofChange fnCommutingSpec)

/-- ITS FALSE NEIGHBOUR: 'it returns false'. Refute it at one input. -/
def fnCommutingWrong : ChangeSpec := { name := "fnCommuting", fn := fun _ => fun
  | [d1, d2] => { results := [.lit (.bool false)], args := [d1, d2] }
  | _ => none }
def FnCommutingWrongFalsely : Prop := fnCommutingRow.holds Try.pinned (OpenSpec.ofChange fnCommutingWrong)

/-- 'laws.FnShifted': WHATEVER THE INPUT: true; the input reads as it did. -/
def fnShiftedSpec : ChangeSpec := { name := "fnShifted", fn := fun _ => fun
  | [d1, d2] => { results := [.lit (.bool true)], args := [d1, d2] }
  | _ => none }
def fnShiftedRow : OpenClaim := { program := "ytebhifhcknbgaaa", sum := "1c8f3c0ed7cf40a3bf74fe9d50a3b78a9a47ad4457f53d5c6c9699ba197d2b4c", func := "loop.example/g01143/laws.FnShifted", spec := "fnShifted", inPlace := ["internal/bytealg.IndexByteString"], apart := false }
def FnShiftedSaid : Prop := fnShiftedRow.holds Try.pinned (OpenSpec.ofChange fnShiftedSpec)

/-- ITS FALSE NEIGHBOUR: 'it returns false'. Refute it at one input. -/
def fnShiftedWrong : ChangeSpec := { name := "fnShifted", fn := fun _ => fun
  | [d1, d2] => { results := [.lit (.bool false)], args := [d1, d2] }
  | _ => none }
def FnShiftedWrongFalsely : Prop := fnShiftedRow.holds Try.pinned (OpenSpec.ofChange fnShiftedWrong)

/-- 'laws.FnMatches': WHATEVER THE INPUT: true; the input reads as it did. -/
def fnMatchesSpec : ChangeSpec := { name := "fnMatches", fn := fun _ => fun
  | [d1, d2] => { results := [.lit (.bool true)], args := [d1, d2] }
  | _ => none }
def fnMatchesRow : OpenClaim := { program := "ytebhifhcknbgaaa", sum := "1c8f3c0ed7cf40a3bf74fe9d50a3b78a9a47ad4457f53d5c6c9699ba197d2b4c", func := "loop.example/g01143/laws.FnMatches", spec := "fnMatches", inPlace := ["internal/bytealg.IndexByteString"], unfollowed := true, recurses := true, apart := false }
def FnMatchesSaid : Prop := fnMatchesRow.holds Try.pinned (OpenSpec.ofChange fnMatchesSpec)

/-- ITS FALSE NEIGHBOUR: 'it returns false'. Refute it at one input. -/
def fnMatchesWrong : ChangeSpec := { name := "fnMatches", fn := fun _ => fun
  | [d1, d2] => { results := [.lit (.bool false)], args := [d1, d2] }
  | _ => none }
def FnMatchesWrongFalsely : Prop := fnMatchesRow.holds Try.pinned (OpenSpec.ofChange fnMatchesWrong)

/-- 'laws.FnExactCodeName': WHATEVER THE INPUT: true; the input reads as it did. -/
def fnExactCodeNameSpec : ChangeSpec := { name := "fnExactCodeName", fn := fun _ => fun
  | [d] => { results := [.lit (.bool true)], args := [d] }
  | _ => none }
def fnExactCodeNameRow : OpenClaim := { program := "ytebhifhcknbgaaa", sum := "1c8f3c0ed7cf40a3bf74fe9d50a3b78a9a47ad4457f53d5c6c9699ba197d2b4c", func := "loop.example/g01143/laws.FnExactCodeName", spec := "fnExactCodeName", apart := false }
def FnExactCodeNameSaid : Prop := fnExactCodeNameRow.holds Try.pinned (OpenSpec.ofChange fnExactCodeNameSpec)

/-- ITS FALSE NEIGHBOUR: 'it returns false'. Refute it at one input. -/
def fnExactCodeNameWrong : ChangeSpec := { name := "fnExactCodeName", fn := fun _ => fun
  | [d] => { results := [.lit (.bool false)], args := [d] }
  | _ => none }
def FnExactCodeNameWrongFalsely : Prop := fnExactCodeNameRow.holds Try.pinned (OpenSpec.ofChange fnExactCodeNameWrong)

/-- 'laws.FnExactValidWord': WHATEVER THE INPUT: true; the input reads as it did. -/
def fnExactValidWordSpec : ChangeSpec := { name := "fnExactValidWord", fn := fun _ => fun
  | [d] => { results := [.lit (.bool true)], args := [d] }
  | _ => none }
def fnExactValidWordRow : OpenClaim := { program := "ytebhifhcknbgaaa", sum := "1c8f3c0ed7cf40a3bf74fe9d50a3b78a9a47ad4457f53d5c6c9699ba197d2b4c", func := "loop.example/g01143/laws.FnExactValidWord", spec := "fnExactValidWord", inPlace := ["internal/bytealg.IndexByteString"], apart := false }
def FnExactValidWordSaid : Prop := fnExactValidWordRow.holds Try.pinned (OpenSpec.ofChange fnExactValidWordSpec)

/-- ITS FALSE NEIGHBOUR: 'it returns false'. Refute it at one input. -/
def fnExactValidWordWrong : ChangeSpec := { name := "fnExactValidWord", fn := fun _ => fun
  | [d] => { results := [.lit (.bool false)], args := [d] }
  | _ => none }
def FnExactValidWordWrongFalsely : Prop := fnExactValidWordRow.holds Try.pinned (OpenSpec.ofChange fnExactValidWordWrong)

/-- 'laws.FnExactRootOf': WHATEVER THE INPUT: true; the input reads as it did. -/
def fnExactRootOfSpec : ChangeSpec := { name := "fnExactRootOf", fn := fun _ => fun
  | [d] => { results := [.lit (.bool true)], args := [d] }
  | _ => none }
def fnExactRootOfRow : OpenClaim := { program := "ytebhifhcknbgaaa", sum := "1c8f3c0ed7cf40a3bf74fe9d50a3b78a9a47ad4457f53d5c6c9699ba197d2b4c", func := "loop.example/g01143/laws.FnExactRootOf", spec := "fnExactRootOf", inPlace := ["internal/bytealg.IndexByteString", "internal/abi.NoEscape", "internal/bytealg.MakeNoZero"], apart := false }
def FnExactRootOfSaid : Prop := fnExactRootOfRow.holds Try.pinned (OpenSpec.ofChange fnExactRootOfSpec)

/-- ITS FALSE NEIGHBOUR: 'it returns false'. Refute it at one input. -/
def fnExactRootOfWrong : ChangeSpec := { name := "fnExactRootOf", fn := fun _ => fun
  | [d] => { results := [.lit (.bool false)], args := [d] }
  | _ => none }
def FnExactRootOfWrongFalsely : Prop := fnExactRootOfRow.holds Try.pinned (OpenSpec.ofChange fnExactRootOfWrong)

/-- 'laws.FnExactCommute': WHATEVER THE INPUT: true; the input reads as it did. -/
def fnExactCommuteSpec : ChangeSpec := { name := "fnExactCommute", fn := fun _ => fun
  | [d1, d2] => { results := [.lit (.bool true)], args := [d1, d2] }
  | _ => none }
def fnExactCommuteRow : OpenClaim := { program := "ytebhifhcknbgaaa", sum := "1c8f3c0ed7cf40a3bf74fe9d50a3b78a9a47ad4457f53d5c6c9699ba197d2b4c", func := "loop.example/g01143/laws.FnExactCommute", spec := "fnExactCommute", inPlace := ["internal/bytealg.IndexByteString"], apart := false }
def FnExactCommuteSaid : Prop := fnExactCommuteRow.holds Try.pinned (OpenSpec.ofChange fnExactCommuteSpec)

/-- ITS FALSE NEIGHBOUR: 'it returns false'. Refute it at one input. -/
def fnExactCommuteWrong : ChangeSpec := { name := "fnExactCommute", fn := fun _ => fun
  | [d1, d2] => { results := [.lit (.bool false)], args := [d1, d2] }
  | _ => none }
def FnExactCommuteWrongFalsely : Prop := fnExactCommuteRow.holds Try.pinned (OpenSpec.ofChange fnExactCommuteWrong)

/-- 'laws.FnExactCommonRoot': WHATEVER THE INPUT: true; the input reads as it did. -/
def fnExactCommonRootSpec : ChangeSpec := { name := "fnExactCommonRoot", fn := fun _ => fun
  | [d1, d2] => { results := [.lit (.bool true)], args := [d1, d2] }
  | _ => none }
def fnExactCommonRootRow : OpenClaim := { program := "ytebhifhcknbgaaa", sum := "1c8f3c0ed7cf40a3bf74fe9d50a3b78a9a47ad4457f53d5c6c9699ba197d2b4c", func := "loop.example/g01143/laws.FnExactCommonRoot", spec := "fnExactCommonRoot", inPlace := ["internal/bytealg.IndexByteString", "internal/abi.NoEscape", "internal/bytealg.MakeNoZero"], apart := false }
def FnExactCommonRootSaid : Prop := fnExactCommonRootRow.holds Try.pinned (OpenSpec.ofChange fnExactCommonRootSpec)

/-- ITS FALSE NEIGHBOUR: 'it returns false'. Refute it at one input. -/
def fnExactCommonRootWrong : ChangeSpec := { name := "fnExactCommonRoot", fn := fun _ => fun
  | [d1, d2] => { results := [.lit (.bool false)], args := [d1, d2] }
  | _ => none }
def FnExactCommonRootWrongFalsely : Prop := fnExactCommonRootRow.holds Try.pinned (OpenSpec.ofChange fnExactCommonRootWrong)

/-- 'laws.FnExactShiftsOf': WHATEVER THE INPUT: true; the input reads as it did. -/
def fnExactShiftsOfSpec : ChangeSpec := { name := "fnExactShiftsOf", fn := fun _ => fun
  | [d1, d2] => { results := [.lit (.bool true)], args := [d1, d2] }
  | _ => none }
def fnExactShiftsOfRow : OpenClaim := { program := "ytebhifhcknbgaaa", sum := "1c8f3c0ed7cf40a3bf74fe9d50a3b78a9a47ad4457f53d5c6c9699ba197d2b4c", func := "loop.example/g01143/laws.FnExactShiftsOf", spec := "fnExactShiftsOf", inPlace := ["internal/bytealg.IndexByteString"], apart := false }
def FnExactShiftsOfSaid : Prop := fnExactShiftsOfRow.holds Try.pinned (OpenSpec.ofChange fnExactShiftsOfSpec)

/-- ITS FALSE NEIGHBOUR: 'it returns false'. Refute it at one input. -/
def fnExactShiftsOfWrong : ChangeSpec := { name := "fnExactShiftsOf", fn := fun _ => fun
  | [d1, d2] => { results := [.lit (.bool false)], args := [d1, d2] }
  | _ => none }
def FnExactShiftsOfWrongFalsely : Prop := fnExactShiftsOfRow.holds Try.pinned (OpenSpec.ofChange fnExactShiftsOfWrong)

/-- 'laws.FnExactConjugateParts': WHATEVER THE INPUT: true; the input reads as it did. -/
def fnExactConjugatePartsSpec : ChangeSpec := { name := "fnExactConjugateParts", fn := fun _ => fun
  | [d1, d2] => { results := [.lit (.bool true)], args := [d1, d2] }
  | _ => none }
def fnExactConjugatePartsRow : OpenClaim := { program := "ytebhifhcknbgaaa", sum := "1c8f3c0ed7cf40a3bf74fe9d50a3b78a9a47ad4457f53d5c6c9699ba197d2b4c", func := "loop.example/g01143/laws.FnExactConjugateParts", spec := "fnExactConjugateParts", inPlace := ["internal/bytealg.IndexByteString"], apart := false }
def FnExactConjugatePartsSaid : Prop := fnExactConjugatePartsRow.holds Try.pinned (OpenSpec.ofChange fnExactConjugatePartsSpec)

/-- ITS FALSE NEIGHBOUR: 'it returns false'. Refute it at one input. -/
def fnExactConjugatePartsWrong : ChangeSpec := { name := "fnExactConjugateParts", fn := fun _ => fun
  | [d1, d2] => { results := [.lit (.bool false)], args := [d1, d2] }
  | _ => none }
def FnExactConjugatePartsWrongFalsely : Prop := fnExactConjugatePartsRow.holds Try.pinned (OpenSpec.ofChange fnExactConjugatePartsWrong)

/-- 'laws.FnExactValidTerm': WHATEVER THE INPUT: true; the input reads as it did. -/
def fnExactValidTermSpec : ChangeSpec := { name := "fnExactValidTerm", fn := fun _ => fun
  | [d] => { results := [.lit (.bool true)], args := [d] }
  | _ => none }
def fnExactValidTermRow : OpenClaim := { program := "ytebhifhcknbgaaa", sum := "1c8f3c0ed7cf40a3bf74fe9d50a3b78a9a47ad4457f53d5c6c9699ba197d2b4c", func := "loop.example/g01143/laws.FnExactValidTerm", spec := "fnExactValidTerm", inPlace := ["internal/bytealg.IndexByteString"], apart := false }
def FnExactValidTermSaid : Prop := fnExactValidTermRow.holds Try.pinned (OpenSpec.ofChange fnExactValidTermSpec)

/-- ITS FALSE NEIGHBOUR: 'it returns false'. Refute it at one input. -/
def fnExactValidTermWrong : ChangeSpec := { name := "fnExactValidTerm", fn := fun _ => fun
  | [d] => { results := [.lit (.bool false)], args := [d] }
  | _ => none }
def FnExactValidTermWrongFalsely : Prop := fnExactValidTermRow.holds Try.pinned (OpenSpec.ofChange fnExactValidTermWrong)

/- THE SECOND FORM. 'bulk': how many values and letters a reading holds, each counted each time it is reached (what is shared counts as often as it is met; a slice's spare places count too). A statement '..UptoSaid' is the law's where the arguments, and the package variables that the reading takes, are together of bulk at most 1048576: NARROWER than '..Said'. Prove '..Said' where nothing that the law and all that it calls make is longer than what came in: it says more and counts as full. Else prove '..UptoSaid'. A law counts once. -/
mutual
def uptoBulk {H : Type} : DataW H → Nat
  | .lit (.string bytes) => bytes.length + 1
  | .lit _ => 1
  | .nil => 1
  | .ptr d => uptoBulk d + 1
  | .slice elems spare => uptoBulkAll elems + uptoBulkAll spare + 1
  | .agg parts => uptoBulkAll parts + 1
  | .iface _ d => uptoBulk d + 1
  | .map entries => uptoBulkEntries entries + 1
  | .held _ => 1
def uptoBulkAll {H : Type} : List (DataW H) → Nat
  | [] => 0
  | d :: r => uptoBulk d + uptoBulkAll r
def uptoBulkEntries {H : Type} : List (Lit × DataW H) → Nat
  | [] => 0
  | x :: r => uptoBulkEntry x + uptoBulkEntries r
def uptoBulkEntry {H : Type} : Lit × DataW H → Nat
  | (.string bytes, d) => bytes.length + uptoBulk d + 1
  | (_, d) => uptoBulk d + 1
 end
def uptoSmall : (H : Type) → List (DataW H) → Bool := fun _ ds => decide (uptoBulkAll ds ≤ 1048576)
def OpenSpec.upto (s : _root_.Go.ChangeSpec) : _root_.Go.OpenSpec := { _root_.Go.OpenSpec.ofChange s with cond := some uptoSmall }

/-- 'laws.FnCommuting', WHERE WHAT IT READS IS OF BULK AT MOST 1048576: true; the input reads as it did. -/
def fnCommutingUptoRow : OpenClaim := { program := "ytebhifhcknbgaaa", sum := "1c8f3c0ed7cf40a3bf74fe9d50a3b78a9a47ad4457f53d5c6c9699ba197d2b4c", func := "loop.example/g01143/laws.FnCommuting", spec := "fnCommuting", inPlace := ["internal/bytealg.IndexByteString", "internal/abi.NoEscape", "internal/bytealg.MakeNoZero"], apart := false, narrowed := true }
def FnCommutingUptoSaid : Prop := fnCommutingUptoRow.holds Try.pinned (OpenSpec.upto fnCommutingSpec)

/-- 'laws.FnShifted', WHERE WHAT IT READS IS OF BULK AT MOST 1048576: true; the input reads as it did. -/
def fnShiftedUptoRow : OpenClaim := { program := "ytebhifhcknbgaaa", sum := "1c8f3c0ed7cf40a3bf74fe9d50a3b78a9a47ad4457f53d5c6c9699ba197d2b4c", func := "loop.example/g01143/laws.FnShifted", spec := "fnShifted", inPlace := ["internal/bytealg.IndexByteString"], apart := false, narrowed := true }
def FnShiftedUptoSaid : Prop := fnShiftedUptoRow.holds Try.pinned (OpenSpec.upto fnShiftedSpec)

/-- 'laws.FnMatches', WHERE WHAT IT READS IS OF BULK AT MOST 1048576: true; the input reads as it did. -/
def fnMatchesUptoRow : OpenClaim := { program := "ytebhifhcknbgaaa", sum := "1c8f3c0ed7cf40a3bf74fe9d50a3b78a9a47ad4457f53d5c6c9699ba197d2b4c", func := "loop.example/g01143/laws.FnMatches", spec := "fnMatches", inPlace := ["internal/bytealg.IndexByteString"], unfollowed := true, recurses := true, apart := false, narrowed := true }
def FnMatchesUptoSaid : Prop := fnMatchesUptoRow.holds Try.pinned (OpenSpec.upto fnMatchesSpec)

/-- 'laws.FnExactCodeName', WHERE WHAT IT READS IS OF BULK AT MOST 1048576: true; the input reads as it did. -/
def fnExactCodeNameUptoRow : OpenClaim := { program := "ytebhifhcknbgaaa", sum := "1c8f3c0ed7cf40a3bf74fe9d50a3b78a9a47ad4457f53d5c6c9699ba197d2b4c", func := "loop.example/g01143/laws.FnExactCodeName", spec := "fnExactCodeName", apart := false, narrowed := true }
def FnExactCodeNameUptoSaid : Prop := fnExactCodeNameUptoRow.holds Try.pinned (OpenSpec.upto fnExactCodeNameSpec)

/-- 'laws.FnExactValidWord', WHERE WHAT IT READS IS OF BULK AT MOST 1048576: true; the input reads as it did. -/
def fnExactValidWordUptoRow : OpenClaim := { program := "ytebhifhcknbgaaa", sum := "1c8f3c0ed7cf40a3bf74fe9d50a3b78a9a47ad4457f53d5c6c9699ba197d2b4c", func := "loop.example/g01143/laws.FnExactValidWord", spec := "fnExactValidWord", inPlace := ["internal/bytealg.IndexByteString"], apart := false, narrowed := true }
def FnExactValidWordUptoSaid : Prop := fnExactValidWordUptoRow.holds Try.pinned (OpenSpec.upto fnExactValidWordSpec)

/-- 'laws.FnExactRootOf', WHERE WHAT IT READS IS OF BULK AT MOST 1048576: true; the input reads as it did. -/
def fnExactRootOfUptoRow : OpenClaim := { program := "ytebhifhcknbgaaa", sum := "1c8f3c0ed7cf40a3bf74fe9d50a3b78a9a47ad4457f53d5c6c9699ba197d2b4c", func := "loop.example/g01143/laws.FnExactRootOf", spec := "fnExactRootOf", inPlace := ["internal/bytealg.IndexByteString", "internal/abi.NoEscape", "internal/bytealg.MakeNoZero"], apart := false, narrowed := true }
def FnExactRootOfUptoSaid : Prop := fnExactRootOfUptoRow.holds Try.pinned (OpenSpec.upto fnExactRootOfSpec)

/-- 'laws.FnExactCommute', WHERE WHAT IT READS IS OF BULK AT MOST 1048576: true; the input reads as it did. -/
def fnExactCommuteUptoRow : OpenClaim := { program := "ytebhifhcknbgaaa", sum := "1c8f3c0ed7cf40a3bf74fe9d50a3b78a9a47ad4457f53d5c6c9699ba197d2b4c", func := "loop.example/g01143/laws.FnExactCommute", spec := "fnExactCommute", inPlace := ["internal/bytealg.IndexByteString"], apart := false, narrowed := true }
def FnExactCommuteUptoSaid : Prop := fnExactCommuteUptoRow.holds Try.pinned (OpenSpec.upto fnExactCommuteSpec)

/-- 'laws.FnExactCommonRoot', WHERE WHAT IT READS IS OF BULK AT MOST 1048576: true; the input reads as it did. -/
def fnExactCommonRootUptoRow : OpenClaim := { program := "ytebhifhcknbgaaa", sum := "1c8f3c0ed7cf40a3bf74fe9d50a3b78a9a47ad4457f53d5c6c9699ba197d2b4c", func := "loop.example/g01143/laws.FnExactCommonRoot", spec := "fnExactCommonRoot", inPlace := ["internal/bytealg.IndexByteString", "internal/abi.NoEscape", "internal/bytealg.MakeNoZero"], apart := false, narrowed := true }
def FnExactCommonRootUptoSaid : Prop := fnExactCommonRootUptoRow.holds Try.pinned (OpenSpec.upto fnExactCommonRootSpec)

/-- 'laws.FnExactShiftsOf', WHERE WHAT IT READS IS OF BULK AT MOST 1048576: true; the input reads as it did. -/
def fnExactShiftsOfUptoRow : OpenClaim := { program := "ytebhifhcknbgaaa", sum := "1c8f3c0ed7cf40a3bf74fe9d50a3b78a9a47ad4457f53d5c6c9699ba197d2b4c", func := "loop.example/g01143/laws.FnExactShiftsOf", spec := "fnExactShiftsOf", inPlace := ["internal/bytealg.IndexByteString"], apart := false, narrowed := true }
def FnExactShiftsOfUptoSaid : Prop := fnExactShiftsOfUptoRow.holds Try.pinned (OpenSpec.upto fnExactShiftsOfSpec)

/-- 'laws.FnExactConjugateParts', WHERE WHAT IT READS IS OF BULK AT MOST 1048576: true; the input reads as it did. -/
def fnExactConjugatePartsUptoRow : OpenClaim := { program := "ytebhifhcknbgaaa", sum := "1c8f3c0ed7cf40a3bf74fe9d50a3b78a9a47ad4457f53d5c6c9699ba197d2b4c", func := "loop.example/g01143/laws.FnExactConjugateParts", spec := "fnExactConjugateParts", inPlace := ["internal/bytealg.IndexByteString"], apart := false, narrowed := true }
def FnExactConjugatePartsUptoSaid : Prop := fnExactConjugatePartsUptoRow.holds Try.pinned (OpenSpec.upto fnExactConjugatePartsSpec)

/-- 'laws.FnExactValidTerm', WHERE WHAT IT READS IS OF BULK AT MOST 1048576: true; the input reads as it did. -/
def fnExactValidTermUptoRow : OpenClaim := { program := "ytebhifhcknbgaaa", sum := "1c8f3c0ed7cf40a3bf74fe9d50a3b78a9a47ad4457f53d5c6c9699ba197d2b4c", func := "loop.example/g01143/laws.FnExactValidTerm", spec := "fnExactValidTerm", inPlace := ["internal/bytealg.IndexByteString"], apart := false, narrowed := true }
def FnExactValidTermUptoSaid : Prop := fnExactValidTermUptoRow.holds Try.pinned (OpenSpec.upto fnExactValidTermSpec)

end Rows
end Go.Proofs.Ytebhifhcknbgaaa
