/-
  No cell of these rows narrows 'for every input' (looked for: loops, veiled, ifaces, maps, wideKeys, modest, calm, conditions, laid).
  DERIVED. THE GIVEN ROWS OF THIS SEAT. 9 by the template 'for every input the law returns true; each argument reads behind the call as it read before'; 0 by the template 'total and deterministic' (their statements: YtolhelogcekfbaaTotals.lean).
  GIVEN WITH THE SEED: the statements are not yours to turn. If you find one false, say at which input.
  Laid BY PROGRAM, IN A SANDBOX (cutbox-rows.mjs): the forced cells as the released guide's own fill.sh prints them over the translation a0f216c545ec6a3a… (all of the seat's roots in one cut). By AI agents, Wed Nov 11 2026. No macro, syntax, notation, axiom, sorry.
-/
import Derived.Test.YtolhelogcekfbaaChecked
import GoSem.Claim
import GoSem.ClaimJoined
import GoSem.ClaimMapViews
import Derived.JoinedTies
import Derived.KernelRfl
namespace Go.Proofs.Ytolhelogcekfbaa
/- THE CELL 'sum', in the pinned program and in every row, IS THE sha256 OF THE DUMP (.gsa) THAT YtolhelogcekfbaaProg.lean LOADS. Nothing in Lean hashes anything: it is a label: what it is worth is what the hold of that sum in a sandbox is worth. -/
noncomputable def Try.pinned : Pinned := { name := "ytolhelogcekfbaa", sum := "a0f216c545ec6a3ad8d4285c37540791d8e2558415c29dab45de879f172acf96", checked := Try.checked }
namespace Rows
def none {H : Type} : Left H := { results := [], args := [] }

/-- 'laws.FnMatches': WHATEVER THE INPUT: true; the input reads as it did. -/
def fnMatchesSpec : ChangeSpec := { name := "fnMatches", fn := fun _ => fun
  | [d1, d2] => { results := [.lit (.bool true)], args := [d1, d2] }
  | _ => none }
def fnMatchesRow : OpenClaim := { program := "ytolhelogcekfbaa", sum := "a0f216c545ec6a3ad8d4285c37540791d8e2558415c29dab45de879f172acf96", func := "loop.example/g01143/laws.FnMatches", spec := "fnMatches", inPlace := ["internal/bytealg.IndexByteString"], unfollowed := true, recurses := true, apart := false }
def FnMatchesSaid : Prop := fnMatchesRow.holds Try.pinned (OpenSpec.ofChange fnMatchesSpec)

/-- ITS FALSE NEIGHBOUR: 'it returns false'. Refute it at one input. -/
def fnMatchesWrong : ChangeSpec := { name := "fnMatches", fn := fun _ => fun
  | [d1, d2] => { results := [.lit (.bool false)], args := [d1, d2] }
  | _ => none }
def FnMatchesWrongFalsely : Prop := fnMatchesRow.holds Try.pinned (OpenSpec.ofChange fnMatchesWrong)

/-- 'laws.FnSystemText': WHATEVER THE INPUT: true; the input reads as it did. -/
def fnSystemTextSpec : ChangeSpec := { name := "fnSystemText", fn := fun _ => fun
  | [d1, d2] => { results := [.lit (.bool true)], args := [d1, d2] }
  | _ => none }
def fnSystemTextRow : OpenClaim := { program := "ytolhelogcekfbaa", sum := "a0f216c545ec6a3ad8d4285c37540791d8e2558415c29dab45de879f172acf96", func := "loop.example/g01143/laws.FnSystemText", spec := "fnSystemText", inPlace := ["internal/bytealg.IndexByteString", "internal/abi.NoEscape", "internal/bytealg.IndexString"], unfollowed := true, recurses := true, named := ["internal/bytealg.MaxLen"], apart := false }
def FnSystemTextSaid : Prop := fnSystemTextRow.holds Try.pinned (OpenSpec.ofChange fnSystemTextSpec)

/-- ITS FALSE NEIGHBOUR: 'it returns false'. Refute it at one input. -/
def fnSystemTextWrong : ChangeSpec := { name := "fnSystemText", fn := fun _ => fun
  | [d1, d2] => { results := [.lit (.bool false)], args := [d1, d2] }
  | _ => none }
def FnSystemTextWrongFalsely : Prop := fnSystemTextRow.holds Try.pinned (OpenSpec.ofChange fnSystemTextWrong)

/-- 'laws.FnRows': WHATEVER THE INPUT: true; the input reads as it did. -/
def fnRowsSpec : ChangeSpec := { name := "fnRows", fn := fun _ => fun
  | [d1, d2] => { results := [.lit (.bool true)], args := [d1, d2] }
  | _ => none }
def fnRowsRow : OpenClaim := { program := "ytolhelogcekfbaa", sum := "a0f216c545ec6a3ad8d4285c37540791d8e2558415c29dab45de879f172acf96", func := "loop.example/g01143/laws.FnRows", spec := "fnRows", inPlace := ["internal/bytealg.IndexByteString", "internal/bytealg.IndexString"], unfollowed := true, recurses := true, named := ["internal/bytealg.MaxLen"], apart := false }
def FnRowsSaid : Prop := fnRowsRow.holds Try.pinned (OpenSpec.ofChange fnRowsSpec)

/-- ITS FALSE NEIGHBOUR: 'it returns false'. Refute it at one input. -/
def fnRowsWrong : ChangeSpec := { name := "fnRows", fn := fun _ => fun
  | [d1, d2] => { results := [.lit (.bool false)], args := [d1, d2] }
  | _ => none }
def FnRowsWrongFalsely : Prop := fnRowsRow.holds Try.pinned (OpenSpec.ofChange fnRowsWrong)

/-- 'laws.FnSolveLengths': WHATEVER THE INPUT: true; the input reads as it did. -/
def fnSolveLengthsSpec : ChangeSpec := { name := "fnSolveLengths", fn := fun _ => fun
  | [d1, d2] => { results := [.lit (.bool true)], args := [d1, d2] }
  | _ => none }
def fnSolveLengthsRow : OpenClaim := { program := "ytolhelogcekfbaa", sum := "a0f216c545ec6a3ad8d4285c37540791d8e2558415c29dab45de879f172acf96", func := "loop.example/g01143/laws.FnSolveLengths", spec := "fnSolveLengths", inPlace := ["internal/bytealg.IndexByteString", "internal/abi.NoEscape"], recurses := true, apart := false }
def FnSolveLengthsSaid : Prop := fnSolveLengthsRow.holds Try.pinned (OpenSpec.ofChange fnSolveLengthsSpec)

/-- ITS FALSE NEIGHBOUR: 'it returns false'. Refute it at one input. -/
def fnSolveLengthsWrong : ChangeSpec := { name := "fnSolveLengths", fn := fun _ => fun
  | [d1, d2] => { results := [.lit (.bool false)], args := [d1, d2] }
  | _ => none }
def FnSolveLengthsWrongFalsely : Prop := fnSolveLengthsRow.holds Try.pinned (OpenSpec.ofChange fnSolveLengthsWrong)

/-- 'laws.FnCounted': WHATEVER THE INPUT: true; the input reads as it did. -/
def fnCountedSpec : ChangeSpec := { name := "fnCounted", fn := fun _ => fun
  | [d1, d2] => { results := [.lit (.bool true)], args := [d1, d2] }
  | _ => none }
def fnCountedRow : OpenClaim := { program := "ytolhelogcekfbaa", sum := "a0f216c545ec6a3ad8d4285c37540791d8e2558415c29dab45de879f172acf96", func := "loop.example/g01143/laws.FnCounted", spec := "fnCounted", inPlace := ["internal/bytealg.IndexByteString", "internal/bytealg.IndexString", "internal/abi.NoEscape"], unfollowed := true, recurses := true, named := ["internal/bytealg.MaxLen"], apart := false }
def FnCountedSaid : Prop := fnCountedRow.holds Try.pinned (OpenSpec.ofChange fnCountedSpec)

/-- ITS FALSE NEIGHBOUR: 'it returns false'. Refute it at one input. -/
def fnCountedWrong : ChangeSpec := { name := "fnCounted", fn := fun _ => fun
  | [d1, d2] => { results := [.lit (.bool false)], args := [d1, d2] }
  | _ => none }
def FnCountedWrongFalsely : Prop := fnCountedRow.holds Try.pinned (OpenSpec.ofChange fnCountedWrong)

/-- 'laws.FnExactMatchesOf': WHATEVER THE INPUT: true; the input reads as it did. -/
def fnExactMatchesOfSpec : ChangeSpec := { name := "fnExactMatchesOf", fn := fun _ => fun
  | [d1, d2] => { results := [.lit (.bool true)], args := [d1, d2] }
  | _ => none }
def fnExactMatchesOfRow : OpenClaim := { program := "ytolhelogcekfbaa", sum := "a0f216c545ec6a3ad8d4285c37540791d8e2558415c29dab45de879f172acf96", func := "loop.example/g01143/laws.FnExactMatchesOf", spec := "fnExactMatchesOf", inPlace := ["internal/bytealg.IndexByteString"], unfollowed := true, recurses := true, apart := false }
def FnExactMatchesOfSaid : Prop := fnExactMatchesOfRow.holds Try.pinned (OpenSpec.ofChange fnExactMatchesOfSpec)

/-- ITS FALSE NEIGHBOUR: 'it returns false'. Refute it at one input. -/
def fnExactMatchesOfWrong : ChangeSpec := { name := "fnExactMatchesOf", fn := fun _ => fun
  | [d1, d2] => { results := [.lit (.bool false)], args := [d1, d2] }
  | _ => none }
def FnExactMatchesOfWrongFalsely : Prop := fnExactMatchesOfRow.holds Try.pinned (OpenSpec.ofChange fnExactMatchesOfWrong)

/-- 'laws.FnExactFirstMatch': WHATEVER THE INPUT: true; the input reads as it did. -/
def fnExactFirstMatchSpec : ChangeSpec := { name := "fnExactFirstMatch", fn := fun _ => fun
  | [d1, d2] => { results := [.lit (.bool true)], args := [d1, d2] }
  | _ => none }
def fnExactFirstMatchRow : OpenClaim := { program := "ytolhelogcekfbaa", sum := "a0f216c545ec6a3ad8d4285c37540791d8e2558415c29dab45de879f172acf96", func := "loop.example/g01143/laws.FnExactFirstMatch", spec := "fnExactFirstMatch", inPlace := ["internal/bytealg.IndexByteString"], unfollowed := true, recurses := true, apart := false }
def FnExactFirstMatchSaid : Prop := fnExactFirstMatchRow.holds Try.pinned (OpenSpec.ofChange fnExactFirstMatchSpec)

/-- ITS FALSE NEIGHBOUR: 'it returns false'. Refute it at one input. -/
def fnExactFirstMatchWrong : ChangeSpec := { name := "fnExactFirstMatch", fn := fun _ => fun
  | [d1, d2] => { results := [.lit (.bool false)], args := [d1, d2] }
  | _ => none }
def FnExactFirstMatchWrongFalsely : Prop := fnExactFirstMatchRow.holds Try.pinned (OpenSpec.ofChange fnExactFirstMatchWrong)

/-- 'laws.FnExactValidEquation': WHATEVER THE INPUT: true; the input reads as it did. -/
def fnExactValidEquationSpec : ChangeSpec := { name := "fnExactValidEquation", fn := fun _ => fun
  | [d] => { results := [.lit (.bool true)], args := [d] }
  | _ => none }
def fnExactValidEquationRow : OpenClaim := { program := "ytolhelogcekfbaa", sum := "a0f216c545ec6a3ad8d4285c37540791d8e2558415c29dab45de879f172acf96", func := "loop.example/g01143/laws.FnExactValidEquation", spec := "fnExactValidEquation", inPlace := ["internal/bytealg.IndexByteString"], apart := false }
def FnExactValidEquationSaid : Prop := fnExactValidEquationRow.holds Try.pinned (OpenSpec.ofChange fnExactValidEquationSpec)

/-- ITS FALSE NEIGHBOUR: 'it returns false'. Refute it at one input. -/
def fnExactValidEquationWrong : ChangeSpec := { name := "fnExactValidEquation", fn := fun _ => fun
  | [d] => { results := [.lit (.bool false)], args := [d] }
  | _ => none }
def FnExactValidEquationWrongFalsely : Prop := fnExactValidEquationRow.holds Try.pinned (OpenSpec.ofChange fnExactValidEquationWrong)

/-- 'laws.FnExactValidSystem': WHATEVER THE INPUT: true; the input reads as it did. -/
def fnExactValidSystemSpec : ChangeSpec := { name := "fnExactValidSystem", fn := fun _ => fun
  | [d] => { results := [.lit (.bool true)], args := [d] }
  | _ => none }
def fnExactValidSystemRow : OpenClaim := { program := "ytolhelogcekfbaa", sum := "a0f216c545ec6a3ad8d4285c37540791d8e2558415c29dab45de879f172acf96", func := "loop.example/g01143/laws.FnExactValidSystem", spec := "fnExactValidSystem", inPlace := ["internal/bytealg.IndexByteString"], apart := false }
def FnExactValidSystemSaid : Prop := fnExactValidSystemRow.holds Try.pinned (OpenSpec.ofChange fnExactValidSystemSpec)

/-- ITS FALSE NEIGHBOUR: 'it returns false'. Refute it at one input. -/
def fnExactValidSystemWrong : ChangeSpec := { name := "fnExactValidSystem", fn := fun _ => fun
  | [d] => { results := [.lit (.bool false)], args := [d] }
  | _ => none }
def FnExactValidSystemWrongFalsely : Prop := fnExactValidSystemRow.holds Try.pinned (OpenSpec.ofChange fnExactValidSystemWrong)

/- THE SECOND FORM. 'bulk': how many values and letters a reading holds, each counted each time it is reached (what is shared counts as often as it is met; a slice's spare places count too). A statement '..UptoSaid' is the law's where the arguments, and the package variables that the reading takes, are together of bulk at most 1048576: NARROWER than '..Said'. Prove '..Said' where nothing that the law and all that it calls make is longer than what came in: it says more and counts as full. Else prove '..UptoSaid'. A law counts once. -/
mutual
def uptoBulk {H : Type} : DataW H → Nat
  | .lit (.string bytes) => bytes.length + 1
  | .lit _ => 1
  | .nil => 1
  | .ptr d => uptoBulk d + 1
  | .slice elems spare => uptoBulkAll elems + uptoBulkAll spare + 1
  | .agg parts => uptoBulkAll parts + 1
  | .iface _ d => uptoBulk d + 1
  | .map entries => uptoBulkEntries entries + 1
  | .held _ => 1
def uptoBulkAll {H : Type} : List (DataW H) → Nat
  | [] => 0
  | d :: r => uptoBulk d + uptoBulkAll r
def uptoBulkEntries {H : Type} : List (Lit × DataW H) → Nat
  | [] => 0
  | x :: r => uptoBulkEntry x + uptoBulkEntries r
def uptoBulkEntry {H : Type} : Lit × DataW H → Nat
  | (.string bytes, d) => bytes.length + uptoBulk d + 1
  | (_, d) => uptoBulk d + 1
 end
def uptoSmall : (H : Type) → List (DataW H) → Bool := fun _ ds => decide (uptoBulkAll ds ≤ 1048576)
def OpenSpec.upto (s : _root_.Go.ChangeSpec) : _root_.Go.OpenSpec := { _root_.Go.OpenSpec.ofChange s with cond := some uptoSmall }

/-- 'laws.FnMatches', WHERE WHAT IT READS IS OF BULK AT MOST 1048576: true; the input reads as it did. -/
def fnMatchesUptoRow : OpenClaim := { program := "ytolhelogcekfbaa", sum := "a0f216c545ec6a3ad8d4285c37540791d8e2558415c29dab45de879f172acf96", func := "loop.example/g01143/laws.FnMatches", spec := "fnMatches", inPlace := ["internal/bytealg.IndexByteString"], unfollowed := true, recurses := true, apart := false, narrowed := true }
def FnMatchesUptoSaid : Prop := fnMatchesUptoRow.holds Try.pinned (OpenSpec.upto fnMatchesSpec)

/-- 'laws.FnSystemText', WHERE WHAT IT READS IS OF BULK AT MOST 1048576: true; the input reads as it did. -/
def fnSystemTextUptoRow : OpenClaim := { program := "ytolhelogcekfbaa", sum := "a0f216c545ec6a3ad8d4285c37540791d8e2558415c29dab45de879f172acf96", func := "loop.example/g01143/laws.FnSystemText", spec := "fnSystemText", inPlace := ["internal/bytealg.IndexByteString", "internal/abi.NoEscape", "internal/bytealg.IndexString"], unfollowed := true, recurses := true, named := ["internal/bytealg.MaxLen"], apart := false, narrowed := true }
def FnSystemTextUptoSaid : Prop := fnSystemTextUptoRow.holds Try.pinned (OpenSpec.upto fnSystemTextSpec)

/-- 'laws.FnRows', WHERE WHAT IT READS IS OF BULK AT MOST 1048576: true; the input reads as it did. -/
def fnRowsUptoRow : OpenClaim := { program := "ytolhelogcekfbaa", sum := "a0f216c545ec6a3ad8d4285c37540791d8e2558415c29dab45de879f172acf96", func := "loop.example/g01143/laws.FnRows", spec := "fnRows", inPlace := ["internal/bytealg.IndexByteString", "internal/bytealg.IndexString"], unfollowed := true, recurses := true, named := ["internal/bytealg.MaxLen"], apart := false, narrowed := true }
def FnRowsUptoSaid : Prop := fnRowsUptoRow.holds Try.pinned (OpenSpec.upto fnRowsSpec)

/-- 'laws.FnSolveLengths', WHERE WHAT IT READS IS OF BULK AT MOST 1048576: true; the input reads as it did. -/
def fnSolveLengthsUptoRow : OpenClaim := { program := "ytolhelogcekfbaa", sum := "a0f216c545ec6a3ad8d4285c37540791d8e2558415c29dab45de879f172acf96", func := "loop.example/g01143/laws.FnSolveLengths", spec := "fnSolveLengths", inPlace := ["internal/bytealg.IndexByteString", "internal/abi.NoEscape"], recurses := true, apart := false, narrowed := true }
def FnSolveLengthsUptoSaid : Prop := fnSolveLengthsUptoRow.holds Try.pinned (OpenSpec.upto fnSolveLengthsSpec)

/-- 'laws.FnCounted', WHERE WHAT IT READS IS OF BULK AT MOST 1048576: true; the input reads as it did. -/
def fnCountedUptoRow : OpenClaim := { program := "ytolhelogcekfbaa", sum := "a0f216c545ec6a3ad8d4285c37540791d8e2558415c29dab45de879f172acf96", func := "loop.example/g01143/laws.FnCounted", spec := "fnCounted", inPlace := ["internal/bytealg.IndexByteString", "internal/bytealg.IndexString", "internal/abi.NoEscape"], unfollowed := true, recurses := true, named := ["internal/bytealg.MaxLen"], apart := false, narrowed := true }
def FnCountedUptoSaid : Prop := fnCountedUptoRow.holds Try.pinned (OpenSpec.upto fnCountedSpec)

/-- 'laws.FnExactMatchesOf', WHERE WHAT IT READS IS OF BULK AT MOST 1048576: true; the input reads as it did. -/
def fnExactMatchesOfUptoRow : OpenClaim := { program := "ytolhelogcekfbaa", sum := "a0f216c545ec6a3ad8d4285c37540791d8e2558415c29dab45de879f172acf96", func := "loop.example/g01143/laws.FnExactMatchesOf", spec := "fnExactMatchesOf", inPlace := ["internal/bytealg.IndexByteString"], unfollowed := true, recurses := true, apart := false, narrowed := true }
def FnExactMatchesOfUptoSaid : Prop := fnExactMatchesOfUptoRow.holds Try.pinned (OpenSpec.upto fnExactMatchesOfSpec)

/-- 'laws.FnExactFirstMatch', WHERE WHAT IT READS IS OF BULK AT MOST 1048576: true; the input reads as it did. -/
def fnExactFirstMatchUptoRow : OpenClaim := { program := "ytolhelogcekfbaa", sum := "a0f216c545ec6a3ad8d4285c37540791d8e2558415c29dab45de879f172acf96", func := "loop.example/g01143/laws.FnExactFirstMatch", spec := "fnExactFirstMatch", inPlace := ["internal/bytealg.IndexByteString"], unfollowed := true, recurses := true, apart := false, narrowed := true }
def FnExactFirstMatchUptoSaid : Prop := fnExactFirstMatchUptoRow.holds Try.pinned (OpenSpec.upto fnExactFirstMatchSpec)

/-- 'laws.FnExactValidEquation', WHERE WHAT IT READS IS OF BULK AT MOST 1048576: true; the input reads as it did. -/
def fnExactValidEquationUptoRow : OpenClaim := { program := "ytolhelogcekfbaa", sum := "a0f216c545ec6a3ad8d4285c37540791d8e2558415c29dab45de879f172acf96", func := "loop.example/g01143/laws.FnExactValidEquation", spec := "fnExactValidEquation", inPlace := ["internal/bytealg.IndexByteString"], apart := false, narrowed := true }
def FnExactValidEquationUptoSaid : Prop := fnExactValidEquationUptoRow.holds Try.pinned (OpenSpec.upto fnExactValidEquationSpec)

/-- 'laws.FnExactValidSystem', WHERE WHAT IT READS IS OF BULK AT MOST 1048576: true; the input reads as it did. -/
def fnExactValidSystemUptoRow : OpenClaim := { program := "ytolhelogcekfbaa", sum := "a0f216c545ec6a3ad8d4285c37540791d8e2558415c29dab45de879f172acf96", func := "loop.example/g01143/laws.FnExactValidSystem", spec := "fnExactValidSystem", inPlace := ["internal/bytealg.IndexByteString"], apart := false, narrowed := true }
def FnExactValidSystemUptoSaid : Prop := fnExactValidSystemUptoRow.holds Try.pinned (OpenSpec.upto fnExactValidSystemSpec)

end Rows
end Go.Proofs.Ytolhelogcekfbaa
