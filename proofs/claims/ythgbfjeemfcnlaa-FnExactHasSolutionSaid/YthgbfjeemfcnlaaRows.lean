/-
  No cell of these rows narrows 'for every input' (looked for: loops, veiled, ifaces, maps, wideKeys, modest, calm, conditions, laid).
  DERIVED. THE GIVEN ROWS OF THIS SEAT. 3 by the template 'for every input the law returns true; each argument reads behind the call as it read before'; 0 by the template 'total and deterministic' (their statements: YthgbfjeemfcnlaaTotals.lean).
  GIVEN WITH THE SEED: the statements are not yours to turn. If you find one false, say at which input.
  Laid BY PROGRAM, IN A SANDBOX (cutbox-rows.mjs): the forced cells as the released guide's own fill.sh prints them over the translation 2412fbddc6f47aa2… (all of the seat's roots in one cut). By AI agents, Wed Nov 11 2026. No macro, syntax, notation, axiom, sorry.
-/
import Derived.Test.YthgbfjeemfcnlaaChecked
import GoSem.Claim
import GoSem.ClaimJoined
import GoSem.ClaimMapViews
import Derived.JoinedTies
import Derived.KernelRfl
namespace Go.Proofs.Ythgbfjeemfcnlaa
/- THE CELL 'sum', in the pinned program and in every row, IS THE sha256 OF THE DUMP (.gsa) THAT YthgbfjeemfcnlaaProg.lean LOADS. Nothing in Lean hashes anything: it is a label: what it is worth is what the hold of that sum in a sandbox is worth. -/
noncomputable def Try.pinned : Pinned := { name := "ythgbfjeemfcnlaa", sum := "2412fbddc6f47aa2924bec21b9e9711caee0468c63e773c71361bc064ef750c9", checked := Try.checked }
namespace Rows
def none {H : Type} : Left H := { results := [], args := [] }

/-- 'laws.FnExactValidSolutions': WHATEVER THE INPUT: true; the input reads as it did. -/
def fnExactValidSolutionsSpec : ChangeSpec := { name := "fnExactValidSolutions", fn := fun _ => fun
  | [d] => { results := [.lit (.bool true)], args := [d] }
  | _ => none }
def fnExactValidSolutionsRow : OpenClaim := { program := "ythgbfjeemfcnlaa", sum := "2412fbddc6f47aa2924bec21b9e9711caee0468c63e773c71361bc064ef750c9", func := "loop.example/g01143/laws.FnExactValidSolutions", spec := "fnExactValidSolutions", inPlace := ["internal/bytealg.IndexByteString", "internal/abi.NoEscape", "internal/bytealg.MakeNoZero"], unfollowed := true, recurses := true, apart := false }
def FnExactValidSolutionsSaid : Prop := fnExactValidSolutionsRow.holds Try.pinned (OpenSpec.ofChange fnExactValidSolutionsSpec)

/-- ITS FALSE NEIGHBOUR: 'it returns false'. Refute it at one input. -/
def fnExactValidSolutionsWrong : ChangeSpec := { name := "fnExactValidSolutions", fn := fun _ => fun
  | [d] => { results := [.lit (.bool false)], args := [d] }
  | _ => none }
def FnExactValidSolutionsWrongFalsely : Prop := fnExactValidSolutionsRow.holds Try.pinned (OpenSpec.ofChange fnExactValidSolutionsWrong)

/-- 'laws.FnExactSameSolutions': WHATEVER THE INPUT: true; the input reads as it did. -/
def fnExactSameSolutionsSpec : ChangeSpec := { name := "fnExactSameSolutions", fn := fun _ => fun
  | [d1, d2] => { results := [.lit (.bool true)], args := [d1, d2] }
  | _ => none }
def fnExactSameSolutionsRow : OpenClaim := { program := "ythgbfjeemfcnlaa", sum := "2412fbddc6f47aa2924bec21b9e9711caee0468c63e773c71361bc064ef750c9", func := "loop.example/g01143/laws.FnExactSameSolutions", spec := "fnExactSameSolutions", apart := false }
def FnExactSameSolutionsSaid : Prop := fnExactSameSolutionsRow.holds Try.pinned (OpenSpec.ofChange fnExactSameSolutionsSpec)

/-- ITS FALSE NEIGHBOUR: 'it returns false'. Refute it at one input. -/
def fnExactSameSolutionsWrong : ChangeSpec := { name := "fnExactSameSolutions", fn := fun _ => fun
  | [d1, d2] => { results := [.lit (.bool false)], args := [d1, d2] }
  | _ => none }
def FnExactSameSolutionsWrongFalsely : Prop := fnExactSameSolutionsRow.holds Try.pinned (OpenSpec.ofChange fnExactSameSolutionsWrong)

/-- 'laws.FnExactHasSolution': WHATEVER THE INPUT: true; the input reads as it did. -/
def fnExactHasSolutionSpec : ChangeSpec := { name := "fnExactHasSolution", fn := fun _ => fun
  | [d1, d2] => { results := [.lit (.bool true)], args := [d1, d2] }
  | _ => none }
def fnExactHasSolutionRow : OpenClaim := { program := "ythgbfjeemfcnlaa", sum := "2412fbddc6f47aa2924bec21b9e9711caee0468c63e773c71361bc064ef750c9", func := "loop.example/g01143/laws.FnExactHasSolution", spec := "fnExactHasSolution", inPlace := ["internal/bytealg.IndexByteString", "internal/abi.NoEscape", "internal/bytealg.MakeNoZero"], unfollowed := true, recurses := true, apart := false }
def FnExactHasSolutionSaid : Prop := fnExactHasSolutionRow.holds Try.pinned (OpenSpec.ofChange fnExactHasSolutionSpec)

/-- ITS FALSE NEIGHBOUR: 'it returns false'. Refute it at one input. -/
def fnExactHasSolutionWrong : ChangeSpec := { name := "fnExactHasSolution", fn := fun _ => fun
  | [d1, d2] => { results := [.lit (.bool false)], args := [d1, d2] }
  | _ => none }
def FnExactHasSolutionWrongFalsely : Prop := fnExactHasSolutionRow.holds Try.pinned (OpenSpec.ofChange fnExactHasSolutionWrong)

/- THE SECOND FORM. 'bulk': how many values and letters a reading holds, each counted each time it is reached (what is shared counts as often as it is met; a slice's spare places count too). A statement '..UptoSaid' is the law's where the arguments, and the package variables that the reading takes, are together of bulk at most 1048576: NARROWER than '..Said'. Prove '..Said' where nothing that the law and all that it calls make is longer than what came in: it says more and counts as full. Else prove '..UptoSaid'. A law counts once. -/
mutual
def uptoBulk {H : Type} : DataW H → Nat
  | .lit (.string bytes) => bytes.length + 1
  | .lit _ => 1
  | .nil => 1
  | .ptr d => uptoBulk d + 1
  | .slice elems spare => uptoBulkAll elems + uptoBulkAll spare + 1
  | .agg parts => uptoBulkAll parts + 1
  | .iface _ d => uptoBulk d + 1
  | .map entries => uptoBulkEntries entries + 1
  | .held _ => 1
def uptoBulkAll {H : Type} : List (DataW H) → Nat
  | [] => 0
  | d :: r => uptoBulk d + uptoBulkAll r
def uptoBulkEntries {H : Type} : List (Lit × DataW H) → Nat
  | [] => 0
  | x :: r => uptoBulkEntry x + uptoBulkEntries r
def uptoBulkEntry {H : Type} : Lit × DataW H → Nat
  | (.string bytes, d) => bytes.length + uptoBulk d + 1
  | (_, d) => uptoBulk d + 1
 end
def uptoSmall : (H : Type) → List (DataW H) → Bool := fun _ ds => decide (uptoBulkAll ds ≤ 1048576)
def OpenSpec.upto (s : _root_.Go.ChangeSpec) : _root_.Go.OpenSpec := { _root_.Go.OpenSpec.ofChange s with cond := some uptoSmall }

/-- 'laws.FnExactValidSolutions', WHERE WHAT IT READS IS OF BULK AT MOST 1048576: true; the input reads as it did. -/
def fnExactValidSolutionsUptoRow : OpenClaim := { program := "ythgbfjeemfcnlaa", sum := "2412fbddc6f47aa2924bec21b9e9711caee0468c63e773c71361bc064ef750c9", func := "loop.example/g01143/laws.FnExactValidSolutions", spec := "fnExactValidSolutions", inPlace := ["internal/bytealg.IndexByteString", "internal/abi.NoEscape", "internal/bytealg.MakeNoZero"], unfollowed := true, recurses := true, apart := false, narrowed := true }
def FnExactValidSolutionsUptoSaid : Prop := fnExactValidSolutionsUptoRow.holds Try.pinned (OpenSpec.upto fnExactValidSolutionsSpec)

/-- 'laws.FnExactSameSolutions', WHERE WHAT IT READS IS OF BULK AT MOST 1048576: true; the input reads as it did. -/
def fnExactSameSolutionsUptoRow : OpenClaim := { program := "ythgbfjeemfcnlaa", sum := "2412fbddc6f47aa2924bec21b9e9711caee0468c63e773c71361bc064ef750c9", func := "loop.example/g01143/laws.FnExactSameSolutions", spec := "fnExactSameSolutions", apart := false, narrowed := true }
def FnExactSameSolutionsUptoSaid : Prop := fnExactSameSolutionsUptoRow.holds Try.pinned (OpenSpec.upto fnExactSameSolutionsSpec)

/-- 'laws.FnExactHasSolution', WHERE WHAT IT READS IS OF BULK AT MOST 1048576: true; the input reads as it did. -/
def fnExactHasSolutionUptoRow : OpenClaim := { program := "ythgbfjeemfcnlaa", sum := "2412fbddc6f47aa2924bec21b9e9711caee0468c63e773c71361bc064ef750c9", func := "loop.example/g01143/laws.FnExactHasSolution", spec := "fnExactHasSolution", inPlace := ["internal/bytealg.IndexByteString", "internal/abi.NoEscape", "internal/bytealg.MakeNoZero"], unfollowed := true, recurses := true, apart := false, narrowed := true }
def FnExactHasSolutionUptoSaid : Prop := fnExactHasSolutionUptoRow.holds Try.pinned (OpenSpec.upto fnExactHasSolutionSpec)

end Rows
end Go.Proofs.Ythgbfjeemfcnlaa
