/-
  No cell of these rows narrows 'for every input' (looked for: loops, veiled, ifaces, maps, wideKeys, modest, calm, conditions, laid).
  DERIVED. THE GIVEN ROWS OF THIS SEAT. 6 by the template 'for every input the law returns true; each argument reads behind the call as it read before'; 0 by the template 'total and deterministic' (their statements: YtncjfafailefoaaTotals.lean).
  GIVEN WITH THE SEED: the statements are not yours to turn. If you find one false, say at which input.
  Laid BY PROGRAM, IN A SANDBOX (cutbox-rows.mjs): the forced cells as the released guide's own fill.sh prints them over the translation c1dd593ec1c3f525… (all of the seat's roots in one cut). By AI agents, Wed Nov 11 2026. No macro, syntax, notation, axiom, sorry.
-/
import Derived.Test.YtncjfafailefoaaChecked
import GoSem.Claim
import GoSem.ClaimJoined
import GoSem.ClaimMapViews
import Derived.JoinedTies
import Derived.KernelRfl
namespace Go.Proofs.Ytncjfafailefoaa
/- THE CELL 'sum', in the pinned program and in every row, IS THE sha256 OF THE DUMP (.gsa) THAT YtncjfafailefoaaProg.lean LOADS. Nothing in Lean hashes anything: it is a label: what it is worth is what the hold of that sum in a sandbox is worth. -/
noncomputable def Try.pinned : Pinned := { name := "ytncjfafailefoaa", sum := "c1dd593ec1c3f525dec911dfe6c9014fd998dd404f58729f7ffaf929a6c7b9a4", checked := Try.checked }
namespace Rows
def none {H : Type} : Left H := { results := [], args := [] }

/-- 'laws.FnExactValidBounds': WHATEVER THE INPUT: true; the input reads as it did. -/
def fnExactValidBoundsSpec : ChangeSpec := { name := "fnExactValidBounds", fn := fun _ => fun
  | [d] => { results := [.lit (.bool true)], args := [d] }
  | _ => none }
def fnExactValidBoundsRow : OpenClaim := { program := "ytncjfafailefoaa", sum := "c1dd593ec1c3f525dec911dfe6c9014fd998dd404f58729f7ffaf929a6c7b9a4", func := "loop.example/g01143/laws.FnExactValidBounds", spec := "fnExactValidBounds", apart := false }
def FnExactValidBoundsSaid : Prop := fnExactValidBoundsRow.holds Try.pinned (OpenSpec.ofChange fnExactValidBoundsSpec)

/-- ITS FALSE NEIGHBOUR: 'it returns false'. Refute it at one input. -/
def fnExactValidBoundsWrong : ChangeSpec := { name := "fnExactValidBounds", fn := fun _ => fun
  | [d] => { results := [.lit (.bool false)], args := [d] }
  | _ => none }
def FnExactValidBoundsWrongFalsely : Prop := fnExactValidBoundsRow.holds Try.pinned (OpenSpec.ofChange fnExactValidBoundsWrong)

/-- 'laws.FnExactSameBounds': WHATEVER THE INPUT: true; the input reads as it did. -/
def fnExactSameBoundsSpec : ChangeSpec := { name := "fnExactSameBounds", fn := fun _ => fun
  | [d1, d2] => { results := [.lit (.bool true)], args := [d1, d2] }
  | _ => none }
def fnExactSameBoundsRow : OpenClaim := { program := "ytncjfafailefoaa", sum := "c1dd593ec1c3f525dec911dfe6c9014fd998dd404f58729f7ffaf929a6c7b9a4", func := "loop.example/g01143/laws.FnExactSameBounds", spec := "fnExactSameBounds", unfollowed := true, recurses := true, apart := false }
def FnExactSameBoundsSaid : Prop := fnExactSameBoundsRow.holds Try.pinned (OpenSpec.ofChange fnExactSameBoundsSpec)

/-- ITS FALSE NEIGHBOUR: 'it returns false'. Refute it at one input. -/
def fnExactSameBoundsWrong : ChangeSpec := { name := "fnExactSameBounds", fn := fun _ => fun
  | [d1, d2] => { results := [.lit (.bool false)], args := [d1, d2] }
  | _ => none }
def FnExactSameBoundsWrongFalsely : Prop := fnExactSameBoundsRow.holds Try.pinned (OpenSpec.ofChange fnExactSameBoundsWrong)

/-- 'laws.FnExactMapOf': WHATEVER THE INPUT: true; the input reads as it did. -/
def fnExactMapOfSpec : ChangeSpec := { name := "fnExactMapOf", fn := fun _ => fun
  | [d1, d2] => { results := [.lit (.bool true)], args := [d1, d2] }
  | _ => none }
def fnExactMapOfRow : OpenClaim := { program := "ytncjfafailefoaa", sum := "c1dd593ec1c3f525dec911dfe6c9014fd998dd404f58729f7ffaf929a6c7b9a4", func := "loop.example/g01143/laws.FnExactMapOf", spec := "fnExactMapOf", inPlace := ["internal/bytealg.IndexByteString"], apart := false }
def FnExactMapOfSaid : Prop := fnExactMapOfRow.holds Try.pinned (OpenSpec.ofChange fnExactMapOfSpec)

/-- ITS FALSE NEIGHBOUR: 'it returns false'. Refute it at one input. -/
def fnExactMapOfWrong : ChangeSpec := { name := "fnExactMapOf", fn := fun _ => fun
  | [d1, d2] => { results := [.lit (.bool false)], args := [d1, d2] }
  | _ => none }
def FnExactMapOfWrongFalsely : Prop := fnExactMapOfRow.holds Try.pinned (OpenSpec.ofChange fnExactMapOfWrong)

/-- 'laws.FnExactAllows': WHATEVER THE INPUT: true; the input reads as it did. -/
def fnExactAllowsSpec : ChangeSpec := { name := "fnExactAllows", fn := fun _ => fun
  | [d1, d2, d3] => { results := [.lit (.bool true)], args := [d1, d2, d3] }
  | _ => none }
def fnExactAllowsRow : OpenClaim := { program := "ytncjfafailefoaa", sum := "c1dd593ec1c3f525dec911dfe6c9014fd998dd404f58729f7ffaf929a6c7b9a4", func := "loop.example/g01143/laws.FnExactAllows", spec := "fnExactAllows", inPlace := ["internal/bytealg.IndexByteString"], apart := false }
def FnExactAllowsSaid : Prop := fnExactAllowsRow.holds Try.pinned (OpenSpec.ofChange fnExactAllowsSpec)

/-- ITS FALSE NEIGHBOUR: 'it returns false'. Refute it at one input. -/
def fnExactAllowsWrong : ChangeSpec := { name := "fnExactAllows", fn := fun _ => fun
  | [d1, d2, d3] => { results := [.lit (.bool false)], args := [d1, d2, d3] }
  | _ => none }
def FnExactAllowsWrongFalsely : Prop := fnExactAllowsRow.holds Try.pinned (OpenSpec.ofChange fnExactAllowsWrong)

/-- 'laws.FnExactFirstAllowed': WHATEVER THE INPUT: true; the input reads as it did. -/
def fnExactFirstAllowedSpec : ChangeSpec := { name := "fnExactFirstAllowed", fn := fun _ => fun
  | [d1, d2] => { results := [.lit (.bool true)], args := [d1, d2] }
  | _ => none }
def fnExactFirstAllowedRow : OpenClaim := { program := "ytncjfafailefoaa", sum := "c1dd593ec1c3f525dec911dfe6c9014fd998dd404f58729f7ffaf929a6c7b9a4", func := "loop.example/g01143/laws.FnExactFirstAllowed", spec := "fnExactFirstAllowed", unfollowed := true, recurses := true, apart := false }
def FnExactFirstAllowedSaid : Prop := fnExactFirstAllowedRow.holds Try.pinned (OpenSpec.ofChange fnExactFirstAllowedSpec)

/-- ITS FALSE NEIGHBOUR: 'it returns false'. Refute it at one input. -/
def fnExactFirstAllowedWrong : ChangeSpec := { name := "fnExactFirstAllowed", fn := fun _ => fun
  | [d1, d2] => { results := [.lit (.bool false)], args := [d1, d2] }
  | _ => none }
def FnExactFirstAllowedWrongFalsely : Prop := fnExactFirstAllowedRow.holds Try.pinned (OpenSpec.ofChange fnExactFirstAllowedWrong)

/-- 'laws.FnExactCountAllowed': WHATEVER THE INPUT: true; the input reads as it did. -/
def fnExactCountAllowedSpec : ChangeSpec := { name := "fnExactCountAllowed", fn := fun _ => fun
  | [d1, d2, d3] => { results := [.lit (.bool true)], args := [d1, d2, d3] }
  | _ => none }
def fnExactCountAllowedRow : OpenClaim := { program := "ytncjfafailefoaa", sum := "c1dd593ec1c3f525dec911dfe6c9014fd998dd404f58729f7ffaf929a6c7b9a4", func := "loop.example/g01143/laws.FnExactCountAllowed", spec := "fnExactCountAllowed", apart := false }
def FnExactCountAllowedSaid : Prop := fnExactCountAllowedRow.holds Try.pinned (OpenSpec.ofChange fnExactCountAllowedSpec)

/-- ITS FALSE NEIGHBOUR: 'it returns false'. Refute it at one input. -/
def fnExactCountAllowedWrong : ChangeSpec := { name := "fnExactCountAllowed", fn := fun _ => fun
  | [d1, d2, d3] => { results := [.lit (.bool false)], args := [d1, d2, d3] }
  | _ => none }
def FnExactCountAllowedWrongFalsely : Prop := fnExactCountAllowedRow.holds Try.pinned (OpenSpec.ofChange fnExactCountAllowedWrong)

/- THE SECOND FORM. 'bulk': how many values and letters a reading holds, each counted each time it is reached (what is shared counts as often as it is met; a slice's spare places count too). A statement '..UptoSaid' is the law's where the arguments, and the package variables that the reading takes, are together of bulk at most 1048576: NARROWER than '..Said'. Prove '..Said' where nothing that the law and all that it calls make is longer than what came in: it says more and counts as full. Else prove '..UptoSaid'. A law counts once. -/
mutual
def uptoBulk {H : Type} : DataW H → Nat
  | .lit (.string bytes) => bytes.length + 1
  | .lit _ => 1
  | .nil => 1
  | .ptr d => uptoBulk d + 1
  | .slice elems spare => uptoBulkAll elems + uptoBulkAll spare + 1
  | .agg parts => uptoBulkAll parts + 1
  | .iface _ d => uptoBulk d + 1
  | .map entries => uptoBulkEntries entries + 1
  | .held _ => 1
def uptoBulkAll {H : Type} : List (DataW H) → Nat
  | [] => 0
  | d :: r => uptoBulk d + uptoBulkAll r
def uptoBulkEntries {H : Type} : List (Lit × DataW H) → Nat
  | [] => 0
  | x :: r => uptoBulkEntry x + uptoBulkEntries r
def uptoBulkEntry {H : Type} : Lit × DataW H → Nat
  | (.string bytes, d) => bytes.length + uptoBulk d + 1
  | (_, d) => uptoBulk d + 1
 end
def uptoSmall : (H : Type) → List (DataW H) → Bool := fun _ ds => decide (uptoBulkAll ds ≤ 1048576)
def OpenSpec.upto (s : _root_.Go.ChangeSpec) : _root_.Go.OpenSpec := { _root_.Go.OpenSpec.ofChange s with cond := some uptoSmall }

/-- 'laws.FnExactValidBounds', WHERE WHAT IT READS IS OF BULK AT MOST 1048576: true; the input reads as it did. -/
def fnExactValidBoundsUptoRow : OpenClaim := { program := "ytncjfafailefoaa", sum := "c1dd593ec1c3f525dec911dfe6c9014fd998dd404f58729f7ffaf929a6c7b9a4", func := "loop.example/g01143/laws.FnExactValidBounds", spec := "fnExactValidBounds", apart := false, narrowed := true }
def FnExactValidBoundsUptoSaid : Prop := fnExactValidBoundsUptoRow.holds Try.pinned (OpenSpec.upto fnExactValidBoundsSpec)

/-- 'laws.FnExactSameBounds', WHERE WHAT IT READS IS OF BULK AT MOST 1048576: true; the input reads as it did. -/
def fnExactSameBoundsUptoRow : OpenClaim := { program := "ytncjfafailefoaa", sum := "c1dd593ec1c3f525dec911dfe6c9014fd998dd404f58729f7ffaf929a6c7b9a4", func := "loop.example/g01143/laws.FnExactSameBounds", spec := "fnExactSameBounds", unfollowed := true, recurses := true, apart := false, narrowed := true }
def FnExactSameBoundsUptoSaid : Prop := fnExactSameBoundsUptoRow.holds Try.pinned (OpenSpec.upto fnExactSameBoundsSpec)

/-- 'laws.FnExactMapOf', WHERE WHAT IT READS IS OF BULK AT MOST 1048576: true; the input reads as it did. -/
def fnExactMapOfUptoRow : OpenClaim := { program := "ytncjfafailefoaa", sum := "c1dd593ec1c3f525dec911dfe6c9014fd998dd404f58729f7ffaf929a6c7b9a4", func := "loop.example/g01143/laws.FnExactMapOf", spec := "fnExactMapOf", inPlace := ["internal/bytealg.IndexByteString"], apart := false, narrowed := true }
def FnExactMapOfUptoSaid : Prop := fnExactMapOfUptoRow.holds Try.pinned (OpenSpec.upto fnExactMapOfSpec)

/-- 'laws.FnExactAllows', WHERE WHAT IT READS IS OF BULK AT MOST 1048576: true; the input reads as it did. -/
def fnExactAllowsUptoRow : OpenClaim := { program := "ytncjfafailefoaa", sum := "c1dd593ec1c3f525dec911dfe6c9014fd998dd404f58729f7ffaf929a6c7b9a4", func := "loop.example/g01143/laws.FnExactAllows", spec := "fnExactAllows", inPlace := ["internal/bytealg.IndexByteString"], apart := false, narrowed := true }
def FnExactAllowsUptoSaid : Prop := fnExactAllowsUptoRow.holds Try.pinned (OpenSpec.upto fnExactAllowsSpec)

/-- 'laws.FnExactFirstAllowed', WHERE WHAT IT READS IS OF BULK AT MOST 1048576: true; the input reads as it did. -/
def fnExactFirstAllowedUptoRow : OpenClaim := { program := "ytncjfafailefoaa", sum := "c1dd593ec1c3f525dec911dfe6c9014fd998dd404f58729f7ffaf929a6c7b9a4", func := "loop.example/g01143/laws.FnExactFirstAllowed", spec := "fnExactFirstAllowed", unfollowed := true, recurses := true, apart := false, narrowed := true }
def FnExactFirstAllowedUptoSaid : Prop := fnExactFirstAllowedUptoRow.holds Try.pinned (OpenSpec.upto fnExactFirstAllowedSpec)

/-- 'laws.FnExactCountAllowed', WHERE WHAT IT READS IS OF BULK AT MOST 1048576: true; the input reads as it did. -/
def fnExactCountAllowedUptoRow : OpenClaim := { program := "ytncjfafailefoaa", sum := "c1dd593ec1c3f525dec911dfe6c9014fd998dd404f58729f7ffaf929a6c7b9a4", func := "loop.example/g01143/laws.FnExactCountAllowed", spec := "fnExactCountAllowed", apart := false, narrowed := true }
def FnExactCountAllowedUptoSaid : Prop := fnExactCountAllowedUptoRow.holds Try.pinned (OpenSpec.upto fnExactCountAllowedSpec)

end Rows
end Go.Proofs.Ytncjfafailefoaa
