/-
  No cell of these rows narrows 'for every input' (looked for: loops, veiled, ifaces, maps, wideKeys, modest, calm, conditions, laid).
  DERIVED. THE GIVEN ROWS OF THIS SEAT. 6 by the template 'for every input the law returns true; each argument reads behind the call as it read before'; 0 by the template 'total and deterministic' (their statements: YthomkmbobaehkaaTotals.lean).
  GIVEN WITH THE SEED: the statements are not yours to turn. If you find one false, say at which input.
  Laid BY PROGRAM, IN A SANDBOX (cutbox-rows.mjs): the forced cells as the released guide's own fill.sh prints them over the translation 0de9e32e7d7fe4e2… (all of the seat's roots in one cut). By AI agents, Wed Nov 11 2026. No macro, syntax, notation, axiom, sorry.
-/
import Derived.Test.YthomkmbobaehkaaChecked
import GoSem.Claim
import GoSem.ClaimJoined
import GoSem.ClaimMapViews
import Derived.JoinedTies
import Derived.KernelRfl
namespace Go.Proofs.Ythomkmbobaehkaa
/- THE CELL 'sum', in the pinned program and in every row, IS THE sha256 OF THE DUMP (.gsa) THAT YthomkmbobaehkaaProg.lean LOADS. Nothing in Lean hashes anything: it is a label: what it is worth is what the hold of that sum in a sandbox is worth. -/
noncomputable def Try.pinned : Pinned := { name := "ythomkmbobaehkaa", sum := "0de9e32e7d7fe4e2a6139feebd2a889e99e4beb34760bfed678c5341d8025dd9", checked := Try.checked }
namespace Rows
def none {H : Type} : Left H := { results := [], args := [] }

/-- 'laws.FnExactTermLength': WHATEVER THE INPUT: true; the input reads as it did. -/
def fnExactTermLengthSpec : ChangeSpec := { name := "fnExactTermLength", fn := fun _ => fun
  | [d1, d2] => { results := [.lit (.bool true)], args := [d1, d2] }
  | _ => none }
def fnExactTermLengthRow : OpenClaim := { program := "ythomkmbobaehkaa", sum := "0de9e32e7d7fe4e2a6139feebd2a889e99e4beb34760bfed678c5341d8025dd9", func := "loop.example/g01143/laws.FnExactTermLength", spec := "fnExactTermLength", inPlace := ["internal/bytealg.IndexByteString"], apart := false }
def FnExactTermLengthSaid : Prop := fnExactTermLengthRow.holds Try.pinned (OpenSpec.ofChange fnExactTermLengthSpec)

/-- ITS FALSE NEIGHBOUR: 'it returns false'. Refute it at one input. -/
def fnExactTermLengthWrong : ChangeSpec := { name := "fnExactTermLength", fn := fun _ => fun
  | [d1, d2] => { results := [.lit (.bool false)], args := [d1, d2] }
  | _ => none }
def FnExactTermLengthWrongFalsely : Prop := fnExactTermLengthRow.holds Try.pinned (OpenSpec.ofChange fnExactTermLengthWrong)

/-- 'laws.FnExactHolds': WHATEVER THE INPUT: true; the input reads as it did. -/
def fnExactHoldsSpec : ChangeSpec := { name := "fnExactHolds", fn := fun _ => fun
  | [d1, d2] => { results := [.lit (.bool true)], args := [d1, d2] }
  | _ => none }
def fnExactHoldsRow : OpenClaim := { program := "ythomkmbobaehkaa", sum := "0de9e32e7d7fe4e2a6139feebd2a889e99e4beb34760bfed678c5341d8025dd9", func := "loop.example/g01143/laws.FnExactHolds", spec := "fnExactHolds", inPlace := ["internal/bytealg.IndexByteString", "internal/abi.NoEscape"], apart := false }
def FnExactHoldsSaid : Prop := fnExactHoldsRow.holds Try.pinned (OpenSpec.ofChange fnExactHoldsSpec)

/-- ITS FALSE NEIGHBOUR: 'it returns false'. Refute it at one input. -/
def fnExactHoldsWrong : ChangeSpec := { name := "fnExactHolds", fn := fun _ => fun
  | [d1, d2] => { results := [.lit (.bool false)], args := [d1, d2] }
  | _ => none }
def FnExactHoldsWrongFalsely : Prop := fnExactHoldsRow.holds Try.pinned (OpenSpec.ofChange fnExactHoldsWrong)

/-- 'laws.FnExactFamilyAt': WHATEVER THE INPUT: true; the input reads as it did. -/
def fnExactFamilyAtSpec : ChangeSpec := { name := "fnExactFamilyAt", fn := fun _ => fun
  | [d1, d2] => { results := [.lit (.bool true)], args := [d1, d2] }
  | _ => none }
def fnExactFamilyAtRow : OpenClaim := { program := "ythomkmbobaehkaa", sum := "0de9e32e7d7fe4e2a6139feebd2a889e99e4beb34760bfed678c5341d8025dd9", func := "loop.example/g01143/laws.FnExactFamilyAt", spec := "fnExactFamilyAt", inPlace := ["internal/bytealg.IndexByteString", "internal/abi.NoEscape", "internal/bytealg.MakeNoZero"], unfollowed := true, recurses := true, apart := false }
def FnExactFamilyAtSaid : Prop := fnExactFamilyAtRow.holds Try.pinned (OpenSpec.ofChange fnExactFamilyAtSpec)

/-- ITS FALSE NEIGHBOUR: 'it returns false'. Refute it at one input. -/
def fnExactFamilyAtWrong : ChangeSpec := { name := "fnExactFamilyAt", fn := fun _ => fun
  | [d1, d2] => { results := [.lit (.bool false)], args := [d1, d2] }
  | _ => none }
def FnExactFamilyAtWrongFalsely : Prop := fnExactFamilyAtRow.holds Try.pinned (OpenSpec.ofChange fnExactFamilyAtWrong)

/-- 'laws.FnExactFamilyLengths': WHATEVER THE INPUT: true; the input reads as it did. -/
def fnExactFamilyLengthsSpec : ChangeSpec := { name := "fnExactFamilyLengths", fn := fun _ => fun
  | [d1, d2] => { results := [.lit (.bool true)], args := [d1, d2] }
  | _ => none }
def fnExactFamilyLengthsRow : OpenClaim := { program := "ythomkmbobaehkaa", sum := "0de9e32e7d7fe4e2a6139feebd2a889e99e4beb34760bfed678c5341d8025dd9", func := "loop.example/g01143/laws.FnExactFamilyLengths", spec := "fnExactFamilyLengths", inPlace := ["internal/bytealg.IndexByteString"], unfollowed := true, recurses := true, apart := false }
def FnExactFamilyLengthsSaid : Prop := fnExactFamilyLengthsRow.holds Try.pinned (OpenSpec.ofChange fnExactFamilyLengthsSpec)

/-- ITS FALSE NEIGHBOUR: 'it returns false'. Refute it at one input. -/
def fnExactFamilyLengthsWrong : ChangeSpec := { name := "fnExactFamilyLengths", fn := fun _ => fun
  | [d1, d2] => { results := [.lit (.bool false)], args := [d1, d2] }
  | _ => none }
def FnExactFamilyLengthsWrongFalsely : Prop := fnExactFamilyLengthsRow.holds Try.pinned (OpenSpec.ofChange fnExactFamilyLengthsWrong)

/-- 'laws.FnExactTestNumber': WHATEVER THE INPUT: true; the input reads as it did. -/
def fnExactTestNumberSpec : ChangeSpec := { name := "fnExactTestNumber", fn := fun _ => fun
  | [d1, d2] => { results := [.lit (.bool true)], args := [d1, d2] }
  | _ => none }
def fnExactTestNumberRow : OpenClaim := { program := "ythomkmbobaehkaa", sum := "0de9e32e7d7fe4e2a6139feebd2a889e99e4beb34760bfed678c5341d8025dd9", func := "loop.example/g01143/laws.FnExactTestNumber", spec := "fnExactTestNumber", inPlace := ["internal/bytealg.IndexByteString"], unfollowed := true, recurses := true, apart := false }
def FnExactTestNumberSaid : Prop := fnExactTestNumberRow.holds Try.pinned (OpenSpec.ofChange fnExactTestNumberSpec)

/-- ITS FALSE NEIGHBOUR: 'it returns false'. Refute it at one input. -/
def fnExactTestNumberWrong : ChangeSpec := { name := "fnExactTestNumber", fn := fun _ => fun
  | [d1, d2] => { results := [.lit (.bool false)], args := [d1, d2] }
  | _ => none }
def FnExactTestNumberWrongFalsely : Prop := fnExactTestNumberRow.holds Try.pinned (OpenSpec.ofChange fnExactTestNumberWrong)

/-- 'laws.FnExactFamilyOfPowers': WHATEVER THE INPUT: true; the input reads as it did. -/
def fnExactFamilyOfPowersSpec : ChangeSpec := { name := "fnExactFamilyOfPowers", fn := fun _ => fun
  | [d] => { results := [.lit (.bool true)], args := [d] }
  | _ => none }
def fnExactFamilyOfPowersRow : OpenClaim := { program := "ythomkmbobaehkaa", sum := "0de9e32e7d7fe4e2a6139feebd2a889e99e4beb34760bfed678c5341d8025dd9", func := "loop.example/g01143/laws.FnExactFamilyOfPowers", spec := "fnExactFamilyOfPowers", inPlace := ["internal/bytealg.IndexByteString", "internal/abi.NoEscape", "internal/bytealg.MakeNoZero"], apart := false }
def FnExactFamilyOfPowersSaid : Prop := fnExactFamilyOfPowersRow.holds Try.pinned (OpenSpec.ofChange fnExactFamilyOfPowersSpec)

/-- ITS FALSE NEIGHBOUR: 'it returns false'. Refute it at one input. -/
def fnExactFamilyOfPowersWrong : ChangeSpec := { name := "fnExactFamilyOfPowers", fn := fun _ => fun
  | [d] => { results := [.lit (.bool false)], args := [d] }
  | _ => none }
def FnExactFamilyOfPowersWrongFalsely : Prop := fnExactFamilyOfPowersRow.holds Try.pinned (OpenSpec.ofChange fnExactFamilyOfPowersWrong)

/- THE SECOND FORM. 'bulk': how many values and letters a reading holds, each counted each time it is reached (what is shared counts as often as it is met; a slice's spare places count too). A statement '..UptoSaid' is the law's where the arguments, and the package variables that the reading takes, are together of bulk at most 1048576: NARROWER than '..Said'. Prove '..Said' where nothing that the law and all that it calls make is longer than what came in: it says more and counts as full. Else prove '..UptoSaid'. A law counts once. -/
mutual
def uptoBulk {H : Type} : DataW H → Nat
  | .lit (.string bytes) => bytes.length + 1
  | .lit _ => 1
  | .nil => 1
  | .ptr d => uptoBulk d + 1
  | .slice elems spare => uptoBulkAll elems + uptoBulkAll spare + 1
  | .agg parts => uptoBulkAll parts + 1
  | .iface _ d => uptoBulk d + 1
  | .map entries => uptoBulkEntries entries + 1
  | .held _ => 1
def uptoBulkAll {H : Type} : List (DataW H) → Nat
  | [] => 0
  | d :: r => uptoBulk d + uptoBulkAll r
def uptoBulkEntries {H : Type} : List (Lit × DataW H) → Nat
  | [] => 0
  | x :: r => uptoBulkEntry x + uptoBulkEntries r
def uptoBulkEntry {H : Type} : Lit × DataW H → Nat
  | (.string bytes, d) => bytes.length + uptoBulk d + 1
  | (_, d) => uptoBulk d + 1
 end
def uptoSmall : (H : Type) → List (DataW H) → Bool := fun _ ds => decide (uptoBulkAll ds ≤ 1048576)
def OpenSpec.upto (s : _root_.Go.ChangeSpec) : _root_.Go.OpenSpec := { _root_.Go.OpenSpec.ofChange s with cond := some uptoSmall }

/-- 'laws.FnExactTermLength', WHERE WHAT IT READS IS OF BULK AT MOST 1048576: true; the input reads as it did. -/
def fnExactTermLengthUptoRow : OpenClaim := { program := "ythomkmbobaehkaa", sum := "0de9e32e7d7fe4e2a6139feebd2a889e99e4beb34760bfed678c5341d8025dd9", func := "loop.example/g01143/laws.FnExactTermLength", spec := "fnExactTermLength", inPlace := ["internal/bytealg.IndexByteString"], apart := false, narrowed := true }
def FnExactTermLengthUptoSaid : Prop := fnExactTermLengthUptoRow.holds Try.pinned (OpenSpec.upto fnExactTermLengthSpec)

/-- 'laws.FnExactHolds', WHERE WHAT IT READS IS OF BULK AT MOST 1048576: true; the input reads as it did. -/
def fnExactHoldsUptoRow : OpenClaim := { program := "ythomkmbobaehkaa", sum := "0de9e32e7d7fe4e2a6139feebd2a889e99e4beb34760bfed678c5341d8025dd9", func := "loop.example/g01143/laws.FnExactHolds", spec := "fnExactHolds", inPlace := ["internal/bytealg.IndexByteString", "internal/abi.NoEscape"], apart := false, narrowed := true }
def FnExactHoldsUptoSaid : Prop := fnExactHoldsUptoRow.holds Try.pinned (OpenSpec.upto fnExactHoldsSpec)

/-- 'laws.FnExactFamilyAt', WHERE WHAT IT READS IS OF BULK AT MOST 1048576: true; the input reads as it did. -/
def fnExactFamilyAtUptoRow : OpenClaim := { program := "ythomkmbobaehkaa", sum := "0de9e32e7d7fe4e2a6139feebd2a889e99e4beb34760bfed678c5341d8025dd9", func := "loop.example/g01143/laws.FnExactFamilyAt", spec := "fnExactFamilyAt", inPlace := ["internal/bytealg.IndexByteString", "internal/abi.NoEscape", "internal/bytealg.MakeNoZero"], unfollowed := true, recurses := true, apart := false, narrowed := true }
def FnExactFamilyAtUptoSaid : Prop := fnExactFamilyAtUptoRow.holds Try.pinned (OpenSpec.upto fnExactFamilyAtSpec)

/-- 'laws.FnExactFamilyLengths', WHERE WHAT IT READS IS OF BULK AT MOST 1048576: true; the input reads as it did. -/
def fnExactFamilyLengthsUptoRow : OpenClaim := { program := "ythomkmbobaehkaa", sum := "0de9e32e7d7fe4e2a6139feebd2a889e99e4beb34760bfed678c5341d8025dd9", func := "loop.example/g01143/laws.FnExactFamilyLengths", spec := "fnExactFamilyLengths", inPlace := ["internal/bytealg.IndexByteString"], unfollowed := true, recurses := true, apart := false, narrowed := true }
def FnExactFamilyLengthsUptoSaid : Prop := fnExactFamilyLengthsUptoRow.holds Try.pinned (OpenSpec.upto fnExactFamilyLengthsSpec)

/-- 'laws.FnExactTestNumber', WHERE WHAT IT READS IS OF BULK AT MOST 1048576: true; the input reads as it did. -/
def fnExactTestNumberUptoRow : OpenClaim := { program := "ythomkmbobaehkaa", sum := "0de9e32e7d7fe4e2a6139feebd2a889e99e4beb34760bfed678c5341d8025dd9", func := "loop.example/g01143/laws.FnExactTestNumber", spec := "fnExactTestNumber", inPlace := ["internal/bytealg.IndexByteString"], unfollowed := true, recurses := true, apart := false, narrowed := true }
def FnExactTestNumberUptoSaid : Prop := fnExactTestNumberUptoRow.holds Try.pinned (OpenSpec.upto fnExactTestNumberSpec)

/-- 'laws.FnExactFamilyOfPowers', WHERE WHAT IT READS IS OF BULK AT MOST 1048576: true; the input reads as it did. -/
def fnExactFamilyOfPowersUptoRow : OpenClaim := { program := "ythomkmbobaehkaa", sum := "0de9e32e7d7fe4e2a6139feebd2a889e99e4beb34760bfed678c5341d8025dd9", func := "loop.example/g01143/laws.FnExactFamilyOfPowers", spec := "fnExactFamilyOfPowers", inPlace := ["internal/bytealg.IndexByteString", "internal/abi.NoEscape", "internal/bytealg.MakeNoZero"], apart := false, narrowed := true }
def FnExactFamilyOfPowersUptoSaid : Prop := fnExactFamilyOfPowersUptoRow.holds Try.pinned (OpenSpec.upto fnExactFamilyOfPowersSpec)

end Rows
end Go.Proofs.Ythomkmbobaehkaa
