/-
  No cell of these rows narrows 'for every input' (looked for: loops, veiled, ifaces, maps, wideKeys, modest, calm, conditions, laid).
  DERIVED. THE GIVEN ROWS OF THIS SEAT. 6 by the template 'for every input the law returns true; each argument reads behind the call as it read before'; 0 by the template 'total and deterministic' (their statements: YtlmdmbhmmfdajaaTotals.lean).
  GIVEN WITH THE SEED: the statements are not yours to turn. If you find one false, say at which input.
  Laid BY PROGRAM, IN A SANDBOX (cutbox-rows.mjs): the forced cells as the released guide's own fill.sh prints them over the translation 2e35362119fd1c4b… (all of the seat's roots in one cut). By AI agents, Wed Nov 11 2026. No macro, syntax, notation, axiom, sorry.
-/
import Derived.Test.YtlmdmbhmmfdajaaChecked
import GoSem.Claim
import GoSem.ClaimJoined
import GoSem.ClaimMapViews
import Derived.JoinedTies
import Derived.KernelRfl
namespace Go.Proofs.Ytlmdmbhmmfdajaa
/- THE CELL 'sum', in the pinned program and in every row, IS THE sha256 OF THE DUMP (.gsa) THAT YtlmdmbhmmfdajaaProg.lean LOADS. Nothing in Lean hashes anything: it is a label: what it is worth is what the hold of that sum in a sandbox is worth. -/
noncomputable def Try.pinned : Pinned := { name := "ytlmdmbhmmfdajaa", sum := "2e35362119fd1c4b54af32ed044bbdb637f3d15698316e3ac7414a82315d4114", checked := Try.checked }
namespace Rows
def none {H : Type} : Left H := { results := [], args := [] }

/-- 'laws.FnExactValidFamily': WHATEVER THE INPUT: true; the input reads as it did. -/
def fnExactValidFamilySpec : ChangeSpec := { name := "fnExactValidFamily", fn := fun _ => fun
  | [d] => { results := [.lit (.bool true)], args := [d] }
  | _ => none }
def fnExactValidFamilyRow : OpenClaim := { program := "ytlmdmbhmmfdajaa", sum := "2e35362119fd1c4b54af32ed044bbdb637f3d15698316e3ac7414a82315d4114", func := "loop.example/g01143/laws.FnExactValidFamily", spec := "fnExactValidFamily", inPlace := ["internal/bytealg.IndexByteString"], unfollowed := true, recurses := true, apart := false }
def FnExactValidFamilySaid : Prop := fnExactValidFamilyRow.holds Try.pinned (OpenSpec.ofChange fnExactValidFamilySpec)

/-- ITS FALSE NEIGHBOUR: 'it returns false'. Refute it at one input. -/
def fnExactValidFamilyWrong : ChangeSpec := { name := "fnExactValidFamily", fn := fun _ => fun
  | [d] => { results := [.lit (.bool false)], args := [d] }
  | _ => none }
def FnExactValidFamilyWrongFalsely : Prop := fnExactValidFamilyRow.holds Try.pinned (OpenSpec.ofChange fnExactValidFamilyWrong)

/-- 'laws.FnExactSameFamily': WHATEVER THE INPUT: true; the input reads as it did. -/
def fnExactSameFamilySpec : ChangeSpec := { name := "fnExactSameFamily", fn := fun _ => fun
  | [d1, d2] => { results := [.lit (.bool true)], args := [d1, d2] }
  | _ => none }
def fnExactSameFamilyRow : OpenClaim := { program := "ytlmdmbhmmfdajaa", sum := "2e35362119fd1c4b54af32ed044bbdb637f3d15698316e3ac7414a82315d4114", func := "loop.example/g01143/laws.FnExactSameFamily", spec := "fnExactSameFamily", unfollowed := true, recurses := true, apart := false }
def FnExactSameFamilySaid : Prop := fnExactSameFamilyRow.holds Try.pinned (OpenSpec.ofChange fnExactSameFamilySpec)

/-- ITS FALSE NEIGHBOUR: 'it returns false'. Refute it at one input. -/
def fnExactSameFamilyWrong : ChangeSpec := { name := "fnExactSameFamily", fn := fun _ => fun
  | [d1, d2] => { results := [.lit (.bool false)], args := [d1, d2] }
  | _ => none }
def FnExactSameFamilyWrongFalsely : Prop := fnExactSameFamilyRow.holds Try.pinned (OpenSpec.ofChange fnExactSameFamilyWrong)

/-- 'laws.FnExactCommutingFamily': WHATEVER THE INPUT: true; the input reads as it did. -/
def fnExactCommutingFamilySpec : ChangeSpec := { name := "fnExactCommutingFamily", fn := fun _ => fun
  | [d1, d2, d3] => { results := [.lit (.bool true)], args := [d1, d2, d3] }
  | _ => none }
def fnExactCommutingFamilyRow : OpenClaim := { program := "ytlmdmbhmmfdajaa", sum := "2e35362119fd1c4b54af32ed044bbdb637f3d15698316e3ac7414a82315d4114", func := "loop.example/g01143/laws.FnExactCommutingFamily", spec := "fnExactCommutingFamily", inPlace := ["internal/bytealg.IndexByteString"], apart := false }
def FnExactCommutingFamilySaid : Prop := fnExactCommutingFamilyRow.holds Try.pinned (OpenSpec.ofChange fnExactCommutingFamilySpec)

/-- ITS FALSE NEIGHBOUR: 'it returns false'. Refute it at one input. -/
def fnExactCommutingFamilyWrong : ChangeSpec := { name := "fnExactCommutingFamily", fn := fun _ => fun
  | [d1, d2, d3] => { results := [.lit (.bool false)], args := [d1, d2, d3] }
  | _ => none }
def FnExactCommutingFamilyWrongFalsely : Prop := fnExactCommutingFamilyRow.holds Try.pinned (OpenSpec.ofChange fnExactCommutingFamilyWrong)

/-- 'laws.FnExactShiftingFamily': WHATEVER THE INPUT: true; the input reads as it did. -/
def fnExactShiftingFamilySpec : ChangeSpec := { name := "fnExactShiftingFamily", fn := fun _ => fun
  | [d1, d2] => { results := [.lit (.bool true)], args := [d1, d2] }
  | _ => none }
def fnExactShiftingFamilyRow : OpenClaim := { program := "ytlmdmbhmmfdajaa", sum := "2e35362119fd1c4b54af32ed044bbdb637f3d15698316e3ac7414a82315d4114", func := "loop.example/g01143/laws.FnExactShiftingFamily", spec := "fnExactShiftingFamily", inPlace := ["internal/bytealg.IndexByteString"], apart := false }
def FnExactShiftingFamilySaid : Prop := fnExactShiftingFamilyRow.holds Try.pinned (OpenSpec.ofChange fnExactShiftingFamilySpec)

/-- ITS FALSE NEIGHBOUR: 'it returns false'. Refute it at one input. -/
def fnExactShiftingFamilyWrong : ChangeSpec := { name := "fnExactShiftingFamily", fn := fun _ => fun
  | [d1, d2] => { results := [.lit (.bool false)], args := [d1, d2] }
  | _ => none }
def FnExactShiftingFamilyWrongFalsely : Prop := fnExactShiftingFamilyRow.holds Try.pinned (OpenSpec.ofChange fnExactShiftingFamilyWrong)

/-- 'laws.FnExactLeviParts': WHATEVER THE INPUT: true; the input reads as it did. -/
def fnExactLeviPartsSpec : ChangeSpec := { name := "fnExactLeviParts", fn := fun _ => fun
  | [d1, d2, d3, d4] => { results := [.lit (.bool true)], args := [d1, d2, d3, d4] }
  | _ => none }
def fnExactLeviPartsRow : OpenClaim := { program := "ytlmdmbhmmfdajaa", sum := "2e35362119fd1c4b54af32ed044bbdb637f3d15698316e3ac7414a82315d4114", func := "loop.example/g01143/laws.FnExactLeviParts", spec := "fnExactLeviParts", inPlace := ["internal/bytealg.IndexByteString"], apart := false }
def FnExactLeviPartsSaid : Prop := fnExactLeviPartsRow.holds Try.pinned (OpenSpec.ofChange fnExactLeviPartsSpec)

/-- ITS FALSE NEIGHBOUR: 'it returns false'. Refute it at one input. -/
def fnExactLeviPartsWrong : ChangeSpec := { name := "fnExactLeviParts", fn := fun _ => fun
  | [d1, d2, d3, d4] => { results := [.lit (.bool false)], args := [d1, d2, d3, d4] }
  | _ => none }
def FnExactLeviPartsWrongFalsely : Prop := fnExactLeviPartsRow.holds Try.pinned (OpenSpec.ofChange fnExactLeviPartsWrong)

/-- 'laws.FnExactPowersMeet': WHATEVER THE INPUT: true; the input reads as it did. -/
def fnExactPowersMeetSpec : ChangeSpec := { name := "fnExactPowersMeet", fn := fun _ => fun
  | [d1, d2, d3, d4, d5, d6] => { results := [.lit (.bool true)], args := [d1, d2, d3, d4, d5, d6] }
  | _ => none }
def fnExactPowersMeetRow : OpenClaim := { program := "ytlmdmbhmmfdajaa", sum := "2e35362119fd1c4b54af32ed044bbdb637f3d15698316e3ac7414a82315d4114", func := "loop.example/g01143/laws.FnExactPowersMeet", spec := "fnExactPowersMeet", inPlace := ["internal/bytealg.IndexByteString", "internal/abi.NoEscape", "internal/bytealg.MakeNoZero"], apart := false }
def FnExactPowersMeetSaid : Prop := fnExactPowersMeetRow.holds Try.pinned (OpenSpec.ofChange fnExactPowersMeetSpec)

/-- ITS FALSE NEIGHBOUR: 'it returns false'. Refute it at one input. -/
def fnExactPowersMeetWrong : ChangeSpec := { name := "fnExactPowersMeet", fn := fun _ => fun
  | [d1, d2, d3, d4, d5, d6] => { results := [.lit (.bool false)], args := [d1, d2, d3, d4, d5, d6] }
  | _ => none }
def FnExactPowersMeetWrongFalsely : Prop := fnExactPowersMeetRow.holds Try.pinned (OpenSpec.ofChange fnExactPowersMeetWrong)

/- THE SECOND FORM. 'bulk': how many values and letters a reading holds, each counted each time it is reached (what is shared counts as often as it is met; a slice's spare places count too). A statement '..UptoSaid' is the law's where the arguments, and the package variables that the reading takes, are together of bulk at most 1048576: NARROWER than '..Said'. Prove '..Said' where nothing that the law and all that it calls make is longer than what came in: it says more and counts as full. Else prove '..UptoSaid'. A law counts once. -/
mutual
def uptoBulk {H : Type} : DataW H → Nat
  | .lit (.string bytes) => bytes.length + 1
  | .lit _ => 1
  | .nil => 1
  | .ptr d => uptoBulk d + 1
  | .slice elems spare => uptoBulkAll elems + uptoBulkAll spare + 1
  | .agg parts => uptoBulkAll parts + 1
  | .iface _ d => uptoBulk d + 1
  | .map entries => uptoBulkEntries entries + 1
  | .held _ => 1
def uptoBulkAll {H : Type} : List (DataW H) → Nat
  | [] => 0
  | d :: r => uptoBulk d + uptoBulkAll r
def uptoBulkEntries {H : Type} : List (Lit × DataW H) → Nat
  | [] => 0
  | x :: r => uptoBulkEntry x + uptoBulkEntries r
def uptoBulkEntry {H : Type} : Lit × DataW H → Nat
  | (.string bytes, d) => bytes.length + uptoBulk d + 1
  | (_, d) => uptoBulk d + 1
 end
def uptoSmall : (H : Type) → List (DataW H) → Bool := fun _ ds => decide (uptoBulkAll ds ≤ 1048576)
def OpenSpec.upto (s : _root_.Go.ChangeSpec) : _root_.Go.OpenSpec := { _root_.Go.OpenSpec.ofChange s with cond := some uptoSmall }

/-- 'laws.FnExactValidFamily', WHERE WHAT IT READS IS OF BULK AT MOST 1048576: true; the input reads as it did. -/
def fnExactValidFamilyUptoRow : OpenClaim := { program := "ytlmdmbhmmfdajaa", sum := "2e35362119fd1c4b54af32ed044bbdb637f3d15698316e3ac7414a82315d4114", func := "loop.example/g01143/laws.FnExactValidFamily", spec := "fnExactValidFamily", inPlace := ["internal/bytealg.IndexByteString"], unfollowed := true, recurses := true, apart := false, narrowed := true }
def FnExactValidFamilyUptoSaid : Prop := fnExactValidFamilyUptoRow.holds Try.pinned (OpenSpec.upto fnExactValidFamilySpec)

/-- 'laws.FnExactSameFamily', WHERE WHAT IT READS IS OF BULK AT MOST 1048576: true; the input reads as it did. -/
def fnExactSameFamilyUptoRow : OpenClaim := { program := "ytlmdmbhmmfdajaa", sum := "2e35362119fd1c4b54af32ed044bbdb637f3d15698316e3ac7414a82315d4114", func := "loop.example/g01143/laws.FnExactSameFamily", spec := "fnExactSameFamily", unfollowed := true, recurses := true, apart := false, narrowed := true }
def FnExactSameFamilyUptoSaid : Prop := fnExactSameFamilyUptoRow.holds Try.pinned (OpenSpec.upto fnExactSameFamilySpec)

/-- 'laws.FnExactCommutingFamily', WHERE WHAT IT READS IS OF BULK AT MOST 1048576: true; the input reads as it did. -/
def fnExactCommutingFamilyUptoRow : OpenClaim := { program := "ytlmdmbhmmfdajaa", sum := "2e35362119fd1c4b54af32ed044bbdb637f3d15698316e3ac7414a82315d4114", func := "loop.example/g01143/laws.FnExactCommutingFamily", spec := "fnExactCommutingFamily", inPlace := ["internal/bytealg.IndexByteString"], apart := false, narrowed := true }
def FnExactCommutingFamilyUptoSaid : Prop := fnExactCommutingFamilyUptoRow.holds Try.pinned (OpenSpec.upto fnExactCommutingFamilySpec)

/-- 'laws.FnExactShiftingFamily', WHERE WHAT IT READS IS OF BULK AT MOST 1048576: true; the input reads as it did. -/
def fnExactShiftingFamilyUptoRow : OpenClaim := { program := "ytlmdmbhmmfdajaa", sum := "2e35362119fd1c4b54af32ed044bbdb637f3d15698316e3ac7414a82315d4114", func := "loop.example/g01143/laws.FnExactShiftingFamily", spec := "fnExactShiftingFamily", inPlace := ["internal/bytealg.IndexByteString"], apart := false, narrowed := true }
def FnExactShiftingFamilyUptoSaid : Prop := fnExactShiftingFamilyUptoRow.holds Try.pinned (OpenSpec.upto fnExactShiftingFamilySpec)

/-- 'laws.FnExactLeviParts', WHERE WHAT IT READS IS OF BULK AT MOST 1048576: true; the input reads as it did. -/
def fnExactLeviPartsUptoRow : OpenClaim := { program := "ytlmdmbhmmfdajaa", sum := "2e35362119fd1c4b54af32ed044bbdb637f3d15698316e3ac7414a82315d4114", func := "loop.example/g01143/laws.FnExactLeviParts", spec := "fnExactLeviParts", inPlace := ["internal/bytealg.IndexByteString"], apart := false, narrowed := true }
def FnExactLeviPartsUptoSaid : Prop := fnExactLeviPartsUptoRow.holds Try.pinned (OpenSpec.upto fnExactLeviPartsSpec)

/-- 'laws.FnExactPowersMeet', WHERE WHAT IT READS IS OF BULK AT MOST 1048576: true; the input reads as it did. -/
def fnExactPowersMeetUptoRow : OpenClaim := { program := "ytlmdmbhmmfdajaa", sum := "2e35362119fd1c4b54af32ed044bbdb637f3d15698316e3ac7414a82315d4114", func := "loop.example/g01143/laws.FnExactPowersMeet", spec := "fnExactPowersMeet", inPlace := ["internal/bytealg.IndexByteString", "internal/abi.NoEscape", "internal/bytealg.MakeNoZero"], apart := false, narrowed := true }
def FnExactPowersMeetUptoSaid : Prop := fnExactPowersMeetUptoRow.holds Try.pinned (OpenSpec.upto fnExactPowersMeetSpec)

end Rows
end Go.Proofs.Ytlmdmbhmmfdajaa
