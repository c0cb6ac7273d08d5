/-
  No cell of these rows narrows 'for every input' (looked for: loops, veiled, ifaces, maps, wideKeys, modest, calm, conditions, laid).
  DERIVED. THE GIVEN ROWS OF THIS SEAT. 8 by the template 'for every input the law returns true; each argument reads behind the call as it read before'; 0 by the template 'total and deterministic' (their statements: YtchdopicdjdmcaaTotals.lean).
  GIVEN WITH THE SEED: the statements are not yours to turn. If you find one false, say at which input.
  Laid BY PROGRAM, IN A SANDBOX (cutbox-rows.mjs): the forced cells as the released guide's own fill.sh prints them over the translation 73d8178071a29171… (all of the seat's roots in one cut). By AI agents, Wed Nov 11 2026. No macro, syntax, notation, axiom, sorry.
-/
import Derived.Test.YtchdopicdjdmcaaChecked
import GoSem.Claim
import GoSem.ClaimJoined
import GoSem.ClaimMapViews
import Derived.JoinedTies
import Derived.KernelRfl
namespace Go.Proofs.Ytchdopicdjdmcaa
/- THE CELL 'sum', in the pinned program and in every row, IS THE sha256 OF THE DUMP (.gsa) THAT YtchdopicdjdmcaaProg.lean LOADS. Nothing in Lean hashes anything: it is a label: what it is worth is what the hold of that sum in a sandbox is worth. -/
noncomputable def Try.pinned : Pinned := { name := "ytchdopicdjdmcaa", sum := "73d8178071a291719f49ae79320e3d04e26e6c888d46e8afa22a25451aaa7be4", checked := Try.checked }
namespace Rows
def none {H : Type} : Left H := { results := [], args := [] }

/-- 'laws.FnMaps': WHATEVER THE INPUT: true; the input reads as it did. -/
def fnMapsSpec : ChangeSpec := { name := "fnMaps", fn := fun _ => fun
  | [d1, d2] => { results := [.lit (.bool true)], args := [d1, d2] }
  | _ => none }
def fnMapsRow : OpenClaim := { program := "ytchdopicdjdmcaa", sum := "73d8178071a291719f49ae79320e3d04e26e6c888d46e8afa22a25451aaa7be4", func := "loop.example/g01143/laws.FnMaps", spec := "fnMaps", inPlace := ["internal/bytealg.IndexByteString"], plainKeys := false, apart := false }
def FnMapsSaid : Prop := fnMapsRow.holds Try.pinned (OpenSpec.ofChange fnMapsSpec)

/-- ITS FALSE NEIGHBOUR: 'it returns false'. Refute it at one input. -/
def fnMapsWrong : ChangeSpec := { name := "fnMaps", fn := fun _ => fun
  | [d1, d2] => { results := [.lit (.bool false)], args := [d1, d2] }
  | _ => none }
def FnMapsWrongFalsely : Prop := fnMapsRow.holds Try.pinned (OpenSpec.ofChange fnMapsWrong)

/-- 'laws.FnAllowed': WHATEVER THE INPUT: true; the input reads as it did. -/
def fnAllowedSpec : ChangeSpec := { name := "fnAllowed", fn := fun _ => fun
  | [d1, d2] => { results := [.lit (.bool true)], args := [d1, d2] }
  | _ => none }
def fnAllowedRow : OpenClaim := { program := "ytchdopicdjdmcaa", sum := "73d8178071a291719f49ae79320e3d04e26e6c888d46e8afa22a25451aaa7be4", func := "loop.example/g01143/laws.FnAllowed", spec := "fnAllowed", inPlace := ["internal/bytealg.IndexByteString"], unfollowed := true, recurses := true, plainKeys := false, apart := false }
def FnAllowedSaid : Prop := fnAllowedRow.holds Try.pinned (OpenSpec.ofChange fnAllowedSpec)

/-- ITS FALSE NEIGHBOUR: 'it returns false'. Refute it at one input. -/
def fnAllowedWrong : ChangeSpec := { name := "fnAllowed", fn := fun _ => fun
  | [d1, d2] => { results := [.lit (.bool false)], args := [d1, d2] }
  | _ => none }
def FnAllowedWrongFalsely : Prop := fnAllowedRow.holds Try.pinned (OpenSpec.ofChange fnAllowedWrong)

/-- 'laws.FnExactMapsOf': WHATEVER THE INPUT: true; the input reads as it did. -/
def fnExactMapsOfSpec : ChangeSpec := { name := "fnExactMapsOf", fn := fun _ => fun
  | [d] => { results := [.lit (.bool true)], args := [d] }
  | _ => none }
def fnExactMapsOfRow : OpenClaim := { program := "ytchdopicdjdmcaa", sum := "73d8178071a291719f49ae79320e3d04e26e6c888d46e8afa22a25451aaa7be4", func := "loop.example/g01143/laws.FnExactMapsOf", spec := "fnExactMapsOf", plainKeys := false, apart := false }
def FnExactMapsOfSaid : Prop := fnExactMapsOfRow.holds Try.pinned (OpenSpec.ofChange fnExactMapsOfSpec)

/-- ITS FALSE NEIGHBOUR: 'it returns false'. Refute it at one input. -/
def fnExactMapsOfWrong : ChangeSpec := { name := "fnExactMapsOf", fn := fun _ => fun
  | [d] => { results := [.lit (.bool false)], args := [d] }
  | _ => none }
def FnExactMapsOfWrongFalsely : Prop := fnExactMapsOfRow.holds Try.pinned (OpenSpec.ofChange fnExactMapsOfWrong)

/-- 'laws.FnExactMapProduct': WHATEVER THE INPUT: true; the input reads as it did. -/
def fnExactMapProductSpec : ChangeSpec := { name := "fnExactMapProduct", fn := fun _ => fun
  | [d1, d2, d3] => { results := [.lit (.bool true)], args := [d1, d2, d3] }
  | _ => none }
def fnExactMapProductRow : OpenClaim := { program := "ytchdopicdjdmcaa", sum := "73d8178071a291719f49ae79320e3d04e26e6c888d46e8afa22a25451aaa7be4", func := "loop.example/g01143/laws.FnExactMapProduct", spec := "fnExactMapProduct", plainKeys := false, apart := false }
def FnExactMapProductSaid : Prop := fnExactMapProductRow.holds Try.pinned (OpenSpec.ofChange fnExactMapProductSpec)

/-- ITS FALSE NEIGHBOUR: 'it returns false'. Refute it at one input. -/
def fnExactMapProductWrong : ChangeSpec := { name := "fnExactMapProduct", fn := fun _ => fun
  | [d1, d2, d3] => { results := [.lit (.bool false)], args := [d1, d2, d3] }
  | _ => none }
def FnExactMapProductWrongFalsely : Prop := fnExactMapProductRow.holds Try.pinned (OpenSpec.ofChange fnExactMapProductWrong)

/-- 'laws.FnExactHoldsWithin': WHATEVER THE INPUT: true; the input reads as it did. -/
def fnExactHoldsWithinSpec : ChangeSpec := { name := "fnExactHoldsWithin", fn := fun _ => fun
  | [d1, d2, d3] => { results := [.lit (.bool true)], args := [d1, d2, d3] }
  | _ => none }
def fnExactHoldsWithinRow : OpenClaim := { program := "ytchdopicdjdmcaa", sum := "73d8178071a291719f49ae79320e3d04e26e6c888d46e8afa22a25451aaa7be4", func := "loop.example/g01143/laws.FnExactHoldsWithin", spec := "fnExactHoldsWithin", inPlace := ["internal/bytealg.IndexByteString", "internal/abi.NoEscape", "internal/bytealg.IndexString"], named := ["internal/bytealg.MaxLen"], plainKeys := false, apart := false }
def FnExactHoldsWithinSaid : Prop := fnExactHoldsWithinRow.holds Try.pinned (OpenSpec.ofChange fnExactHoldsWithinSpec)

/-- ITS FALSE NEIGHBOUR: 'it returns false'. Refute it at one input. -/
def fnExactHoldsWithinWrong : ChangeSpec := { name := "fnExactHoldsWithin", fn := fun _ => fun
  | [d1, d2, d3] => { results := [.lit (.bool false)], args := [d1, d2, d3] }
  | _ => none }
def FnExactHoldsWithinWrongFalsely : Prop := fnExactHoldsWithinRow.holds Try.pinned (OpenSpec.ofChange fnExactHoldsWithinWrong)

/-- 'laws.FnExactCountWithin': WHATEVER THE INPUT: true; the input reads as it did. -/
def fnExactCountWithinSpec : ChangeSpec := { name := "fnExactCountWithin", fn := fun _ => fun
  | [d1, d2, d3] => { results := [.lit (.bool true)], args := [d1, d2, d3] }
  | _ => none }
def fnExactCountWithinRow : OpenClaim := { program := "ytchdopicdjdmcaa", sum := "73d8178071a291719f49ae79320e3d04e26e6c888d46e8afa22a25451aaa7be4", func := "loop.example/g01143/laws.FnExactCountWithin", spec := "fnExactCountWithin", inPlace := ["internal/bytealg.IndexByteString", "internal/bytealg.IndexString"], unfollowed := true, recurses := true, named := ["internal/bytealg.MaxLen"], plainKeys := false, apart := false }
def FnExactCountWithinSaid : Prop := fnExactCountWithinRow.holds Try.pinned (OpenSpec.ofChange fnExactCountWithinSpec)

/-- ITS FALSE NEIGHBOUR: 'it returns false'. Refute it at one input. -/
def fnExactCountWithinWrong : ChangeSpec := { name := "fnExactCountWithin", fn := fun _ => fun
  | [d1, d2, d3] => { results := [.lit (.bool false)], args := [d1, d2, d3] }
  | _ => none }
def FnExactCountWithinWrongFalsely : Prop := fnExactCountWithinRow.holds Try.pinned (OpenSpec.ofChange fnExactCountWithinWrong)

/-- 'laws.FnExactHoldsApart': WHATEVER THE INPUT: true; the input reads as it did. -/
def fnExactHoldsApartSpec : ChangeSpec := { name := "fnExactHoldsApart", fn := fun _ => fun
  | [d1, d2, d3] => { results := [.lit (.bool true)], args := [d1, d2, d3] }
  | _ => none }
def fnExactHoldsApartRow : OpenClaim := { program := "ytchdopicdjdmcaa", sum := "73d8178071a291719f49ae79320e3d04e26e6c888d46e8afa22a25451aaa7be4", func := "loop.example/g01143/laws.FnExactHoldsApart", spec := "fnExactHoldsApart", inPlace := ["internal/bytealg.IndexByteString", "internal/abi.NoEscape"], plainKeys := false, apart := false }
def FnExactHoldsApartSaid : Prop := fnExactHoldsApartRow.holds Try.pinned (OpenSpec.ofChange fnExactHoldsApartSpec)

/-- ITS FALSE NEIGHBOUR: 'it returns false'. Refute it at one input. -/
def fnExactHoldsApartWrong : ChangeSpec := { name := "fnExactHoldsApart", fn := fun _ => fun
  | [d1, d2, d3] => { results := [.lit (.bool false)], args := [d1, d2, d3] }
  | _ => none }
def FnExactHoldsApartWrongFalsely : Prop := fnExactHoldsApartRow.holds Try.pinned (OpenSpec.ofChange fnExactHoldsApartWrong)

/-- 'laws.FnExactLeastApart': WHATEVER THE INPUT: true; the input reads as it did. -/
def fnExactLeastApartSpec : ChangeSpec := { name := "fnExactLeastApart", fn := fun _ => fun
  | [d1, d2, d3] => { results := [.lit (.bool true)], args := [d1, d2, d3] }
  | _ => none }
def fnExactLeastApartRow : OpenClaim := { program := "ytchdopicdjdmcaa", sum := "73d8178071a291719f49ae79320e3d04e26e6c888d46e8afa22a25451aaa7be4", func := "loop.example/g01143/laws.FnExactLeastApart", spec := "fnExactLeastApart", inPlace := ["internal/bytealg.IndexByteString", "internal/bytealg.IndexString", "internal/abi.NoEscape"], unfollowed := true, recurses := true, named := ["internal/bytealg.MaxLen"], plainKeys := false, apart := false }
def FnExactLeastApartSaid : Prop := fnExactLeastApartRow.holds Try.pinned (OpenSpec.ofChange fnExactLeastApartSpec)

/-- ITS FALSE NEIGHBOUR: 'it returns false'. Refute it at one input. -/
def fnExactLeastApartWrong : ChangeSpec := { name := "fnExactLeastApart", fn := fun _ => fun
  | [d1, d2, d3] => { results := [.lit (.bool false)], args := [d1, d2, d3] }
  | _ => none }
def FnExactLeastApartWrongFalsely : Prop := fnExactLeastApartRow.holds Try.pinned (OpenSpec.ofChange fnExactLeastApartWrong)

/- THE SECOND FORM. 'bulk': how many values and letters a reading holds, each counted each time it is reached (what is shared counts as often as it is met; a slice's spare places count too). A statement '..UptoSaid' is the law's where the arguments, and the package variables that the reading takes, are together of bulk at most 1048576: NARROWER than '..Said'. Prove '..Said' where nothing that the law and all that it calls make is longer than what came in: it says more and counts as full. Else prove '..UptoSaid'. A law counts once. -/
mutual
def uptoBulk {H : Type} : DataW H → Nat
  | .lit (.string bytes) => bytes.length + 1
  | .lit _ => 1
  | .nil => 1
  | .ptr d => uptoBulk d + 1
  | .slice elems spare => uptoBulkAll elems + uptoBulkAll spare + 1
  | .agg parts => uptoBulkAll parts + 1
  | .iface _ d => uptoBulk d + 1
  | .map entries => uptoBulkEntries entries + 1
  | .held _ => 1
def uptoBulkAll {H : Type} : List (DataW H) → Nat
  | [] => 0
  | d :: r => uptoBulk d + uptoBulkAll r
def uptoBulkEntries {H : Type} : List (Lit × DataW H) → Nat
  | [] => 0
  | x :: r => uptoBulkEntry x + uptoBulkEntries r
def uptoBulkEntry {H : Type} : Lit × DataW H → Nat
  | (.string bytes, d) => bytes.length + uptoBulk d + 1
  | (_, d) => uptoBulk d + 1
 end
def uptoSmall : (H : Type) → List (DataW H) → Bool := fun _ ds => decide (uptoBulkAll ds ≤ 1048576)
def OpenSpec.upto (s : _root_.Go.ChangeSpec) : _root_.Go.OpenSpec := { _root_.Go.OpenSpec.ofChange s with cond := some uptoSmall }

/-- 'laws.FnMaps', WHERE WHAT IT READS IS OF BULK AT MOST 1048576: true; the input reads as it did. -/
def fnMapsUptoRow : OpenClaim := { program := "ytchdopicdjdmcaa", sum := "73d8178071a291719f49ae79320e3d04e26e6c888d46e8afa22a25451aaa7be4", func := "loop.example/g01143/laws.FnMaps", spec := "fnMaps", inPlace := ["internal/bytealg.IndexByteString"], plainKeys := false, apart := false, narrowed := true }
def FnMapsUptoSaid : Prop := fnMapsUptoRow.holds Try.pinned (OpenSpec.upto fnMapsSpec)

/-- 'laws.FnAllowed', WHERE WHAT IT READS IS OF BULK AT MOST 1048576: true; the input reads as it did. -/
def fnAllowedUptoRow : OpenClaim := { program := "ytchdopicdjdmcaa", sum := "73d8178071a291719f49ae79320e3d04e26e6c888d46e8afa22a25451aaa7be4", func := "loop.example/g01143/laws.FnAllowed", spec := "fnAllowed", inPlace := ["internal/bytealg.IndexByteString"], unfollowed := true, recurses := true, plainKeys := false, apart := false, narrowed := true }
def FnAllowedUptoSaid : Prop := fnAllowedUptoRow.holds Try.pinned (OpenSpec.upto fnAllowedSpec)

/-- 'laws.FnExactMapsOf', WHERE WHAT IT READS IS OF BULK AT MOST 1048576: true; the input reads as it did. -/
def fnExactMapsOfUptoRow : OpenClaim := { program := "ytchdopicdjdmcaa", sum := "73d8178071a291719f49ae79320e3d04e26e6c888d46e8afa22a25451aaa7be4", func := "loop.example/g01143/laws.FnExactMapsOf", spec := "fnExactMapsOf", plainKeys := false, apart := false, narrowed := true }
def FnExactMapsOfUptoSaid : Prop := fnExactMapsOfUptoRow.holds Try.pinned (OpenSpec.upto fnExactMapsOfSpec)

/-- 'laws.FnExactMapProduct', WHERE WHAT IT READS IS OF BULK AT MOST 1048576: true; the input reads as it did. -/
def fnExactMapProductUptoRow : OpenClaim := { program := "ytchdopicdjdmcaa", sum := "73d8178071a291719f49ae79320e3d04e26e6c888d46e8afa22a25451aaa7be4", func := "loop.example/g01143/laws.FnExactMapProduct", spec := "fnExactMapProduct", plainKeys := false, apart := false, narrowed := true }
def FnExactMapProductUptoSaid : Prop := fnExactMapProductUptoRow.holds Try.pinned (OpenSpec.upto fnExactMapProductSpec)

/-- 'laws.FnExactHoldsWithin', WHERE WHAT IT READS IS OF BULK AT MOST 1048576: true; the input reads as it did. -/
def fnExactHoldsWithinUptoRow : OpenClaim := { program := "ytchdopicdjdmcaa", sum := "73d8178071a291719f49ae79320e3d04e26e6c888d46e8afa22a25451aaa7be4", func := "loop.example/g01143/laws.FnExactHoldsWithin", spec := "fnExactHoldsWithin", inPlace := ["internal/bytealg.IndexByteString", "internal/abi.NoEscape", "internal/bytealg.IndexString"], named := ["internal/bytealg.MaxLen"], plainKeys := false, apart := false, narrowed := true }
def FnExactHoldsWithinUptoSaid : Prop := fnExactHoldsWithinUptoRow.holds Try.pinned (OpenSpec.upto fnExactHoldsWithinSpec)

/-- 'laws.FnExactCountWithin', WHERE WHAT IT READS IS OF BULK AT MOST 1048576: true; the input reads as it did. -/
def fnExactCountWithinUptoRow : OpenClaim := { program := "ytchdopicdjdmcaa", sum := "73d8178071a291719f49ae79320e3d04e26e6c888d46e8afa22a25451aaa7be4", func := "loop.example/g01143/laws.FnExactCountWithin", spec := "fnExactCountWithin", inPlace := ["internal/bytealg.IndexByteString", "internal/bytealg.IndexString"], unfollowed := true, recurses := true, named := ["internal/bytealg.MaxLen"], plainKeys := false, apart := false, narrowed := true }
def FnExactCountWithinUptoSaid : Prop := fnExactCountWithinUptoRow.holds Try.pinned (OpenSpec.upto fnExactCountWithinSpec)

/-- 'laws.FnExactHoldsApart', WHERE WHAT IT READS IS OF BULK AT MOST 1048576: true; the input reads as it did. -/
def fnExactHoldsApartUptoRow : OpenClaim := { program := "ytchdopicdjdmcaa", sum := "73d8178071a291719f49ae79320e3d04e26e6c888d46e8afa22a25451aaa7be4", func := "loop.example/g01143/laws.FnExactHoldsApart", spec := "fnExactHoldsApart", inPlace := ["internal/bytealg.IndexByteString", "internal/abi.NoEscape"], plainKeys := false, apart := false, narrowed := true }
def FnExactHoldsApartUptoSaid : Prop := fnExactHoldsApartUptoRow.holds Try.pinned (OpenSpec.upto fnExactHoldsApartSpec)

/-- 'laws.FnExactLeastApart', WHERE WHAT IT READS IS OF BULK AT MOST 1048576: true; the input reads as it did. -/
def fnExactLeastApartUptoRow : OpenClaim := { program := "ytchdopicdjdmcaa", sum := "73d8178071a291719f49ae79320e3d04e26e6c888d46e8afa22a25451aaa7be4", func := "loop.example/g01143/laws.FnExactLeastApart", spec := "fnExactLeastApart", inPlace := ["internal/bytealg.IndexByteString", "internal/bytealg.IndexString", "internal/abi.NoEscape"], unfollowed := true, recurses := true, named := ["internal/bytealg.MaxLen"], plainKeys := false, apart := false, narrowed := true }
def FnExactLeastApartUptoSaid : Prop := fnExactLeastApartUptoRow.holds Try.pinned (OpenSpec.upto fnExactLeastApartSpec)

end Rows
end Go.Proofs.Ytchdopicdjdmcaa
