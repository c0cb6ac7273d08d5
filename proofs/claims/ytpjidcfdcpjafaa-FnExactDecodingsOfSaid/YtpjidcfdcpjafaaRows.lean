/-
  No cell of these rows narrows 'for every input' (looked for: loops, veiled, ifaces, maps, wideKeys, modest, calm, conditions, laid).
  DERIVED. THE GIVEN ROWS OF THIS SEAT. 7 by the template 'for every input the law returns true; each argument reads behind the call as it read before'; 0 by the template 'total and deterministic' (their statements: YtpjidcfdcpjafaaTotals.lean).
  GIVEN WITH THE SEED: the statements are not yours to turn. If you find one false, say at which input.
  Laid BY PROGRAM, IN A SANDBOX (cutbox-rows.mjs): the forced cells as the released guide's own fill.sh prints them over the translation 10eb5f211ed581d6… (all of the seat's roots in one cut). By AI agents, Wed Nov 11 2026. No macro, syntax, notation, axiom, sorry.
-/
import Derived.Test.YtpjidcfdcpjafaaChecked
import GoSem.Claim
import GoSem.ClaimJoined
import GoSem.ClaimMapViews
import Derived.JoinedTies
import Derived.KernelRfl
namespace Go.Proofs.Ytpjidcfdcpjafaa
/- THE CELL 'sum', in the pinned program and in every row, IS THE sha256 OF THE DUMP (.gsa) THAT YtpjidcfdcpjafaaProg.lean LOADS. Nothing in Lean hashes anything: it is a label: what it is worth is what the hold of that sum in a sandbox is worth. -/
noncomputable def Try.pinned : Pinned := { name := "ytpjidcfdcpjafaa", sum := "10eb5f211ed581d67f34b4a11e5521eaa1cb9a41ff449d52064d204530a74d5c", checked := Try.checked }
namespace Rows
def none {H : Type} : Left H := { results := [], args := [] }

/-- 'laws.FnDecodings': WHATEVER THE INPUT: true; the input reads as it did. -/
def fnDecodingsSpec : ChangeSpec := { name := "fnDecodings", fn := fun _ => fun
  | [d1, d2] => { results := [.lit (.bool true)], args := [d1, d2] }
  | _ => none }
def fnDecodingsRow : OpenClaim := { program := "ytpjidcfdcpjafaa", sum := "10eb5f211ed581d67f34b4a11e5521eaa1cb9a41ff449d52064d204530a74d5c", func := "loop.example/g01143/laws.FnDecodings", spec := "fnDecodings", inPlace := ["internal/bytealg.IndexByteString", "internal/abi.NoEscape"], recurses := true, apart := false }
def FnDecodingsSaid : Prop := fnDecodingsRow.holds Try.pinned (OpenSpec.ofChange fnDecodingsSpec)

/-- ITS FALSE NEIGHBOUR: 'it returns false'. Refute it at one input. -/
def fnDecodingsWrong : ChangeSpec := { name := "fnDecodings", fn := fun _ => fun
  | [d1, d2] => { results := [.lit (.bool false)], args := [d1, d2] }
  | _ => none }
def FnDecodingsWrongFalsely : Prop := fnDecodingsRow.holds Try.pinned (OpenSpec.ofChange fnDecodingsWrong)

/-- 'laws.FnImages': WHATEVER THE INPUT: true; the input reads as it did. -/
def fnImagesSpec : ChangeSpec := { name := "fnImages", fn := fun _ => fun
  | [d1, d2] => { results := [.lit (.bool true)], args := [d1, d2] }
  | _ => none }
def fnImagesRow : OpenClaim := { program := "ytpjidcfdcpjafaa", sum := "10eb5f211ed581d67f34b4a11e5521eaa1cb9a41ff449d52064d204530a74d5c", func := "loop.example/g01143/laws.FnImages", spec := "fnImages", inPlace := ["internal/bytealg.IndexByteString", "internal/abi.NoEscape"], unfollowed := true, recurses := true, apart := false }
def FnImagesSaid : Prop := fnImagesRow.holds Try.pinned (OpenSpec.ofChange fnImagesSpec)

/-- ITS FALSE NEIGHBOUR: 'it returns false'. Refute it at one input. -/
def fnImagesWrong : ChangeSpec := { name := "fnImages", fn := fun _ => fun
  | [d1, d2] => { results := [.lit (.bool false)], args := [d1, d2] }
  | _ => none }
def FnImagesWrongFalsely : Prop := fnImagesRow.holds Try.pinned (OpenSpec.ofChange fnImagesWrong)

/-- 'laws.FnEqualTo': WHATEVER THE INPUT: true; the input reads as it did. -/
def fnEqualToSpec : ChangeSpec := { name := "fnEqualTo", fn := fun _ => fun
  | [d1, d2] => { results := [.lit (.bool true)], args := [d1, d2] }
  | _ => none }
def fnEqualToRow : OpenClaim := { program := "ytpjidcfdcpjafaa", sum := "10eb5f211ed581d67f34b4a11e5521eaa1cb9a41ff449d52064d204530a74d5c", func := "loop.example/g01143/laws.FnEqualTo", spec := "fnEqualTo", inPlace := ["internal/bytealg.IndexByteString", "internal/abi.NoEscape"], unfollowed := true, recurses := true, apart := false }
def FnEqualToSaid : Prop := fnEqualToRow.holds Try.pinned (OpenSpec.ofChange fnEqualToSpec)

/-- ITS FALSE NEIGHBOUR: 'it returns false'. Refute it at one input. -/
def fnEqualToWrong : ChangeSpec := { name := "fnEqualTo", fn := fun _ => fun
  | [d1, d2] => { results := [.lit (.bool false)], args := [d1, d2] }
  | _ => none }
def FnEqualToWrongFalsely : Prop := fnEqualToRow.holds Try.pinned (OpenSpec.ofChange fnEqualToWrong)

/-- 'laws.FnExactCountDecodings': WHATEVER THE INPUT: true; the input reads as it did. -/
def fnExactCountDecodingsSpec : ChangeSpec := { name := "fnExactCountDecodings", fn := fun _ => fun
  | [d1, d2] => { results := [.lit (.bool true)], args := [d1, d2] }
  | _ => none }
def fnExactCountDecodingsRow : OpenClaim := { program := "ytpjidcfdcpjafaa", sum := "10eb5f211ed581d67f34b4a11e5521eaa1cb9a41ff449d52064d204530a74d5c", func := "loop.example/g01143/laws.FnExactCountDecodings", spec := "fnExactCountDecodings", inPlace := ["internal/bytealg.IndexByteString"], recurses := true, apart := false }
def FnExactCountDecodingsSaid : Prop := fnExactCountDecodingsRow.holds Try.pinned (OpenSpec.ofChange fnExactCountDecodingsSpec)

/-- ITS FALSE NEIGHBOUR: 'it returns false'. Refute it at one input. -/
def fnExactCountDecodingsWrong : ChangeSpec := { name := "fnExactCountDecodings", fn := fun _ => fun
  | [d1, d2] => { results := [.lit (.bool false)], args := [d1, d2] }
  | _ => none }
def FnExactCountDecodingsWrongFalsely : Prop := fnExactCountDecodingsRow.holds Try.pinned (OpenSpec.ofChange fnExactCountDecodingsWrong)

/-- 'laws.FnExactDecodingsOf': WHATEVER THE INPUT: true; the input reads as it did. -/
def fnExactDecodingsOfSpec : ChangeSpec := { name := "fnExactDecodingsOf", fn := fun _ => fun
  | [d1, d2] => { results := [.lit (.bool true)], args := [d1, d2] }
  | _ => none }
def fnExactDecodingsOfRow : OpenClaim := { program := "ytpjidcfdcpjafaa", sum := "10eb5f211ed581d67f34b4a11e5521eaa1cb9a41ff449d52064d204530a74d5c", func := "loop.example/g01143/laws.FnExactDecodingsOf", spec := "fnExactDecodingsOf", inPlace := ["internal/bytealg.IndexByteString"], recurses := true, apart := false }
def FnExactDecodingsOfSaid : Prop := fnExactDecodingsOfRow.holds Try.pinned (OpenSpec.ofChange fnExactDecodingsOfSpec)

/-- ITS FALSE NEIGHBOUR: 'it returns false'. Refute it at one input. -/
def fnExactDecodingsOfWrong : ChangeSpec := { name := "fnExactDecodingsOf", fn := fun _ => fun
  | [d1, d2] => { results := [.lit (.bool false)], args := [d1, d2] }
  | _ => none }
def FnExactDecodingsOfWrongFalsely : Prop := fnExactDecodingsOfRow.holds Try.pinned (OpenSpec.ofChange fnExactDecodingsOfWrong)

/-- 'laws.FnExactEqualTo': WHATEVER THE INPUT: true; the input reads as it did. -/
def fnExactEqualToSpec : ChangeSpec := { name := "fnExactEqualTo", fn := fun _ => fun
  | [d1, d2, d3, d4] => { results := [.lit (.bool true)], args := [d1, d2, d3, d4] }
  | _ => none }
def fnExactEqualToRow : OpenClaim := { program := "ytpjidcfdcpjafaa", sum := "10eb5f211ed581d67f34b4a11e5521eaa1cb9a41ff449d52064d204530a74d5c", func := "loop.example/g01143/laws.FnExactEqualTo", spec := "fnExactEqualTo", inPlace := ["internal/bytealg.IndexByteString", "internal/abi.NoEscape"], unfollowed := true, recurses := true, apart := false }
def FnExactEqualToSaid : Prop := fnExactEqualToRow.holds Try.pinned (OpenSpec.ofChange fnExactEqualToSpec)

/-- ITS FALSE NEIGHBOUR: 'it returns false'. Refute it at one input. -/
def fnExactEqualToWrong : ChangeSpec := { name := "fnExactEqualTo", fn := fun _ => fun
  | [d1, d2, d3, d4] => { results := [.lit (.bool false)], args := [d1, d2, d3, d4] }
  | _ => none }
def FnExactEqualToWrongFalsely : Prop := fnExactEqualToRow.holds Try.pinned (OpenSpec.ofChange fnExactEqualToWrong)

/-- 'laws.FnExactPrimesTo': WHATEVER THE INPUT: true; the input reads as it did. -/
def fnExactPrimesToSpec : ChangeSpec := { name := "fnExactPrimesTo", fn := fun _ => fun
  | [d1, d2, d3, d4] => { results := [.lit (.bool true)], args := [d1, d2, d3, d4] }
  | _ => none }
def fnExactPrimesToRow : OpenClaim := { program := "ytpjidcfdcpjafaa", sum := "10eb5f211ed581d67f34b4a11e5521eaa1cb9a41ff449d52064d204530a74d5c", func := "loop.example/g01143/laws.FnExactPrimesTo", spec := "fnExactPrimesTo", inPlace := ["internal/bytealg.IndexByteString", "internal/abi.NoEscape"], unfollowed := true, recurses := true, apart := false }
def FnExactPrimesToSaid : Prop := fnExactPrimesToRow.holds Try.pinned (OpenSpec.ofChange fnExactPrimesToSpec)

/-- ITS FALSE NEIGHBOUR: 'it returns false'. Refute it at one input. -/
def fnExactPrimesToWrong : ChangeSpec := { name := "fnExactPrimesTo", fn := fun _ => fun
  | [d1, d2, d3, d4] => { results := [.lit (.bool false)], args := [d1, d2, d3, d4] }
  | _ => none }
def FnExactPrimesToWrongFalsely : Prop := fnExactPrimesToRow.holds Try.pinned (OpenSpec.ofChange fnExactPrimesToWrong)

/- THE SECOND FORM. 'bulk': how many values and letters a reading holds, each counted each time it is reached (what is shared counts as often as it is met; a slice's spare places count too). A statement '..UptoSaid' is the law's where the arguments, and the package variables that the reading takes, are together of bulk at most 1048576: NARROWER than '..Said'. Prove '..Said' where nothing that the law and all that it calls make is longer than what came in: it says more and counts as full. Else prove '..UptoSaid'. A law counts once. -/
mutual
def uptoBulk {H : Type} : DataW H → Nat
  | .lit (.string bytes) => bytes.length + 1
  | .lit _ => 1
  | .nil => 1
  | .ptr d => uptoBulk d + 1
  | .slice elems spare => uptoBulkAll elems + uptoBulkAll spare + 1
  | .agg parts => uptoBulkAll parts + 1
  | .iface _ d => uptoBulk d + 1
  | .map entries => uptoBulkEntries entries + 1
  | .held _ => 1
def uptoBulkAll {H : Type} : List (DataW H) → Nat
  | [] => 0
  | d :: r => uptoBulk d + uptoBulkAll r
def uptoBulkEntries {H : Type} : List (Lit × DataW H) → Nat
  | [] => 0
  | x :: r => uptoBulkEntry x + uptoBulkEntries r
def uptoBulkEntry {H : Type} : Lit × DataW H → Nat
  | (.string bytes, d) => bytes.length + uptoBulk d + 1
  | (_, d) => uptoBulk d + 1
 end
def uptoSmall : (H : Type) → List (DataW H) → Bool := fun _ ds => decide (uptoBulkAll ds ≤ 1048576)
def OpenSpec.upto (s : _root_.Go.ChangeSpec) : _root_.Go.OpenSpec := { _root_.Go.OpenSpec.ofChange s with cond := some uptoSmall }

/-- 'laws.FnDecodings', WHERE WHAT IT READS IS OF BULK AT MOST 1048576: true; the input reads as it did. -/
def fnDecodingsUptoRow : OpenClaim := { program := "ytpjidcfdcpjafaa", sum := "10eb5f211ed581d67f34b4a11e5521eaa1cb9a41ff449d52064d204530a74d5c", func := "loop.example/g01143/laws.FnDecodings", spec := "fnDecodings", inPlace := ["internal/bytealg.IndexByteString", "internal/abi.NoEscape"], recurses := true, apart := false, narrowed := true }
def FnDecodingsUptoSaid : Prop := fnDecodingsUptoRow.holds Try.pinned (OpenSpec.upto fnDecodingsSpec)

/-- 'laws.FnImages', WHERE WHAT IT READS IS OF BULK AT MOST 1048576: true; the input reads as it did. -/
def fnImagesUptoRow : OpenClaim := { program := "ytpjidcfdcpjafaa", sum := "10eb5f211ed581d67f34b4a11e5521eaa1cb9a41ff449d52064d204530a74d5c", func := "loop.example/g01143/laws.FnImages", spec := "fnImages", inPlace := ["internal/bytealg.IndexByteString", "internal/abi.NoEscape"], unfollowed := true, recurses := true, apart := false, narrowed := true }
def FnImagesUptoSaid : Prop := fnImagesUptoRow.holds Try.pinned (OpenSpec.upto fnImagesSpec)

/-- 'laws.FnEqualTo', WHERE WHAT IT READS IS OF BULK AT MOST 1048576: true; the input reads as it did. -/
def fnEqualToUptoRow : OpenClaim := { program := "ytpjidcfdcpjafaa", sum := "10eb5f211ed581d67f34b4a11e5521eaa1cb9a41ff449d52064d204530a74d5c", func := "loop.example/g01143/laws.FnEqualTo", spec := "fnEqualTo", inPlace := ["internal/bytealg.IndexByteString", "internal/abi.NoEscape"], unfollowed := true, recurses := true, apart := false, narrowed := true }
def FnEqualToUptoSaid : Prop := fnEqualToUptoRow.holds Try.pinned (OpenSpec.upto fnEqualToSpec)

/-- 'laws.FnExactCountDecodings', WHERE WHAT IT READS IS OF BULK AT MOST 1048576: true; the input reads as it did. -/
def fnExactCountDecodingsUptoRow : OpenClaim := { program := "ytpjidcfdcpjafaa", sum := "10eb5f211ed581d67f34b4a11e5521eaa1cb9a41ff449d52064d204530a74d5c", func := "loop.example/g01143/laws.FnExactCountDecodings", spec := "fnExactCountDecodings", inPlace := ["internal/bytealg.IndexByteString"], recurses := true, apart := false, narrowed := true }
def FnExactCountDecodingsUptoSaid : Prop := fnExactCountDecodingsUptoRow.holds Try.pinned (OpenSpec.upto fnExactCountDecodingsSpec)

/-- 'laws.FnExactDecodingsOf', WHERE WHAT IT READS IS OF BULK AT MOST 1048576: true; the input reads as it did. -/
def fnExactDecodingsOfUptoRow : OpenClaim := { program := "ytpjidcfdcpjafaa", sum := "10eb5f211ed581d67f34b4a11e5521eaa1cb9a41ff449d52064d204530a74d5c", func := "loop.example/g01143/laws.FnExactDecodingsOf", spec := "fnExactDecodingsOf", inPlace := ["internal/bytealg.IndexByteString"], recurses := true, apart := false, narrowed := true }
def FnExactDecodingsOfUptoSaid : Prop := fnExactDecodingsOfUptoRow.holds Try.pinned (OpenSpec.upto fnExactDecodingsOfSpec)

/-- 'laws.FnExactEqualTo', WHERE WHAT IT READS IS OF BULK AT MOST 1048576: true; the input reads as it did. -/
def fnExactEqualToUptoRow : OpenClaim := { program := "ytpjidcfdcpjafaa", sum := "10eb5f211ed581d67f34b4a11e5521eaa1cb9a41ff449d52064d204530a74d5c", func := "loop.example/g01143/laws.FnExactEqualTo", spec := "fnExactEqualTo", inPlace := ["internal/bytealg.IndexByteString", "internal/abi.NoEscape"], unfollowed := true, recurses := true, apart := false, narrowed := true }
def FnExactEqualToUptoSaid : Prop := fnExactEqualToUptoRow.holds Try.pinned (OpenSpec.upto fnExactEqualToSpec)

/-- 'laws.FnExactPrimesTo', WHERE WHAT IT READS IS OF BULK AT MOST 1048576: true; the input reads as it did. -/
def fnExactPrimesToUptoRow : OpenClaim := { program := "ytpjidcfdcpjafaa", sum := "10eb5f211ed581d67f34b4a11e5521eaa1cb9a41ff449d52064d204530a74d5c", func := "loop.example/g01143/laws.FnExactPrimesTo", spec := "fnExactPrimesTo", inPlace := ["internal/bytealg.IndexByteString", "internal/abi.NoEscape"], unfollowed := true, recurses := true, apart := false, narrowed := true }
def FnExactPrimesToUptoSaid : Prop := fnExactPrimesToUptoRow.holds Try.pinned (OpenSpec.upto fnExactPrimesToSpec)

end Rows
end Go.Proofs.Ytpjidcfdcpjafaa
