/-
  No cell of these rows narrows 'for every input' (looked for: loops, veiled, ifaces, maps, wideKeys, modest, calm, conditions, laid).
  DERIVED. THE GIVEN ROWS OF THIS SEAT. 10 by the template 'for every input the law returns true; each argument reads behind the call as it read before'; 0 by the template 'total and deterministic' (their statements: YtpjflakialomaaaTotals.lean).
  GIVEN WITH THE SEED: the statements are not yours to turn. If you find one false, say at which input.
  Laid BY PROGRAM, IN A SANDBOX (cutbox-rows.mjs): the forced cells as the released guide's own fill.sh prints them over the translation 6f84468f5002615c… (all of the seat's roots in one cut). By AI agents, Wed Nov 11 2026. No macro, syntax, notation, axiom, sorry.
-/
import Derived.Test.YtpjflakialomaaaChecked
import GoSem.Claim
import GoSem.ClaimJoined
import GoSem.ClaimMapViews
import Derived.JoinedTies
import Derived.KernelRfl
namespace Go.Proofs.Ytpjflakialomaaa
/- THE CELL 'sum', in the pinned program and in every row, IS THE sha256 OF THE DUMP (.gsa) THAT YtpjflakialomaaaProg.lean LOADS. Nothing in Lean hashes anything: it is a label: what it is worth is what the hold of that sum in a sandbox is worth. -/
noncomputable def Try.pinned : Pinned := { name := "ytpjflakialomaaa", sum := "6f84468f5002615c54bcfc1cda2a2e61d552955bea0ab1af0d963024d216ac34", checked := Try.checked }
namespace Rows
def none {H : Type} : Left H := { results := [], args := [] }

/-- 'laws.FnExactLeviParts': WHATEVER THE INPUT: true; the input reads as it did. -/
def fnExactLeviPartsSpec : ChangeSpec := { name := "fnExactLeviParts", fn := fun _ => fun
  | [d1, d2, d3, d4] => { results := [.lit (.bool true)], args := [d1, d2, d3, d4] }
  | _ => none }
def fnExactLeviPartsRow : OpenClaim := { program := "ytpjflakialomaaa", sum := "6f84468f5002615c54bcfc1cda2a2e61d552955bea0ab1af0d963024d216ac34", func := "loop.example/g01143/laws.FnExactLeviParts", spec := "fnExactLeviParts", inPlace := ["internal/bytealg.IndexByteString"], apart := false }
def FnExactLeviPartsSaid : Prop := fnExactLeviPartsRow.holds Try.pinned (OpenSpec.ofChange fnExactLeviPartsSpec)

/-- ITS FALSE NEIGHBOUR: 'it returns false'. Refute it at one input. -/
def fnExactLeviPartsWrong : ChangeSpec := { name := "fnExactLeviParts", fn := fun _ => fun
  | [d1, d2, d3, d4] => { results := [.lit (.bool false)], args := [d1, d2, d3, d4] }
  | _ => none }
def FnExactLeviPartsWrongFalsely : Prop := fnExactLeviPartsRow.holds Try.pinned (OpenSpec.ofChange fnExactLeviPartsWrong)

/-- 'laws.FnExactValidSet': WHATEVER THE INPUT: true; the input reads as it did. -/
def fnExactValidSetSpec : ChangeSpec := { name := "fnExactValidSet", fn := fun _ => fun
  | [d] => { results := [.lit (.bool true)], args := [d] }
  | _ => none }
def fnExactValidSetRow : OpenClaim := { program := "ytpjflakialomaaa", sum := "6f84468f5002615c54bcfc1cda2a2e61d552955bea0ab1af0d963024d216ac34", func := "loop.example/g01143/laws.FnExactValidSet", spec := "fnExactValidSet", inPlace := ["internal/bytealg.IndexByteString"], apart := false }
def FnExactValidSetSaid : Prop := fnExactValidSetRow.holds Try.pinned (OpenSpec.ofChange fnExactValidSetSpec)

/-- ITS FALSE NEIGHBOUR: 'it returns false'. Refute it at one input. -/
def fnExactValidSetWrong : ChangeSpec := { name := "fnExactValidSet", fn := fun _ => fun
  | [d] => { results := [.lit (.bool false)], args := [d] }
  | _ => none }
def FnExactValidSetWrongFalsely : Prop := fnExactValidSetRow.holds Try.pinned (OpenSpec.ofChange fnExactValidSetWrong)

/-- 'laws.FnExactIsPrefixFree': WHATEVER THE INPUT: true; the input reads as it did. -/
def fnExactIsPrefixFreeSpec : ChangeSpec := { name := "fnExactIsPrefixFree", fn := fun _ => fun
  | [d] => { results := [.lit (.bool true)], args := [d] }
  | _ => none }
def fnExactIsPrefixFreeRow : OpenClaim := { program := "ytpjflakialomaaa", sum := "6f84468f5002615c54bcfc1cda2a2e61d552955bea0ab1af0d963024d216ac34", func := "loop.example/g01143/laws.FnExactIsPrefixFree", spec := "fnExactIsPrefixFree", inPlace := ["internal/bytealg.IndexByteString"], unfollowed := true, recurses := true, apart := false }
def FnExactIsPrefixFreeSaid : Prop := fnExactIsPrefixFreeRow.holds Try.pinned (OpenSpec.ofChange fnExactIsPrefixFreeSpec)

/-- ITS FALSE NEIGHBOUR: 'it returns false'. Refute it at one input. -/
def fnExactIsPrefixFreeWrong : ChangeSpec := { name := "fnExactIsPrefixFree", fn := fun _ => fun
  | [d] => { results := [.lit (.bool false)], args := [d] }
  | _ => none }
def FnExactIsPrefixFreeWrongFalsely : Prop := fnExactIsPrefixFreeRow.holds Try.pinned (OpenSpec.ofChange fnExactIsPrefixFreeWrong)

/-- 'laws.FnExactIsSuffixFree': WHATEVER THE INPUT: true; the input reads as it did. -/
def fnExactIsSuffixFreeSpec : ChangeSpec := { name := "fnExactIsSuffixFree", fn := fun _ => fun
  | [d] => { results := [.lit (.bool true)], args := [d] }
  | _ => none }
def fnExactIsSuffixFreeRow : OpenClaim := { program := "ytpjflakialomaaa", sum := "6f84468f5002615c54bcfc1cda2a2e61d552955bea0ab1af0d963024d216ac34", func := "loop.example/g01143/laws.FnExactIsSuffixFree", spec := "fnExactIsSuffixFree", inPlace := ["internal/bytealg.IndexByteString"], unfollowed := true, recurses := true, apart := false }
def FnExactIsSuffixFreeSaid : Prop := fnExactIsSuffixFreeRow.holds Try.pinned (OpenSpec.ofChange fnExactIsSuffixFreeSpec)

/-- ITS FALSE NEIGHBOUR: 'it returns false'. Refute it at one input. -/
def fnExactIsSuffixFreeWrong : ChangeSpec := { name := "fnExactIsSuffixFree", fn := fun _ => fun
  | [d] => { results := [.lit (.bool false)], args := [d] }
  | _ => none }
def FnExactIsSuffixFreeWrongFalsely : Prop := fnExactIsSuffixFreeRow.holds Try.pinned (OpenSpec.ofChange fnExactIsSuffixFreeWrong)

/-- 'laws.FnExactDecodedWord': WHATEVER THE INPUT: true; the input reads as it did. -/
def fnExactDecodedWordSpec : ChangeSpec := { name := "fnExactDecodedWord", fn := fun _ => fun
  | [d1, d2] => { results := [.lit (.bool true)], args := [d1, d2] }
  | _ => none }
def fnExactDecodedWordRow : OpenClaim := { program := "ytpjflakialomaaa", sum := "6f84468f5002615c54bcfc1cda2a2e61d552955bea0ab1af0d963024d216ac34", func := "loop.example/g01143/laws.FnExactDecodedWord", spec := "fnExactDecodedWord", inPlace := ["internal/bytealg.IndexByteString", "internal/abi.NoEscape"], apart := false }
def FnExactDecodedWordSaid : Prop := fnExactDecodedWordRow.holds Try.pinned (OpenSpec.ofChange fnExactDecodedWordSpec)

/-- ITS FALSE NEIGHBOUR: 'it returns false'. Refute it at one input. -/
def fnExactDecodedWordWrong : ChangeSpec := { name := "fnExactDecodedWord", fn := fun _ => fun
  | [d1, d2] => { results := [.lit (.bool false)], args := [d1, d2] }
  | _ => none }
def FnExactDecodedWordWrongFalsely : Prop := fnExactDecodedWordRow.holds Try.pinned (OpenSpec.ofChange fnExactDecodedWordWrong)

/-- 'laws.FnExactKraftOf': WHATEVER THE INPUT: true; the input reads as it did. -/
def fnExactKraftOfSpec : ChangeSpec := { name := "fnExactKraftOf", fn := fun _ => fun
  | [d1, d2] => { results := [.lit (.bool true)], args := [d1, d2] }
  | _ => none }
def fnExactKraftOfRow : OpenClaim := { program := "ytpjflakialomaaa", sum := "6f84468f5002615c54bcfc1cda2a2e61d552955bea0ab1af0d963024d216ac34", func := "loop.example/g01143/laws.FnExactKraftOf", spec := "fnExactKraftOf", inPlace := ["internal/bytealg.IndexByteString"], apart := false }
def FnExactKraftOfSaid : Prop := fnExactKraftOfRow.holds Try.pinned (OpenSpec.ofChange fnExactKraftOfSpec)

/-- ITS FALSE NEIGHBOUR: 'it returns false'. Refute it at one input. -/
def fnExactKraftOfWrong : ChangeSpec := { name := "fnExactKraftOf", fn := fun _ => fun
  | [d1, d2] => { results := [.lit (.bool false)], args := [d1, d2] }
  | _ => none }
def FnExactKraftOfWrongFalsely : Prop := fnExactKraftOfRow.holds Try.pinned (OpenSpec.ofChange fnExactKraftOfWrong)

/-- 'laws.FnExactValidImages': WHATEVER THE INPUT: true; the input reads as it did. -/
def fnExactValidImagesSpec : ChangeSpec := { name := "fnExactValidImages", fn := fun _ => fun
  | [d] => { results := [.lit (.bool true)], args := [d] }
  | _ => none }
def fnExactValidImagesRow : OpenClaim := { program := "ytpjflakialomaaa", sum := "6f84468f5002615c54bcfc1cda2a2e61d552955bea0ab1af0d963024d216ac34", func := "loop.example/g01143/laws.FnExactValidImages", spec := "fnExactValidImages", inPlace := ["internal/bytealg.IndexByteString"], unfollowed := true, recurses := true, apart := false }
def FnExactValidImagesSaid : Prop := fnExactValidImagesRow.holds Try.pinned (OpenSpec.ofChange fnExactValidImagesSpec)

/-- ITS FALSE NEIGHBOUR: 'it returns false'. Refute it at one input. -/
def fnExactValidImagesWrong : ChangeSpec := { name := "fnExactValidImages", fn := fun _ => fun
  | [d] => { results := [.lit (.bool false)], args := [d] }
  | _ => none }
def FnExactValidImagesWrongFalsely : Prop := fnExactValidImagesRow.holds Try.pinned (OpenSpec.ofChange fnExactValidImagesWrong)

/-- 'laws.FnExactApplyImages': WHATEVER THE INPUT: true; the input reads as it did. -/
def fnExactApplyImagesSpec : ChangeSpec := { name := "fnExactApplyImages", fn := fun _ => fun
  | [d1, d2] => { results := [.lit (.bool true)], args := [d1, d2] }
  | _ => none }
def fnExactApplyImagesRow : OpenClaim := { program := "ytpjflakialomaaa", sum := "6f84468f5002615c54bcfc1cda2a2e61d552955bea0ab1af0d963024d216ac34", func := "loop.example/g01143/laws.FnExactApplyImages", spec := "fnExactApplyImages", inPlace := ["internal/bytealg.IndexByteString", "internal/abi.NoEscape"], unfollowed := true, recurses := true, apart := false }
def FnExactApplyImagesSaid : Prop := fnExactApplyImagesRow.holds Try.pinned (OpenSpec.ofChange fnExactApplyImagesSpec)

/-- ITS FALSE NEIGHBOUR: 'it returns false'. Refute it at one input. -/
def fnExactApplyImagesWrong : ChangeSpec := { name := "fnExactApplyImages", fn := fun _ => fun
  | [d1, d2] => { results := [.lit (.bool false)], args := [d1, d2] }
  | _ => none }
def FnExactApplyImagesWrongFalsely : Prop := fnExactApplyImagesRow.holds Try.pinned (OpenSpec.ofChange fnExactApplyImagesWrong)

/-- 'laws.FnExactComposeImages': WHATEVER THE INPUT: true; the input reads as it did. -/
def fnExactComposeImagesSpec : ChangeSpec := { name := "fnExactComposeImages", fn := fun _ => fun
  | [d1, d2] => { results := [.lit (.bool true)], args := [d1, d2] }
  | _ => none }
def fnExactComposeImagesRow : OpenClaim := { program := "ytpjflakialomaaa", sum := "6f84468f5002615c54bcfc1cda2a2e61d552955bea0ab1af0d963024d216ac34", func := "loop.example/g01143/laws.FnExactComposeImages", spec := "fnExactComposeImages", inPlace := ["internal/bytealg.IndexByteString", "internal/abi.NoEscape"], unfollowed := true, recurses := true, apart := false }
def FnExactComposeImagesSaid : Prop := fnExactComposeImagesRow.holds Try.pinned (OpenSpec.ofChange fnExactComposeImagesSpec)

/-- ITS FALSE NEIGHBOUR: 'it returns false'. Refute it at one input. -/
def fnExactComposeImagesWrong : ChangeSpec := { name := "fnExactComposeImages", fn := fun _ => fun
  | [d1, d2] => { results := [.lit (.bool false)], args := [d1, d2] }
  | _ => none }
def FnExactComposeImagesWrongFalsely : Prop := fnExactComposeImagesRow.holds Try.pinned (OpenSpec.ofChange fnExactComposeImagesWrong)

/-- 'laws.FnExactOverhangOf': WHATEVER THE INPUT: true; the input reads as it did. -/
def fnExactOverhangOfSpec : ChangeSpec := { name := "fnExactOverhangOf", fn := fun _ => fun
  | [d1, d2, d3] => { results := [.lit (.bool true)], args := [d1, d2, d3] }
  | _ => none }
def fnExactOverhangOfRow : OpenClaim := { program := "ytpjflakialomaaa", sum := "6f84468f5002615c54bcfc1cda2a2e61d552955bea0ab1af0d963024d216ac34", func := "loop.example/g01143/laws.FnExactOverhangOf", spec := "fnExactOverhangOf", inPlace := ["internal/bytealg.IndexByteString", "internal/abi.NoEscape"], unfollowed := true, recurses := true, apart := false }
def FnExactOverhangOfSaid : Prop := fnExactOverhangOfRow.holds Try.pinned (OpenSpec.ofChange fnExactOverhangOfSpec)

/-- ITS FALSE NEIGHBOUR: 'it returns false'. Refute it at one input. -/
def fnExactOverhangOfWrong : ChangeSpec := { name := "fnExactOverhangOf", fn := fun _ => fun
  | [d1, d2, d3] => { results := [.lit (.bool false)], args := [d1, d2, d3] }
  | _ => none }
def FnExactOverhangOfWrongFalsely : Prop := fnExactOverhangOfRow.holds Try.pinned (OpenSpec.ofChange fnExactOverhangOfWrong)

/- THE SECOND FORM. 'bulk': how many values and letters a reading holds, each counted each time it is reached (what is shared counts as often as it is met; a slice's spare places count too). A statement '..UptoSaid' is the law's where the arguments, and the package variables that the reading takes, are together of bulk at most 1048576: NARROWER than '..Said'. Prove '..Said' where nothing that the law and all that it calls make is longer than what came in: it says more and counts as full. Else prove '..UptoSaid'. A law counts once. -/
mutual
def uptoBulk {H : Type} : DataW H → Nat
  | .lit (.string bytes) => bytes.length + 1
  | .lit _ => 1
  | .nil => 1
  | .ptr d => uptoBulk d + 1
  | .slice elems spare => uptoBulkAll elems + uptoBulkAll spare + 1
  | .agg parts => uptoBulkAll parts + 1
  | .iface _ d => uptoBulk d + 1
  | .map entries => uptoBulkEntries entries + 1
  | .held _ => 1
def uptoBulkAll {H : Type} : List (DataW H) → Nat
  | [] => 0
  | d :: r => uptoBulk d + uptoBulkAll r
def uptoBulkEntries {H : Type} : List (Lit × DataW H) → Nat
  | [] => 0
  | x :: r => uptoBulkEntry x + uptoBulkEntries r
def uptoBulkEntry {H : Type} : Lit × DataW H → Nat
  | (.string bytes, d) => bytes.length + uptoBulk d + 1
  | (_, d) => uptoBulk d + 1
 end
def uptoSmall : (H : Type) → List (DataW H) → Bool := fun _ ds => decide (uptoBulkAll ds ≤ 1048576)
def OpenSpec.upto (s : _root_.Go.ChangeSpec) : _root_.Go.OpenSpec := { _root_.Go.OpenSpec.ofChange s with cond := some uptoSmall }

/-- 'laws.FnExactLeviParts', WHERE WHAT IT READS IS OF BULK AT MOST 1048576: true; the input reads as it did. -/
def fnExactLeviPartsUptoRow : OpenClaim := { program := "ytpjflakialomaaa", sum := "6f84468f5002615c54bcfc1cda2a2e61d552955bea0ab1af0d963024d216ac34", func := "loop.example/g01143/laws.FnExactLeviParts", spec := "fnExactLeviParts", inPlace := ["internal/bytealg.IndexByteString"], apart := false, narrowed := true }
def FnExactLeviPartsUptoSaid : Prop := fnExactLeviPartsUptoRow.holds Try.pinned (OpenSpec.upto fnExactLeviPartsSpec)

/-- 'laws.FnExactValidSet', WHERE WHAT IT READS IS OF BULK AT MOST 1048576: true; the input reads as it did. -/
def fnExactValidSetUptoRow : OpenClaim := { program := "ytpjflakialomaaa", sum := "6f84468f5002615c54bcfc1cda2a2e61d552955bea0ab1af0d963024d216ac34", func := "loop.example/g01143/laws.FnExactValidSet", spec := "fnExactValidSet", inPlace := ["internal/bytealg.IndexByteString"], apart := false, narrowed := true }
def FnExactValidSetUptoSaid : Prop := fnExactValidSetUptoRow.holds Try.pinned (OpenSpec.upto fnExactValidSetSpec)

/-- 'laws.FnExactIsPrefixFree', WHERE WHAT IT READS IS OF BULK AT MOST 1048576: true; the input reads as it did. -/
def fnExactIsPrefixFreeUptoRow : OpenClaim := { program := "ytpjflakialomaaa", sum := "6f84468f5002615c54bcfc1cda2a2e61d552955bea0ab1af0d963024d216ac34", func := "loop.example/g01143/laws.FnExactIsPrefixFree", spec := "fnExactIsPrefixFree", inPlace := ["internal/bytealg.IndexByteString"], unfollowed := true, recurses := true, apart := false, narrowed := true }
def FnExactIsPrefixFreeUptoSaid : Prop := fnExactIsPrefixFreeUptoRow.holds Try.pinned (OpenSpec.upto fnExactIsPrefixFreeSpec)

/-- 'laws.FnExactIsSuffixFree', WHERE WHAT IT READS IS OF BULK AT MOST 1048576: true; the input reads as it did. -/
def fnExactIsSuffixFreeUptoRow : OpenClaim := { program := "ytpjflakialomaaa", sum := "6f84468f5002615c54bcfc1cda2a2e61d552955bea0ab1af0d963024d216ac34", func := "loop.example/g01143/laws.FnExactIsSuffixFree", spec := "fnExactIsSuffixFree", inPlace := ["internal/bytealg.IndexByteString"], unfollowed := true, recurses := true, apart := false, narrowed := true }
def FnExactIsSuffixFreeUptoSaid : Prop := fnExactIsSuffixFreeUptoRow.holds Try.pinned (OpenSpec.upto fnExactIsSuffixFreeSpec)

/-- 'laws.FnExactDecodedWord', WHERE WHAT IT READS IS OF BULK AT MOST 1048576: true; the input reads as it did. -/
def fnExactDecodedWordUptoRow : OpenClaim := { program := "ytpjflakialomaaa", sum := "6f84468f5002615c54bcfc1cda2a2e61d552955bea0ab1af0d963024d216ac34", func := "loop.example/g01143/laws.FnExactDecodedWord", spec := "fnExactDecodedWord", inPlace := ["internal/bytealg.IndexByteString", "internal/abi.NoEscape"], apart := false, narrowed := true }
def FnExactDecodedWordUptoSaid : Prop := fnExactDecodedWordUptoRow.holds Try.pinned (OpenSpec.upto fnExactDecodedWordSpec)

/-- 'laws.FnExactKraftOf', WHERE WHAT IT READS IS OF BULK AT MOST 1048576: true; the input reads as it did. -/
def fnExactKraftOfUptoRow : OpenClaim := { program := "ytpjflakialomaaa", sum := "6f84468f5002615c54bcfc1cda2a2e61d552955bea0ab1af0d963024d216ac34", func := "loop.example/g01143/laws.FnExactKraftOf", spec := "fnExactKraftOf", inPlace := ["internal/bytealg.IndexByteString"], apart := false, narrowed := true }
def FnExactKraftOfUptoSaid : Prop := fnExactKraftOfUptoRow.holds Try.pinned (OpenSpec.upto fnExactKraftOfSpec)

/-- 'laws.FnExactValidImages', WHERE WHAT IT READS IS OF BULK AT MOST 1048576: true; the input reads as it did. -/
def fnExactValidImagesUptoRow : OpenClaim := { program := "ytpjflakialomaaa", sum := "6f84468f5002615c54bcfc1cda2a2e61d552955bea0ab1af0d963024d216ac34", func := "loop.example/g01143/laws.FnExactValidImages", spec := "fnExactValidImages", inPlace := ["internal/bytealg.IndexByteString"], unfollowed := true, recurses := true, apart := false, narrowed := true }
def FnExactValidImagesUptoSaid : Prop := fnExactValidImagesUptoRow.holds Try.pinned (OpenSpec.upto fnExactValidImagesSpec)

/-- 'laws.FnExactApplyImages', WHERE WHAT IT READS IS OF BULK AT MOST 1048576: true; the input reads as it did. -/
def fnExactApplyImagesUptoRow : OpenClaim := { program := "ytpjflakialomaaa", sum := "6f84468f5002615c54bcfc1cda2a2e61d552955bea0ab1af0d963024d216ac34", func := "loop.example/g01143/laws.FnExactApplyImages", spec := "fnExactApplyImages", inPlace := ["internal/bytealg.IndexByteString", "internal/abi.NoEscape"], unfollowed := true, recurses := true, apart := false, narrowed := true }
def FnExactApplyImagesUptoSaid : Prop := fnExactApplyImagesUptoRow.holds Try.pinned (OpenSpec.upto fnExactApplyImagesSpec)

/-- 'laws.FnExactComposeImages', WHERE WHAT IT READS IS OF BULK AT MOST 1048576: true; the input reads as it did. -/
def fnExactComposeImagesUptoRow : OpenClaim := { program := "ytpjflakialomaaa", sum := "6f84468f5002615c54bcfc1cda2a2e61d552955bea0ab1af0d963024d216ac34", func := "loop.example/g01143/laws.FnExactComposeImages", spec := "fnExactComposeImages", inPlace := ["internal/bytealg.IndexByteString", "internal/abi.NoEscape"], unfollowed := true, recurses := true, apart := false, narrowed := true }
def FnExactComposeImagesUptoSaid : Prop := fnExactComposeImagesUptoRow.holds Try.pinned (OpenSpec.upto fnExactComposeImagesSpec)

/-- 'laws.FnExactOverhangOf', WHERE WHAT IT READS IS OF BULK AT MOST 1048576: true; the input reads as it did. -/
def fnExactOverhangOfUptoRow : OpenClaim := { program := "ytpjflakialomaaa", sum := "6f84468f5002615c54bcfc1cda2a2e61d552955bea0ab1af0d963024d216ac34", func := "loop.example/g01143/laws.FnExactOverhangOf", spec := "fnExactOverhangOf", inPlace := ["internal/bytealg.IndexByteString", "internal/abi.NoEscape"], unfollowed := true, recurses := true, apart := false, narrowed := true }
def FnExactOverhangOfUptoSaid : Prop := fnExactOverhangOfUptoRow.holds Try.pinned (OpenSpec.upto fnExactOverhangOfSpec)

end Rows
end Go.Proofs.Ytpjflakialomaaa
