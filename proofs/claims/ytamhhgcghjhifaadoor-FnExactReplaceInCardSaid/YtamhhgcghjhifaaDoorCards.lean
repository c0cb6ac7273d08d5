/-
  DERIVED. GIVEN WITH THE SEED: THE CARDS: each row of YtamhhgcghjhifaaDoorRows.lean that lists a variable, with what it lists TIED to the program's text (the seventh form; the later family's looks); each row that meets fmt, with fmt's text TOLD by the authors' own Lean function (tested against real Go, not proved from fmt's source: count such statements apart). THE CARD IS WHAT COUNTS. Prove the row's statement (the work); the ties are given (YtamhhgcghjhifaaDoorTie.lean); close each card by the builder's one call (the guide's Derived/Test/ToyasCard.lean, 'card_holds'). Laid BY PROGRAM, IN A SANDBOX (cutbox-door.mjs). By AI agents, Wed Nov 11 2026. No macro, syntax, notation, axiom, sorry.
-/
import Derived.Test.YtamhhgcghjhifaaDoorRows
import GoSem.ClaimSeven
namespace Go.Proofs.YtamhhgcghjhifaaDoor
namespace Rows

/-- THE TIED CARD OF 'laws.FnExactReplace'. -/
def fnExactReplaceCard : Claim7 := { stood := { row := fnExactReplaceRow, standIns := [], harness := (true, "bcc71ccaa77f80a840e26dd1088d25fc24428ab110a64168f37c981c5461a75b"), looks := false }, kinds := [], alts := [], laidByText := true, laidKinds := [.data, .pinned], laidTests := true, laidLooks := .later }
def FnExactReplaceCardSaid : Prop := Claim7.holds Tryd.pinned (.plain (OpenSpec.ofChange fnExactReplaceSpec)) fnExactReplaceCard

/-- THE TIED CARD OF 'laws.FnExactReplaceIn'. -/
def fnExactReplaceInCard : Claim7 := { stood := { row := fnExactReplaceInRow, standIns := [], harness := (true, "bcc71ccaa77f80a840e26dd1088d25fc24428ab110a64168f37c981c5461a75b"), looks := false }, kinds := [], alts := [], laidByText := true, laidKinds := [.data, .pinned], laidTests := true, laidLooks := .later }
def FnExactReplaceInCardSaid : Prop := Claim7.holds Tryd.pinned (.plain (OpenSpec.ofChange fnExactReplaceInSpec)) fnExactReplaceInCard

/-- THE SECOND FORM's CARD OF 'laws.FnExactReplace'. -/
def fnExactReplaceUptoCard : Claim7 := { stood := { row := fnExactReplaceUptoRow, standIns := [], harness := (true, "bcc71ccaa77f80a840e26dd1088d25fc24428ab110a64168f37c981c5461a75b"), looks := false }, kinds := [], alts := [], laidByText := true, laidKinds := [.data, .pinned], laidTests := true, laidLooks := .later }
def FnExactReplaceUptoCardSaid : Prop := Claim7.holds Tryd.pinned (.plain (OpenSpec.upto fnExactReplaceSpec)) fnExactReplaceUptoCard

/-- THE SECOND FORM's CARD OF 'laws.FnExactReplaceIn'. -/
def fnExactReplaceInUptoCard : Claim7 := { stood := { row := fnExactReplaceInUptoRow, standIns := [], harness := (true, "bcc71ccaa77f80a840e26dd1088d25fc24428ab110a64168f37c981c5461a75b"), looks := false }, kinds := [], alts := [], laidByText := true, laidKinds := [.data, .pinned], laidTests := true, laidLooks := .later }
def FnExactReplaceInUptoCardSaid : Prop := Claim7.holds Tryd.pinned (.plain (OpenSpec.upto fnExactReplaceInSpec)) fnExactReplaceInUptoCard
end Rows
end Go.Proofs.YtamhhgcghjhifaaDoor
