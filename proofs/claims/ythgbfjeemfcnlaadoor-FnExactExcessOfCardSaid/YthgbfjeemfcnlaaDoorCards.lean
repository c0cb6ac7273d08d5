/-
  DERIVED. GIVEN WITH THE SEED: THE CARDS: each row of YthgbfjeemfcnlaaDoorRows.lean that lists a variable, with what it lists TIED to the program's text (the seventh form; the later family's looks); each row that meets fmt, with fmt's text TOLD by the authors' own Lean function (tested against real Go, not proved from fmt's source: count such statements apart). THE CARD IS WHAT COUNTS. Prove the row's statement (the work); the ties are given (YthgbfjeemfcnlaaDoorTie.lean); close each card by the builder's one call (the guide's Derived/Test/ToyasCard.lean, 'card_holds'). Laid BY PROGRAM, IN A SANDBOX (cutbox-door.mjs). By AI agents, Wed Nov 11 2026. No macro, syntax, notation, axiom, sorry.
-/
import Derived.Test.YthgbfjeemfcnlaaDoorRows
import GoSem.ClaimSeven
namespace Go.Proofs.YthgbfjeemfcnlaaDoor
namespace Rows

/-- THE TIED CARD OF 'laws.FnExactCancelEnds'. -/
def fnExactCancelEndsCard : Claim7 := { stood := { row := fnExactCancelEndsRow, standIns := [], harness := (true, "a37c28d1ca7a051ca62d5adf30098a0062c5652b90b21b058e8330e1229dc498"), looks := true }, kinds := [], alts := [], laidByText := true, laidKinds := [.handle], laidTests := true, laidLooks := .later }
def FnExactCancelEndsCardSaid : Prop := Claim7.holds Tryd.pinned (.plain (OpenSpec.ofChange fnExactCancelEndsSpec)) fnExactCancelEndsCard

/-- THE TIED CARD OF 'laws.FnExactExcessOf'. -/
def fnExactExcessOfCard : Claim7 := { stood := { row := fnExactExcessOfRow, standIns := [], harness := (true, "a37c28d1ca7a051ca62d5adf30098a0062c5652b90b21b058e8330e1229dc498"), looks := true }, kinds := [], alts := [], laidByText := true, laidKinds := [.handle], laidTests := true, laidLooks := .later }
def FnExactExcessOfCardSaid : Prop := Claim7.holds Tryd.pinned (.plain (OpenSpec.ofChange fnExactExcessOfSpec)) fnExactExcessOfCard

/-- THE SECOND FORM's CARD OF 'laws.FnExactCancelEnds'. -/
def fnExactCancelEndsUptoCard : Claim7 := { stood := { row := fnExactCancelEndsUptoRow, standIns := [], harness := (true, "a37c28d1ca7a051ca62d5adf30098a0062c5652b90b21b058e8330e1229dc498"), looks := true }, kinds := [], alts := [], laidByText := true, laidKinds := [.handle], laidTests := true, laidLooks := .later }
def FnExactCancelEndsUptoCardSaid : Prop := Claim7.holds Tryd.pinned (.plain (OpenSpec.upto fnExactCancelEndsSpec)) fnExactCancelEndsUptoCard

/-- THE SECOND FORM's CARD OF 'laws.FnExactExcessOf'. -/
def fnExactExcessOfUptoCard : Claim7 := { stood := { row := fnExactExcessOfUptoRow, standIns := [], harness := (true, "a37c28d1ca7a051ca62d5adf30098a0062c5652b90b21b058e8330e1229dc498"), looks := true }, kinds := [], alts := [], laidByText := true, laidKinds := [.handle], laidTests := true, laidLooks := .later }
def FnExactExcessOfUptoCardSaid : Prop := Claim7.holds Tryd.pinned (.plain (OpenSpec.upto fnExactExcessOfSpec)) fnExactExcessOfUptoCard
end Rows
end Go.Proofs.YthgbfjeemfcnlaaDoor
