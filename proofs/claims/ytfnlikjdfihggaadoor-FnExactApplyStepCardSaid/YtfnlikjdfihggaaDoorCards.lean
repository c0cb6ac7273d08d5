/-
  DERIVED. GIVEN WITH THE SEED: THE CARDS: each row of YtfnlikjdfihggaaDoorRows.lean that lists a variable, with what it lists TIED to the program's text (the seventh form; the later family's looks); each row that meets fmt, with fmt's text TOLD by the authors' own Lean function (tested against real Go, not proved from fmt's source: count such statements apart). THE CARD IS WHAT COUNTS. Prove the row's statement (the work); the ties are given (YtfnlikjdfihggaaDoorTie.lean); close each card by the builder's one call (the guide's Derived/Test/ToyasCard.lean, 'card_holds'). Laid BY PROGRAM, IN A SANDBOX (cutbox-door.mjs). By AI agents, Wed Nov 11 2026. No macro, syntax, notation, axiom, sorry.
-/
import Derived.Test.YtfnlikjdfihggaaDoorRows
import GoSem.ClaimSeven
namespace Go.Proofs.YtfnlikjdfihggaaDoor
namespace Rows

/-- THE TIED CARD OF 'laws.FnStepText'. -/
def fnStepTextCard : Claim7 := { stood := { row := fnStepTextRow, standIns := [], harness := (true, "744edd9fbb07d7daa317ff90de225c3f808f4f121d2fbb47479703da4cee0de3"), looks := false }, kinds := [], alts := [], laidByText := true, laidKinds := [.data, .pinned], laidTests := true, laidLooks := .later }
def FnStepTextCardSaid : Prop := Claim7.holds Tryd.pinned (.plain (OpenSpec.ofChange fnStepTextSpec)) fnStepTextCard

/-- THE TIED CARD OF 'laws.FnStepsKeep'. -/
def fnStepsKeepCard : Claim7 := { stood := { row := fnStepsKeepRow, standIns := [], harness := (true, "744edd9fbb07d7daa317ff90de225c3f808f4f121d2fbb47479703da4cee0de3"), looks := false }, kinds := [], alts := [], laidByText := true, laidKinds := [.data, .pinned], laidTests := true, laidLooks := .later }
def FnStepsKeepCardSaid : Prop := Claim7.holds Tryd.pinned (.plain (OpenSpec.ofChange fnStepsKeepSpec)) fnStepsKeepCard

/-- THE TIED CARD OF 'laws.FnExactApplyStep'. -/
def fnExactApplyStepCard : Claim7 := { stood := { row := fnExactApplyStepRow, standIns := [], harness := (true, "744edd9fbb07d7daa317ff90de225c3f808f4f121d2fbb47479703da4cee0de3"), looks := false }, kinds := [], alts := [], laidByText := true, laidKinds := [.data, .pinned], laidTests := true, laidLooks := .later }
def FnExactApplyStepCardSaid : Prop := Claim7.holds Tryd.pinned (.plain (OpenSpec.ofChange fnExactApplyStepSpec)) fnExactApplyStepCard

/-- THE TIED CARD OF 'laws.FnExactGraphOf'. -/
def fnExactGraphOfCard : Claim7 := { stood := { row := fnExactGraphOfRow, standIns := [], harness := (true, "744edd9fbb07d7daa317ff90de225c3f808f4f121d2fbb47479703da4cee0de3"), looks := false }, kinds := [], alts := [], laidByText := true, laidKinds := [.data, .pinned], laidTests := true, laidLooks := .later }
def FnExactGraphOfCardSaid : Prop := Claim7.holds Tryd.pinned (.plain (OpenSpec.ofChange fnExactGraphOfSpec)) fnExactGraphOfCard

/-- THE SECOND FORM's CARD OF 'laws.FnStepText'. -/
def fnStepTextUptoCard : Claim7 := { stood := { row := fnStepTextUptoRow, standIns := [], harness := (true, "744edd9fbb07d7daa317ff90de225c3f808f4f121d2fbb47479703da4cee0de3"), looks := false }, kinds := [], alts := [], laidByText := true, laidKinds := [.data, .pinned], laidTests := true, laidLooks := .later }
def FnStepTextUptoCardSaid : Prop := Claim7.holds Tryd.pinned (.plain (OpenSpec.upto fnStepTextSpec)) fnStepTextUptoCard

/-- THE SECOND FORM's CARD OF 'laws.FnStepsKeep'. -/
def fnStepsKeepUptoCard : Claim7 := { stood := { row := fnStepsKeepUptoRow, standIns := [], harness := (true, "744edd9fbb07d7daa317ff90de225c3f808f4f121d2fbb47479703da4cee0de3"), looks := false }, kinds := [], alts := [], laidByText := true, laidKinds := [.data, .pinned], laidTests := true, laidLooks := .later }
def FnStepsKeepUptoCardSaid : Prop := Claim7.holds Tryd.pinned (.plain (OpenSpec.upto fnStepsKeepSpec)) fnStepsKeepUptoCard

/-- THE SECOND FORM's CARD OF 'laws.FnExactApplyStep'. -/
def fnExactApplyStepUptoCard : Claim7 := { stood := { row := fnExactApplyStepUptoRow, standIns := [], harness := (true, "744edd9fbb07d7daa317ff90de225c3f808f4f121d2fbb47479703da4cee0de3"), looks := false }, kinds := [], alts := [], laidByText := true, laidKinds := [.data, .pinned], laidTests := true, laidLooks := .later }
def FnExactApplyStepUptoCardSaid : Prop := Claim7.holds Tryd.pinned (.plain (OpenSpec.upto fnExactApplyStepSpec)) fnExactApplyStepUptoCard

/-- THE SECOND FORM's CARD OF 'laws.FnExactGraphOf'. -/
def fnExactGraphOfUptoCard : Claim7 := { stood := { row := fnExactGraphOfUptoRow, standIns := [], harness := (true, "744edd9fbb07d7daa317ff90de225c3f808f4f121d2fbb47479703da4cee0de3"), looks := false }, kinds := [], alts := [], laidByText := true, laidKinds := [.data, .pinned], laidTests := true, laidLooks := .later }
def FnExactGraphOfUptoCardSaid : Prop := Claim7.holds Tryd.pinned (.plain (OpenSpec.upto fnExactGraphOfSpec)) fnExactGraphOfUptoCard
end Rows
end Go.Proofs.YtfnlikjdfihggaaDoor
