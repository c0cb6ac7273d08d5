/-
  The row of an equation, of the program: contracts.
-/
import Derived.Test.YtgfdcpmjaamhdaaSur
import Derived.Deep.RegionLaw
import Derived.Laws.CopyOwn
import Derived.OpenShut
namespace Go.Proofs.Ytgfdcpmjaamhdaa
open Go.RowKit Go
set_option linter.unusedVariables false

end Go.Proofs.Ytgfdcpmjaamhdaa
