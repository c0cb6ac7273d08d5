/-
  The model's own equality of slices of slices of numbers: a contract.
-/
import Derived.Test.YtchdopicdjdmcaaI5
import Derived.Test.YtchdopicdjdmcaaBd
namespace Go.Proofs.Ytchdopicdjdmcaa
open Go.RowKit Go
set_option linter.unusedVariables false

end Go.Proofs.Ytchdopicdjdmcaa
