/-
  The model's own equality of slices of numbers, and of slices of slices of them: contracts.
-/
import Derived.Test.YtjoleenehdfkkaaI3
namespace Go.Proofs.Ytjoleenehdfkkaa
open Go.RowKit Go
set_option linter.unusedVariables false

end Go.Proofs.Ytjoleenehdfkkaa
