/-
  slices.Equal of numbers and slices.EqualFunc of slices of them: contracts.
-/
import Derived.Test.YtjoleenehdfkkaaI5
import Derived.Deep.QuietTactic
import Derived.BigQuiet
namespace Go.Proofs.Ytjoleenehdfkkaa
open Go.RowKit Go
set_option linter.unusedVariables false

end Go.Proofs.Ytjoleenehdfkkaa
