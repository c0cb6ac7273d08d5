/-
  The model's own equality of slices of slices of numbers: a contract.
-/
import Derived.Test.YtjoleenehdfkkaaI5
import Derived.Test.YtjoleenehdfkkaaBd
namespace Go.Proofs.Ytjoleenehdfkkaa
open Go.RowKit Go
set_option linter.unusedVariables false

end Go.Proofs.Ytjoleenehdfkkaa
