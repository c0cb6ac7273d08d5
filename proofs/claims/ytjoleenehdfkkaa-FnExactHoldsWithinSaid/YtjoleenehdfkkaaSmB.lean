/-
  SameBounds, of the model and of the program: contracts.
-/
import Derived.Test.YtjoleenehdfkkaaRws
import Derived.Test.YtjoleenehdfkkaaEqF
namespace Go.Proofs.Ytjoleenehdfkkaa
open Go.RowKit Go
set_option linter.unusedVariables false

theorem toBnd2_any (v : Value) (s : Int) (ns es : List (List Int)) (B : Nat) (w : World) (hv : Bnd w B v s ns es) (hB : B ≤ w.heap.size) (hx : RowsMax 1048576 ns) (hp : RowsMax 1048576 es) :
    Calls Try.prog 10 #[v] w fun e1 w' => ∃ u, e1 = .returned u ∧ Bnd w' w'.heap.size u s ns es ∧ Below w.heap.size w w' :=
  (toBnd_any v s ns es B w hv hB hx hp).mono fun e w' ⟨u, h1, h2, h3⟩ => ⟨u, h1, h2.row, h3⟩

end Go.Proofs.Ytjoleenehdfkkaa
