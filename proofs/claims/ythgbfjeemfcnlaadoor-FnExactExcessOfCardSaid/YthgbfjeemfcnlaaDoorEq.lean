/-
  Equations by value: the laws' own functions on one equation, and ValidEquation of the program and of the model: contracts.
-/
import Derived.Test.YthgbfjeemfcnlaaDoorRow
namespace Go.Proofs.YthgbfjeemfcnlaaDoor
open Go.RowKit Go

/-- An equation of two texts, by value. -/
def eqnV (l r : ByteArray) : Value := .agg #[.string l, .string r]
def eqnB (l r : ByteArray) : Bool := Wd.termB l.data.toList && Wd.termB r.data.toList

def SzE (l r : ByteArray) (m q : Int) : Prop := 0 ≤ q → q = m - l.size - r.size

end Go.Proofs.YthgbfjeemfcnlaaDoor
