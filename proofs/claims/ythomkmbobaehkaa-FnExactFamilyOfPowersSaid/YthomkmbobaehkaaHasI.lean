/-
  Powers.has of the program, at a word of some length: a contract; the search in a list of families: contracts.
-/
import Derived.Test.YthomkmbobaehkaaHas
namespace Go.Proofs.Ythomkmbobaehkaa
open Go.RowKit Go
set_option linter.unusedVariables false

theorem extract_list (s : ByteArray) (n : Nat) (h : n ≤ s.size) : (s.extract 0 n).data.toList = s.data.toList.take n ∧ (s.extract 0 n).size = n := by
  constructor
  · rw [Lib.extract_data, List.drop_zero, Nat.sub_zero]
  · simp; omega

end Go.Proofs.Ythomkmbobaehkaa
