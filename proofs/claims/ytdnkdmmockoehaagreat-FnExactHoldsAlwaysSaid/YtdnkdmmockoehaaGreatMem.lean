/-
  The laws' own functions on slices of numbers (equal; written over by marks; found marked): contracts.
-/
import Derived.Test.YtdnkdmmockoehaaGreatRow
namespace Go.Proofs.YtdnkdmmockoehaaGreat
open Go.RowKit Go

theorem held_ne {m k : Nat} {x : Int} (h : x = ((m + k : Nat) : Int)) : (x != (m : Int) + (k : Int)) = false := by
  rw [h]; simp

end Go.Proofs.YtdnkdmmockoehaaGreat
