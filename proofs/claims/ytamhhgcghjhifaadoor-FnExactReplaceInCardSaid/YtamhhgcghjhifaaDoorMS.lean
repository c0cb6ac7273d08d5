/-
  Marks in slices of texts (written over; found marked): contracts.
-/
import Derived.Test.YtamhhgcghjhifaaDoorMT
import Derived.Test.YtamhhgcghjhifaaDoorStr
namespace Go.Proofs.YtamhhgcghjhifaaDoor
open Go.RowKit Go
set_option linter.unusedVariables false

def mts (m n : Nat) : List ByteArray := (List.range n).map fun i => mT (m + i)
theorem mts_length (m n : Nat) : (mts m n).length = n := by simp [mts]
theorem mts_succ (m n : Nat) : mts m (n + 1) = mts m n ++ [mT (m + n)] := by simp [mts, List.range_succ]
theorem mts_get {m n i : Nat} (h : i < (mts m n).length) : (mts m n)[i] = mT (m + i) := by simp [mts]
theorem set_mts (xs : List ByteArray) (m k : Nat) (h : k < xs.length) :
    ((mts m k ++ xs.drop k).map Value.string).set k (.string (mT (m + k))) = (mts m (k + 1) ++ xs.drop (k + 1)).map Value.string := by
  rw [List.map_append, List.set_append_right _ _ (by simp [mts_length]), List.length_map, mts_length, Nat.sub_self]
  rw [List.drop_eq_getElem_cons h, List.map_cons, List.set_cons_zero, mts_succ]
  simp
theorem grown_below {w w' : World} {row : Option Nat} (h : Below w.heap.size w w') : w.grownBy w' row := ⟨h.os, h.tape, h.output, h.size, fun i hi _ => h.block i hi⟩
theorem grown_at (w : World) (g j : Nat) (v : Value) : w.grownBy (w.setCell ⟨g, j, none⟩ v) (some g) :=
  ⟨rfl, rfl, rfl, Nat.le_of_eq (by simp [World.setCell]), fun i _ hne => Below.heap_setCell _ _ _ _ (fun e => hne (by rw [e]))⟩



end Go.Proofs.YtamhhgcghjhifaaDoor
