/-
  The laws' own copy of a slice of texts, and its bulk: contracts.
-/
import Derived.Test.YtdnkdmmockoehaaGreatStr
namespace Go.Proofs.YtdnkdmmockoehaaGreat
open Go.RowKit Go

theorem set_copyS (xs : List ByteArray) (k n : Nat) (h : k < xs.length) (hn : xs.length = n) :
    ((xs.take k ++ List.replicate (n - k) (⟨#[]⟩ : ByteArray)).map Value.string).set k (.string xs[k]) = (xs.take (k + 1) ++ List.replicate (n - (k + 1)) (⟨#[]⟩ : ByteArray)).map Value.string := by
  have hl : (xs.take k).length = k := by rw [List.length_take]; omega
  rw [List.map_append, List.set_append_right _ _ (by simp; omega), List.length_map, hl, Nat.sub_self]
  rw [show n - k = (n - (k + 1)) + 1 by omega, List.replicate_succ, List.map_cons, List.set_cons_zero, List.take_succ_eq_append_getElem h]
  simp only [List.map_append, List.map_cons, List.map_replicate, List.append_assoc, List.singleton_append]

/-- The bulk of texts: what is left of a number; -1 where it does not suffice. -/
def SzOk (n m r : Int) : Prop := 0 ≤ r → n ≤ m

end Go.Proofs.YtdnkdmmockoehaaGreat
