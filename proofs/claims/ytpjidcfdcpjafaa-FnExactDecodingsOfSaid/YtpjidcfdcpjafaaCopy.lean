/-
  The laws' own copy of a slice of numbers: a contract.
-/
import Derived.Test.YtpjidcfdcpjafaaRow
import Derived.OwnWalk
namespace Go.Proofs.Ytpjidcfdcpjafaa
open Go.RowKit Go

theorem Try.infoN : (Try.prog.info? 2).map (fun i => (i.zero, i.size, i.bytes)) = some (some (.int .i64 0), 1, 8) := by kernel_rfl

theorem set_copy (xs : List Int) (k n : Nat) (h : k < xs.length) (hn : xs.length = n) :
    ((xs.take k ++ List.replicate (n - k) 0).map (Value.int .i64)).set k (.int .i64 xs[k]) = (xs.take (k + 1) ++ List.replicate (n - (k + 1)) 0).map (Value.int .i64) := by
  have hl : (xs.take k).length = k := by rw [List.length_take]; omega
  rw [List.map_append, List.set_append_right _ _ (by simp; omega), List.length_map, hl, Nat.sub_self]
  rw [show n - k = (n - (k + 1)) + 1 by omega, List.replicate_succ, List.map_cons, List.set_cons_zero, List.take_succ_eq_append_getElem h]
  simp only [List.map_append, List.map_cons, List.map_replicate, List.append_assoc, List.singleton_append]

end Go.Proofs.Ytpjidcfdcpjafaa
