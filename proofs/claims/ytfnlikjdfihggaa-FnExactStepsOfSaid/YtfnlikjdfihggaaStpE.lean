/-
  Steps by value: equal ones are told equal: a contract.
-/
import Derived.Test.YtfnlikjdfihggaaRow
namespace Go.Proofs.Ytfnlikjdfihggaa
open Go.RowKit Go

set_option maxHeartbeats 400000 in
theorem eqStp_same (x : Int) (y : ByteArray) (w : World) :
    Calls Try.prog 22 #[.agg #[.int .i64 x, .string y], .agg #[.int .i64 x, .string y]] w fun e w' => e = .returned (.bool true) ∧ Below w.heap.size w w' := by
  go_enter Try.func22, Try.ntmps22
  go_wp2
  go_ret
  exact ⟨rfl, ((Below.refl _ _).alloc (Nat.le_refl _) _).alloc (by simp) _⟩

end Go.Proofs.Ytfnlikjdfihggaa
