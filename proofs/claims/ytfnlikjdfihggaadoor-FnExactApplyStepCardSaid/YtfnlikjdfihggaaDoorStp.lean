/-
  Steps by value: the laws' own functions on one step: contracts.
-/
import Derived.Test.YtfnlikjdfihggaaDoorRow
namespace Go.Proofs.YtfnlikjdfihggaaDoor
open Go.RowKit Go

def SzP (y : ByteArray) (m q : Int) : Prop := 0 ≤ q → q = m - y.size

theorem szStp_any (x : Int) (y : ByteArray) (m : Int) (w : World) (hl : y.size ≤ maxLen) (hm0 : 0 ≤ m) (hm1 : m ≤ 1048576) :
    Calls Tryd.prog 22 #[.agg #[.int .i64 x, .string y], .int .i64 m] w fun e w' => ∃ q, e = .returned (.int .i64 q) ∧ SzP y m q ∧ q ≤ m ∧ Below w.heap.size w w' := by
  unfold maxLen at hl
  by_cases h1 : m < (y.size : Int)
  · go_enter Tryd.func22, Tryd.ntmps22
    go_wp2
    go_ret
    exact ⟨_, rfl, fun h => by omega, by omega, (Below.refl _ _).alloc (Nat.le_refl _) _⟩
  · go_enter Tryd.func22, Tryd.ntmps22
    go_wp2
    go_ret
    exact ⟨_, rfl, fun h => by omega, by omega, (Below.refl _ _).alloc (Nat.le_refl _) _⟩

set_option maxHeartbeats 400000 in
theorem toStp_any (x : Int) (y : ByteArray) (w : World) :
    Calls Tryd.prog 24 #[.agg #[.int .i64 x, .string y]] w fun e w' => e = .returned (.agg #[.int .i64 x, .string y]) ∧ Below w.heap.size w w' := by
  go_enter Tryd.func24, Tryd.ntmps24
  go_wp2
  exact bodyPost_ret (v := .agg #[.int .i64 x, .string y]) (by simp [results, Tryd.results24, go_sem]) rfl ⟨rfl, (((Below.refl _ _).alloc (Nat.le_refl _) _).alloc (by simp) _).alloc (by simp; omega) _⟩

end Go.Proofs.YtfnlikjdfihggaaDoor
