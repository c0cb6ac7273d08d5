/-
  Equations by value: the laws' own functions on one equation, and ValidEquation of the program and of the model: contracts.
-/
import Derived.Test.YtlamjknanckhiaaRow
namespace Go.Proofs.Ytlamjknanckhiaa
open Go.RowKit Go

/-- An equation of two texts, by value. -/
def eqnV (l r : ByteArray) : Value := .agg #[.string l, .string r]
def eqnB (l r : ByteArray) : Bool := Wd.termB l.data.toList && Wd.termB r.data.toList

def SzE (l r : ByteArray) (m q : Int) : Prop := 0 ≤ q → q = m - l.size - r.size

theorem szEqn_any (l r : ByteArray) (m : Int) (w : World) (hl : l.size ≤ maxLen) (hr : r.size ≤ maxLen) (hm0 : 0 ≤ m) (hm1 : m ≤ 1048576) :
    Calls Try.prog 20 #[.agg #[.string l, .string r], .int .i64 m] w fun e w' => ∃ q, e = .returned (.int .i64 q) ∧ SzE l r m q ∧ q ≤ m ∧ Below w.heap.size w w' := by
  unfold maxLen at hl hr
  by_cases h1 : m < (l.size : Int)
  · go_enter Try.func20, Try.ntmps20
    go_wp2
    go_ret
    exact ⟨_, rfl, fun h => by omega, by omega, (Below.refl _ _).alloc (Nat.le_refl _) _⟩
  by_cases h2 : m - (l.size : Int) < (r.size : Int)
  · go_enter Try.func20, Try.ntmps20
    go_wp2
    go_ret
    exact ⟨_, rfl, fun h => by omega, by omega, (Below.refl _ _).alloc (Nat.le_refl _) _⟩
  · go_enter Try.func20, Try.ntmps20
    go_wp2
    go_ret
    exact ⟨_, rfl, fun h => by omega, by omega, (Below.refl _ _).alloc (Nat.le_refl _) _⟩

set_option maxHeartbeats 400000 in
theorem toEqn_any (l r : ByteArray) (w : World) :
    Calls Try.prog 22 #[.agg #[.string l, .string r]] w fun e w' => e = .returned (.agg #[.string l, .string r]) ∧ Below w.heap.size w w' := by
  go_enter Try.func22, Try.ntmps22
  go_wp2
  exact bodyPost_ret (v := .agg #[.string l, .string r]) (by simp [results, Try.results22, go_sem]) rfl ⟨rfl, (((Below.refl _ _).alloc (Nat.le_refl _) _).alloc (by simp) _).alloc (by simp; omega) _⟩

set_option maxHeartbeats 400000 in
theorem eqEqn_same (l r : ByteArray) (w : World) :
    Calls Try.prog 24 #[.agg #[.string l, .string r], .agg #[.string l, .string r]] w fun e w' => e = .returned (.bool true) ∧ Below w.heap.size w w' := by
  go_enter Try.func24, Try.ntmps24
  go_wp2
  go_ret
  exact ⟨rfl, ((Below.refl _ _).alloc (Nat.le_refl _) _).alloc (by simp) _⟩

end Go.Proofs.Ytlamjknanckhiaa
