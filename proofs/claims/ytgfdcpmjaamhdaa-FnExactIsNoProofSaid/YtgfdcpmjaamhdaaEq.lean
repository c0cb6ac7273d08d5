/-
  Equations by value: the laws' own functions on one equation, and ValidEquation of the program and of the model: contracts.
-/
import Derived.Test.YtgfdcpmjaamhdaaRow
namespace Go.Proofs.Ytgfdcpmjaamhdaa
open Go.RowKit Go

/-- An equation of two texts, by value. -/
def eqnV (l r : ByteArray) : Value := .agg #[.string l, .string r]
def eqnB (l r : ByteArray) : Bool := Wd.termB l.data.toList && Wd.termB r.data.toList

def SzE (l r : ByteArray) (m q : Int) : Prop := 0 ≤ q → q = m - l.size - r.size

theorem szEqn_any (l r : ByteArray) (m : Int) (w : World) (hl : l.size ≤ maxLen) (hr : r.size ≤ maxLen) (hm0 : 0 ≤ m) (hm1 : m ≤ 1048576) :
    Calls Try.prog 11 #[.agg #[.string l, .string r], .int .i64 m] w fun e w' => ∃ q, e = .returned (.int .i64 q) ∧ SzE l r m q ∧ q ≤ m ∧ Below w.heap.size w w' := by
  unfold maxLen at hl hr
  by_cases h1 : m < (l.size : Int)
  · go_enter Try.func11, Try.ntmps11
    go_wp2
    go_ret
    exact ⟨_, rfl, fun h => by omega, by omega, (Below.refl _ _).alloc (Nat.le_refl _) _⟩
  by_cases h2 : m - (l.size : Int) < (r.size : Int)
  · go_enter Try.func11, Try.ntmps11
    go_wp2
    go_ret
    exact ⟨_, rfl, fun h => by omega, by omega, (Below.refl _ _).alloc (Nat.le_refl _) _⟩
  · go_enter Try.func11, Try.ntmps11
    go_wp2
    go_ret
    exact ⟨_, rfl, fun h => by omega, by omega, (Below.refl _ _).alloc (Nat.le_refl _) _⟩

set_option maxHeartbeats 400000 in
theorem toEqn_any (l r : ByteArray) (w : World) :
    Calls Try.prog 16 #[.agg #[.string l, .string r]] w fun e w' => e = .returned (.agg #[.string l, .string r]) ∧ Below w.heap.size w w' := by
  go_enter Try.func16, Try.ntmps16
  go_wp2
  exact bodyPost_ret (v := .agg #[.string l, .string r]) (by simp [results, Try.results16, go_sem]) rfl ⟨rfl, (((Below.refl _ _).alloc (Nat.le_refl _) _).alloc (by simp) _).alloc (by simp; omega) _⟩

theorem implOk_any (l r : ByteArray) (w : World) (hl : l.size ≤ maxLen) (hr : r.size ≤ maxLen) :
    Calls Try.prog 23 #[.agg #[.string l, .string r]] w fun e w' => e = .returned (.bool (eqnB l r)) ∧ Below w.heap.size w w' := by
  have c1 := fun W => implValidTerm_any l W hl
  have c2 := fun W => implValidTerm_any r W hr
  obtain ⟨a, ha⟩ : ∃ a, Wd.termB l.data.toList = a := ⟨_, rfl⟩
  obtain ⟨b, hb⟩ : ∃ a, Wd.termB r.data.toList = a := ⟨_, rfl⟩
  unfold eqnB
  rw [ha] at c1 ⊢
  rw [hb] at c2 ⊢
  clear ha hb
  cases a
  · go_enter Try.func23, Try.ntmps23
    go_wp2_with (go_at_call 28; refine (c1 _).mono ?_; rintro e w' ⟨rfl, rfl⟩)
    go_ret
    exact ⟨rfl, (Below.refl _ _).alloc (Nat.le_refl _) _⟩
  · go_enter Try.func23, Try.ntmps23
    go_wp2_with fail
    refine (c1 _).mono ?_
    rintro e w' ⟨rfl, rfl⟩
    go_wp2_with fail
    refine (c2 _).mono ?_
    rintro e w' ⟨rfl, rfl⟩
    go_wp2_with fail
    go_ret
    exact ⟨rfl, (Below.refl _ _).alloc (Nat.le_refl _) _⟩

theorem specOk_any (l r : ByteArray) (w : World) (hl : l.size ≤ maxLen) (hr : r.size ≤ maxLen) :
    Calls Try.prog 21 #[.agg #[.string l, .string r]] w fun e w' => e = .returned (.bool (eqnB l r)) ∧ Below w.heap.size w w' := by
  have c1 := fun W => specTerm_any l W hl
  have c2 := fun W => specTerm_any r W hr
  obtain ⟨a, ha⟩ : ∃ a, Wd.termB l.data.toList = a := ⟨_, rfl⟩
  obtain ⟨b, hb⟩ : ∃ a, Wd.termB r.data.toList = a := ⟨_, rfl⟩
  unfold eqnB
  rw [ha] at c1 ⊢
  rw [hb] at c2 ⊢
  clear ha hb
  cases a
  · go_enter Try.func21, Try.ntmps21
    go_wp2_with (go_at_call 26; refine (c1 _).mono ?_; rintro e w' ⟨rfl, rfl⟩)
    go_ret
    exact ⟨rfl, (Below.refl _ _).alloc (Nat.le_refl _) _⟩
  · go_enter Try.func21, Try.ntmps21
    go_wp2_with fail
    refine (c1 _).mono ?_
    rintro e w' ⟨rfl, rfl⟩
    go_wp2_with fail
    refine (c2 _).mono ?_
    rintro e w' ⟨rfl, rfl⟩
    go_wp2_with fail
    go_ret
    exact ⟨rfl, (Below.refl _ _).alloc (Nat.le_refl _) _⟩

set_option maxHeartbeats 400000 in
theorem eqEqn_same (l r : ByteArray) (w : World) :
    Calls Try.prog 20 #[.agg #[.string l, .string r], .agg #[.string l, .string r]] w fun e w' => e = .returned (.bool true) ∧ Below w.heap.size w w' := by
  go_enter Try.func20, Try.ntmps20
  go_wp2
  go_ret
  exact ⟨rfl, ((Below.refl _ _).alloc (Nat.le_refl _) _).alloc (by simp) _⟩

end Go.Proofs.Ytgfdcpmjaamhdaa
