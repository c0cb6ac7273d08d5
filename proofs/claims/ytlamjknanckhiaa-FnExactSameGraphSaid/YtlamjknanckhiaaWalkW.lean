/-
  The functions on words and terms return what the plain words say: contracts, each for every argument that Go can hold.
-/
import Derived.Test.YtlamjknanckhiaaShelf
import Derived.Test.YtlamjknanckhiaaWords
import Derived.WalkKit
import Derived.WalkLawsBesides
import Derived.Outline
namespace Go.Proofs.Ytlamjknanckhiaa
open Go.RowKit Go

theorem hidv {p : Prop} (h : p) : RowKit.Hid p := h

theorem ret_bool {a b : Bool} (h : a = b) : Ending.returned (.bool a) = .returned (.bool b) := by rw [h]

theorem all_take_succ (l : List UInt8) (f : UInt8 → Bool) (k : Nat) (h : k < l.length) : (l.take (k + 1)).all f = ((l.take k).all f && f l[k]) := by
  rw [List.take_succ_eq_append_getElem h, List.all_append]
  simp

theorem all_false_of (l : List UInt8) (f : UInt8 → Bool) (k : Nat) (h : k < l.length) (hf : f l[k] = false) : l.all f = false := by
  rw [List.all_eq_false]
  exact ⟨l[k], List.getElem_mem h, by simp [hf]⟩

theorem isL_true {b : UInt8} (h1 : (97 : Int) ≤ b.toNat) (h2 : (b.toNat : Int) ≤ 100) : Wd.isL b = true := by
  unfold Wd.isL; simp; omega
theorem isL_false {b : UInt8} (h : ¬ ((97 : Int) ≤ b.toNat ∧ (b.toNat : Int) ≤ 100)) : Wd.isL b = false := by
  unfold Wd.isL; rw [Bool.eq_false_iff]; simp; omega

/-- The number of an unknown, -1 if a byte is none. -/
def Wd.unkI (b : UInt8) : Int := if b = 88 then 0 else if b = 89 then 1 else if b = 90 then 2 else if b = 87 then 3 else -1

theorem ret_int {k : IntKind} {a b : Int} (h : a = b) : Ending.returned (.int k a) = .returned (.int k b) := by rw [h]

theorem unkI_neg (b : UInt8) : decide (Wd.unkI b < 0) = !Wd.isU b := by
  unfold Wd.unkI Wd.isU
  by_cases h1 : b = 88
  · subst h1; decide
  by_cases h2 : b = 89
  · subst h2; decide
  by_cases h3 : b = 90
  · subst h3; decide
  by_cases h4 : b = 87
  · subst h4; decide
  rw [if_neg h1, if_neg h2, if_neg h3, if_neg h4, beq_eq_false_iff_ne.2 h1, beq_eq_false_iff_ne.2 h2, beq_eq_false_iff_ne.2 h3, beq_eq_false_iff_ne.2 h4]
  decide

end Go.Proofs.Ytlamjknanckhiaa
