/-
  Holds, of the program and of the model: contracts.
-/
import Derived.Test.YtdnkdmmockoehaaGreatSysT
import Derived.Test.YtdnkdmmockoehaaGreatPut
import Derived.Test.YtdnkdmmockoehaaGreatSameS
namespace Go.Proofs.YtdnkdmmockoehaaGreat
open Go.RowKit Go
set_option linter.unusedVariables false

/-- Both terms of an equation become the same text by values. -/
def evenB (xs : List ByteArray) (e : Eqn) : Bool := decide (putL e.1.data.toList xs = putL e.2.data.toList xs)
def holdsB (es : List Eqn) (xs : List ByteArray) : Bool := es.all (evenB xs)
theorem all_succG {α : Type} (l : List α) (f : α → Bool) (k : Nat) (h : k < l.length) : (l.take (k + 1)).all f = ((l.take k).all f && f l[k]) := by
  rw [List.take_succ_eq_append_getElem h, List.all_append]
  simp
theorem all_falseG {α : Type} (l : List α) (f : α → Bool) (k : Nat) (h : k < l.length) (hf : f l[k] = false) : l.all f = false := by
  rw [List.all_eq_false]
  exact ⟨l[k], List.getElem_mem h, by simp [hf]⟩
theorem eqnB_terms {l r : ByteArray} (h : eqnB l r = true) : Wd.termB l.data.toList = true ∧ Wd.termB r.data.toList = true := by
  unfold eqnB at h
  rwa [Bool.and_eq_true] at h
theorem Row.drewN {w : World} {B : Nat} {v : Value} {xs : List Value} (h : Row w B v xs) (n : Nat) : Row (w.drewN n) B v xs := h
theorem ba_ne {p q : List UInt8} (h : p ≠ q) : (⟨⟨p⟩⟩ : ByteArray) ≠ ⟨⟨q⟩⟩ := fun e => h (by injection e with e; injection e)

end Go.Proofs.YtdnkdmmockoehaaGreat
