/-
  A Bool of a proposition.
-/
import Derived.Test.YtpjidcfdcpjafaaRow
namespace Go.Proofs.Ytpjidcfdcpjafaa
open Go.RowKit Go

theorem iffB (P : Prop) : ∃ d : Bool, d = true ↔ P := by
  by_cases h : P
  · exact ⟨true, by simp [h]⟩
  · exact ⟨false, by simp [h]⟩
theorem iff_no {d : Bool} {P : Prop} (h : d = true ↔ P) (hn : ¬ P) : d = false := by
  cases d
  · rfl
  · exact absurd (h.mp rfl) hn
theorem iff_yes {d : Bool} {P : Prop} (h : d = true ↔ P) (hp : P) : d = true := h.mpr hp
theorem drewN_q {w wr : World} {m q : Nat} (h : wr = w.drewN m) : wr.drewN q = w.drewN (m + q) := by rw [h, World.drewN_drewN]
theorem below_q {w wr : World} {m : Nat} (h : wr = w.drewN m) : Below w.heap.size w wr := by rw [h]; exact below_drewN (Below.refl _ _) _

end Go.Proofs.Ytpjidcfdcpjafaa
