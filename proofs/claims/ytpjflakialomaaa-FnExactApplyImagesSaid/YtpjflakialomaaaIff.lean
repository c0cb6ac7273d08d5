/-
  A Bool of a proposition.
-/
import Derived.Test.YtpjflakialomaaaRow
namespace Go.Proofs.Ytpjflakialomaaa
open Go.RowKit Go

theorem iffB (P : Prop) : ∃ d : Bool, d = true ↔ P := by
  by_cases h : P
  · exact ⟨true, by simp [h]⟩
  · exact ⟨false, by simp [h]⟩
theorem iff_no {d : Bool} {P : Prop} (h : d = true ↔ P) (hn : ¬ P) : d = false := by
  cases d
  · rfl
  · exact absurd (h.mp rfl) hn
theorem iff_yes {d : Bool} {P : Prop} (h : d = true ↔ P) (hp : P) : d = true := h.mpr hp

end Go.Proofs.Ytpjflakialomaaa
