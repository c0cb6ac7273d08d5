/-
  The row of lengths of an equation, of the program: contracts.
-/
import Derived.Test.YtgfdcpmjaamhdaaRowW
namespace Go.Proofs.Ytgfdcpmjaamhdaa
open Go.RowKit Go
set_option linter.unusedVariables false

theorem surL_bd {l r : ByteArray} (h : eqnB l r = true) (k : Nat) (hk : k < 8) : ∃ x : Int, (surL l r)[k]? = some x ∧ -24 ≤ x ∧ x ≤ 24 := by
  obtain ⟨hl, hr, _, _⟩ := eqnB_sz h
  obtain ⟨x, hx, hx1, hx2⟩ := cntL_get l.data.toList k hk
  obtain ⟨y, hy, hy1, hy2⟩ := cntL_get r.data.toList k hk
  have h1 : l.data.toList.length = l.size := by simp
  have h2 : r.data.toList.length = r.size := by simp
  exact ⟨_, surL_get l r k hx hy, by omega, by omega⟩
theorem surL_eight {l r : ByteArray} (h : eqnB l r = true) : ∃ x0 x1 x2 x3 x4 x5 x6 x7 : Int, surL l r = [x0, x1, x2, x3, x4, x5, x6, x7] ∧ (∀ x ∈ [x0, x1, x2, x3, x4, x5, x6, x7], -24 ≤ x ∧ x ≤ 24) := by
  refine ⟨_, _, _, _, _, _, _, _, rfl, ?_⟩
  intro x hx
  rw [List.mem_iff_getElem?] at hx
  obtain ⟨k, hk⟩ := hx
  have hlt : k < 8 := by
    rcases Nat.lt_or_ge k 8 with h1 | h1
    · exact h1
    · rw [List.getElem?_eq_none (by simpa using h1)] at hk
      cases hk
  obtain ⟨y, hy, hb⟩ := surL_bd h k hlt
  have : some x = some y := hk.symm.trans hy
  injection this with this
  rw [this]
  exact hb

end Go.Proofs.Ytgfdcpmjaamhdaa
