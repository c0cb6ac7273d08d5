/-
  The words of a set stand in order, none twice.
-/
import Derived.Test.YtpjidcfdcpjafaaSt7
import Derived.Test.YtpjidcfdcpjafaaCt7i
import Derived.Sort.Walk0
namespace Go.Proofs.Ytpjidcfdcpjafaa
open Go.RowKit Go
set_option linter.unusedVariables false

theorem less_eq (x y : List UInt8) : Op.bytesLess x y = decide (x < y) := Go.Proofs.bytesLess_eq x y
theorem soonB_trans {x y z : ByteArray} (h1 : soonB x y = true) (h2 : soonB y z = true) : soonB x z = true := by
  unfold soonB at h1 h2 ⊢
  by_cases e1 : x.size = y.size
  · rw [if_pos e1, less_eq] at h1
    by_cases e2 : y.size = z.size
    · rw [if_pos e2, less_eq] at h2
      rw [if_pos (by omega), less_eq]
      exact decide_eq_true (List.lt_trans (of_decide_eq_true h1) (of_decide_eq_true h2))
    · rw [if_neg e2] at h2
      have := of_decide_eq_true h2
      rw [if_neg (by omega)]
      exact decide_eq_true (by omega)
  · rw [if_neg e1] at h1
    have h3 := of_decide_eq_true h1
    by_cases e2 : y.size = z.size
    · rw [if_neg (by omega)]
      exact decide_eq_true (by omega)
    · rw [if_neg e2] at h2
      have := of_decide_eq_true h2
      rw [if_neg (by omega)]
      exact decide_eq_true (by omega)
theorem soonB_irrefl (x : ByteArray) : soonB x x = false := by
  unfold soonB
  rw [if_pos rfl, less_eq]
  exact decide_eq_false (List.lt_irrefl _)
theorem soon_all {xs : List ByteArray} (h : ∀ i (h : i + 1 < xs.length), soonB xs[i] xs[i + 1] = true) (i : Nat) : ∀ d (hj : i + d + 1 < xs.length), soonB xs[i] xs[i + d + 1] = true
  | 0, hj => h i hj
  | d + 1, hj => soonB_trans (soon_all h i d (by omega)) (h (i + d + 1) hj)
theorem setOk_ws {xs : List ByteArray} (h : SetOk xs) : WsOk xs := by
  refine ⟨by have := h.2.1; omega, fun x hx => ?_, fun x hx => ?_, ?_⟩
  · obtain ⟨i, hi, rfl⟩ := List.getElem_of_mem hx
    have := (h.2.2.1 i hi).2.2
    omega
  · unfold Wl at hx
    obtain ⟨y, hy, rfl⟩ := List.mem_map.1 hx
    obtain ⟨i, hi, rfl⟩ := List.getElem_of_mem hy
    have := (h.2.2.1 i hi).2.1
    simpa using this
  · unfold Wd.Ord Wl
    rw [List.pairwise_map, List.pairwise_iff_getElem]
    intro i j hi hj hij
    have h1 := soon_all h.2.2.2 i (j - i - 1) (by omega)
    have e : i + (j - i - 1) + 1 = j := by omega
    simp only [e] at h1
    refine ⟨?_, fun hh => ?_⟩
    · have := soonB_le h1
      simpa using this
    · have : xs[i] = xs[j] := ba_ext2 hh
      rw [this, soonB_irrefl] at h1
      cases h1

end Go.Proofs.Ytpjidcfdcpjafaa
