/-
  Letters and their places. No Go in sight.
-/
import Derived.Test.YtpjidcfdcpjafaaWalkW
namespace Go.Proofs.Ytpjidcfdcpjafaa
open Go.RowKit Go

/-- The place of a letter. -/
theorem let_at {c : UInt8} (h : Wd.isL c = true) : ∃ j : Nat, j < 4 ∧ c.toNat = 97 + j ∧ Lib.indexByte [97, 98, 99, 100] c = j := by
  unfold Wd.isL at h
  simp at h
  have h4 : c = 97 ∨ c = 98 ∨ c = 99 ∨ c = 100 := by
    rcases (show c.toNat = 97 ∨ c.toNat = 98 ∨ c.toNat = 99 ∨ c.toNat = 100 by omega) with h | h | h | h
    · exact .inl (by rw [← UInt8.toNat_inj, h]; rfl)
    · exact .inr (.inl (by rw [← UInt8.toNat_inj, h]; rfl))
    · exact .inr (.inr (.inl (by rw [← UInt8.toNat_inj, h]; rfl)))
    · exact .inr (.inr (.inr (by rw [← UInt8.toNat_inj, h]; rfl)))
  rcases h4 with rfl | rfl | rfl | rfl
  · exact ⟨0, by omega, by decide, by decide⟩
  · exact ⟨1, by omega, by decide, by decide⟩
  · exact ⟨2, by omega, by decide, by decide⟩
  · exact ⟨3, by omega, by decide, by decide⟩
theorem word_at {s : ByteArray} (h : Wd.wordB s.data.toList = true) (k : Nat) (hk : k < s.size) : Wd.isL s[k] = true := by
  unfold Wd.wordB at h
  rw [Bool.and_eq_true, List.all_eq_true] at h
  exact h.2 _ (List.getElem_mem (by simpa using hk))
theorem word_all {s : ByteArray} (h : Wd.wordB s.data.toList = true) : s.size ≤ 60 ∧ ∀ c ∈ s.data.toList, Wd.isL c = true := by
  have h1 := Wd.wordB_len h
  unfold Wd.wordB at h
  rw [Bool.and_eq_true, List.all_eq_true] at h
  exact ⟨by simpa using h1, h.2⟩

end Go.Proofs.Ytpjidcfdcpjafaa
