/-
  How often each kind of symbol occurs in a term: the program's own count. Contracts.
-/
import Derived.Test.YtdnkdmmockoehaaGreatSym
import Derived.Laws.Rows
namespace Go.Proofs.YtdnkdmmockoehaaGreat
open Go.RowKit Go

/-- The kind of a byte of a term: letters 0 to 3, unknowns 4 to 7. -/
def kindN (c : UInt8) : Nat := if Wd.isL c then c.toNat - 97 else (4 + Wd.unkI c).toNat
def cntL (l : List UInt8) : List Int := (List.range 8).map fun j => ((l.countP (fun c => kindN c == j) : Nat) : Int)
theorem cntL_length (l : List UInt8) : (cntL l).length = 8 := by simp [cntL]
theorem cntL_at (l : List UInt8) (j : Nat) (hj : j < 8) : (cntL l)[j]? = some ((l.countP (fun c => kindN c == j) : Nat) : Int) := by
  simp [cntL, hj]
theorem cntL_snoc (l : List UInt8) (c : UInt8) (hc : kindN c < 8) : cntL (l ++ [c]) = (cntL l).set (kindN c) (((l.countP (fun d => kindN d == kindN c) : Nat) : Int) + 1) := by
  refine List.ext_getElem? fun j => ?_
  rcases Nat.lt_or_ge j 8 with hj | hj
  · rw [cntL_at _ j hj, List.getElem?_set]
    by_cases h : kindN c = j
    · rw [if_pos h, if_pos (by rw [cntL_length]; omega), List.countP_append]
      simp [h]
    · rw [if_neg h, cntL_at _ j hj, List.countP_append]
      simp [h]
  · rw [List.getElem?_eq_none (by rw [cntL_length]; omega), List.getElem?_eq_none (by rw [List.length_set, cntL_length]; omega)]

theorem method_kindL (x : Int) (w : World) : (method 260 118 (.int .i64 x) "loop.example/g01143/impl.kind").run Tryz.prog w = .ok (126, .int .i64 x) w := by kernel_rfl
theorem method_kindU (x : Int) (w : World) : (method 260 105 (.int .i64 x) "loop.example/g01143/impl.kind").run Tryz.prog w = .ok (125, .int .i64 x) w := by kernel_rfl


theorem symV_letter {c : UInt8} (h : Wd.isL c = true) : symV c = .iface 118 (.int .i64 (kindN c : Nat)) ∧ kindN c < 4 := by
  have h' := h
  unfold Wd.isL at h'
  simp at h'
  unfold symV kindN
  rw [h]
  refine ⟨?_, by simp; omega⟩
  simp only [if_true]
  congr 2
  omega
theorem symV_unknown {c : UInt8} (h : Wd.isL c = false) (hu : Wd.isU c = true) : ∃ x : Nat, x < 4 ∧ Wd.unkI c = x ∧ symV c = .iface 105 (.int .i64 (x : Nat)) ∧ kindN c = 4 + x := by
  unfold symV kindN
  rw [h]
  have : c = 88 ∨ c = 89 ∨ c = 90 ∨ c = 87 := by
    unfold Wd.isU at hu
    simp at hu
    rcases hu with ((hu | hu) | hu) | hu <;> simp [hu]
  rcases this with rfl | rfl | rfl | rfl
  · exact ⟨0, by decide, by decide, by rfl, by decide⟩
  · exact ⟨1, by decide, by decide, by rfl, by decide⟩
  · exact ⟨2, by decide, by decide, by rfl, by decide⟩
  · exact ⟨3, by decide, by decide, by rfl, by decide⟩
theorem term_at {s : ByteArray} (hv : Wd.termB s.data.toList = true) (k : Nat) (hk : k < s.size) : Wd.isL s[k] = true ∨ Wd.isL s[k] = false ∧ Wd.isU s[k] = true := by
  unfold Wd.termB at hv
  rw [Bool.and_eq_true, List.all_eq_true] at hv
  have := hv.2 s[k] (by
    have : s.data.toList[k]'(by simpa using hk) ∈ s.data.toList := List.getElem_mem _
    exact this)
  cases h : Wd.isL s[k]
  · rw [h, Bool.false_or] at this
    exact .inr ⟨rfl, this⟩
  · exact .inl rfl

end Go.Proofs.YtdnkdmmockoehaaGreat
