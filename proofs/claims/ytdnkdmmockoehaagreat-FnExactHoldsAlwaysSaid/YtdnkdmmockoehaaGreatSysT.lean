/-
  SystemText, of the program and of the model: contracts.
-/
import Derived.Test.YtdnkdmmockoehaaGreatEqS
import Derived.Test.YtdnkdmmockoehaaGreatBuild
import Derived.Test.YtdnkdmmockoehaaGreatShelf
import Derived.Deep.QuietTactic
import Derived.BigQuiet
namespace Go.Proofs.YtdnkdmmockoehaaGreat
open Go.RowKit Go
set_option linter.unusedVariables false

/-- The line of an equation, and the lines of a system. -/
def lineE (e : Eqn) : List UInt8 := e.1.data.toList ++ [32, 61, 32] ++ e.2.data.toList ++ [10]
def textE (es : List Eqn) : List UInt8 := es.flatMap lineE
theorem textE_succ (es : List Eqn) (k : Nat) (h : k < es.length) : textE (es.take (k + 1)) = textE (es.take k) ++ lineE es[k] := by
  unfold textE
  rw [List.take_succ_eq_append_getElem h, List.flatMap_append]
  simp
theorem sysB_len {es : List Eqn} (h : sysB es = true) : es.length ≤ 4 := by
  unfold sysB at h
  rw [Bool.and_eq_true, decide_eq_true_eq] at h
  exact h.1
theorem sysB_at {es : List Eqn} (h : sysB es = true) (k : Nat) (hk : k < es.length) : eqnB es[k].1 es[k].2 = true := by
  unfold sysB at h
  rw [Bool.and_eq_true, List.all_eq_true] at h
  exact h.2 _ (List.getElem_mem hk)
theorem sysB_szAt {es : List Eqn} (h : sysB es = true) (k : Nat) (hk : k < es.length) : es[k].1.size ≤ 24 ∧ es[k].2.size ≤ 24 := by
  have h1 := sysB_at h k hk
  unfold eqnB at h1
  rw [Bool.and_eq_true] at h1
  exact ⟨by simpa using Wd.termB_len h1.1, by simpa using Wd.termB_len h1.2⟩
theorem textE_len {es : List Eqn} (h : sysB es = true) : ∀ k, k ≤ es.length → (textE (es.take k)).length ≤ 52 * k
  | 0, _ => by simp [textE]
  | k + 1, hk => by
    have ih := textE_len h k (by omega)
    have hs := sysB_szAt h k (by omega)
    rw [textE_succ es k (by omega), List.length_append]
    have hl : (lineE es[k]).length = es[k].1.size + 3 + es[k].2.size + 1 := by
      unfold lineE
      simp
      omega
    omega
theorem lineE_of (x y : ByteArray) : (x ++ ⟨#[32, 61, 32]⟩ ++ y ++ ⟨#[10]⟩).data.toList = lineE (x, y) := by
  simp only [ByteArray.data_append, Array.toList_append, lineE]

theorem isBuilder_below {T e : TypeId} {B b : Nat} {bs : List Value} {w w' : World} (h : Lib.IsBuilder T e B b bs w) (hb : Below w.heap.size w w') : Lib.IsBuilder T e B b bs w' := by
  have key : ∀ p, Lib.BuilderAt T e B b p bs w → Lib.BuilderAt T e B b p bs w' := by
    rintro p ⟨hB, v, hbk, hown, hne⟩
    have hlt : b < w.heap.size := by
      rcases Nat.lt_or_ge b w.heap.size with h' | h'
      · exact h'
      · simp [Array.getElem?_eq_none h'] at hbk
    refine ⟨hB, v, (hb.block b hlt).trans hbk, ?_, hne⟩
    exact hown.kept (row := none) ⟨hb.os, hb.tape, hb.output, hb.size, fun k hk _ => hb.block k hk⟩ (by
      rcases hv : v.ownBlock with _ | k
      · exact .inl rfl
      · exact .inr (by simp))
  rcases h with h | h
  · exact .inl (key _ h)
  · exact .inr (key _ h)
theorem cells_appB (a : List UInt8) (t : ByteArray) : Lib.byteCells a ++ Lib.strCells t = Lib.byteCells (a ++ t.data.toList) := by rw [Lib.strCells_eq, Lib.byteCells_append]

end Go.Proofs.YtdnkdmmockoehaaGreat
