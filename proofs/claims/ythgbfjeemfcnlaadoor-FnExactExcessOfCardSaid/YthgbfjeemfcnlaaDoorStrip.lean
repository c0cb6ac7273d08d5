/-
  StripEnds, of the program and of the model: contracts.
-/
import Derived.Test.YthgbfjeemfcnlaaDoorEq
import Derived.Deep.QuietTactic
import Derived.BigQuiet
import Derived.Deep.RegionHeld3
import Derived.IntWalk
namespace Go.Proofs.YthgbfjeemfcnlaaDoor
open Go.RowKit Go

/-- What is left when equal beginnings are taken away. -/
def stripF : List UInt8 → List UInt8 → List UInt8 × List UInt8
  | a :: u, b :: v => if a = b then stripF u v else (a :: u, b :: v)
  | [], v => ([], v)
  | u, [] => (u, [])
/-- The like at the ends. -/
def stripB (u v : List UInt8) : List UInt8 × List UInt8 := ((stripF u.reverse v.reverse).1.reverse, (stripF u.reverse v.reverse).2.reverse)
def strip2 (u v : List UInt8) : List UInt8 × List UInt8 := stripB (stripF u v).1 (stripF u v).2

theorem stripF_nilL (v : List UInt8) : stripF [] v = ([], v) := by cases v <;> rfl
theorem stripF_nilR (u : List UInt8) : stripF u [] = (u, []) := by cases u <;> rfl
theorem data_cons {x : ByteArray} (h : 0 < x.size) : x.data.toList = x[0] :: (x.extract 1 x.size).data.toList := by
  rw [Lib.extract_data, List.take_of_length_le (by simp)]
  have := List.drop_eq_getElem_cons (l := x.data.toList) (i := 0) (by simpa using h)
  rw [List.drop_zero] at this
  exact this
theorem data_snoc {x : ByteArray} (h : 0 < x.size) : x.data.toList = (x.extract 0 (x.size - 1)).data.toList ++ [x[x.size - 1]] := by
  rw [Lib.extract_data, List.drop_zero, Nat.sub_zero]
  have h1 : x.size - 1 < x.data.toList.length := by simp; omega
  have := List.take_succ_eq_append_getElem h1
  rw [show x.size - 1 + 1 = x.size by omega, List.take_of_length_le (by simp)] at this
  exact this
theorem data_nil {x : ByteArray} (h : x.size = 0) : x.data.toList = [] := List.eq_nil_of_length_eq_zero (by simpa using h)
theorem stripF_same {x y : ByteArray} (hx : 0 < x.size) (hy : 0 < y.size) (h : x[0] = y[0]) : stripF x.data.toList y.data.toList = stripF (x.extract 1 x.size).data.toList (y.extract 1 y.size).data.toList := by
  rw [data_cons hx, data_cons hy, h]
  simp [stripF]
theorem stripF_other {x y : ByteArray} (hx : 0 < x.size) (hy : 0 < y.size) (h : x[0] ≠ y[0]) : stripF x.data.toList y.data.toList = (x.data.toList, y.data.toList) := by
  rw [data_cons hx, data_cons hy]
  simp [stripF, h]
theorem stripF_none {x y : ByteArray} (h : x.size = 0 ∨ y.size = 0) : stripF x.data.toList y.data.toList = (x.data.toList, y.data.toList) := by
  rcases h with h | h
  · rw [data_nil h, stripF_nilL]
  · rw [data_nil h, stripF_nilR]
theorem stripB_same {x y : ByteArray} (hx : 0 < x.size) (hy : 0 < y.size) (h : x[x.size - 1] = y[y.size - 1]) : stripB x.data.toList y.data.toList = stripB (x.extract 0 (x.size - 1)).data.toList (y.extract 0 (y.size - 1)).data.toList := by
  have e1 := data_snoc hx
  have e2 := data_snoc hy
  unfold stripB
  rw [e1, e2, h]
  simp [stripF]
theorem stripB_other {x y : ByteArray} (hx : 0 < x.size) (hy : 0 < y.size) (h : x[x.size - 1] ≠ y[y.size - 1]) : stripB x.data.toList y.data.toList = (x.data.toList, y.data.toList) := by
  have e1 := data_snoc hx
  have e2 := data_snoc hy
  unfold stripB
  rw [e1, e2]
  simp [stripF, h]
theorem stripB_none {x y : ByteArray} (h : x.size = 0 ∨ y.size = 0) : stripB x.data.toList y.data.toList = (x.data.toList, y.data.toList) := by
  unfold stripB
  rcases h with h | h
  · rw [data_nil h, List.reverse_nil, stripF_nilL]
    simp
  · rw [data_nil h, List.reverse_nil, stripF_nilR]
    simp
theorem stripB_sameM {x y : ByteArray} {m n : Nat} (hx : m < x.size) (hy : n < y.size) (hm : x.size = m + 1) (hn : y.size = n + 1) (h : x[m] = y[n]) : stripB x.data.toList y.data.toList = stripB (x.extract 0 m).data.toList (y.extract 0 n).data.toList := by
  obtain rfl : m = x.size - 1 := by omega
  obtain rfl : n = y.size - 1 := by omega
  exact stripB_same (by omega) (by omega) h
theorem stripB_otherM {x y : ByteArray} {m n : Nat} (hx : m < x.size) (hy : n < y.size) (hm : x.size = m + 1) (hn : y.size = n + 1) (h : x[m] ≠ y[n]) : stripB x.data.toList y.data.toList = (x.data.toList, y.data.toList) := by
  obtain rfl : m = x.size - 1 := by omega
  obtain rfl : n = y.size - 1 := by omega
  exact stripB_other (by omega) (by omega) h
theorem ba_of {x : ByteArray} {l : List UInt8} (h : x.data.toList = l) : x = ⟨⟨l⟩⟩ := by
  subst h; rfl
theorem byte_ne {a b : UInt8} (h : a ≠ b) : ((a.toNat : Int) == (b.toNat : Int)) = false := by
  rw [beq_eq_false_iff_ne]
  intro e
  exact h (by rw [← UInt8.toNat_inj]; omega)
theorem byte_eq {a b : UInt8} (h : a = b) : ((a.toNat : Int) == (b.toNat : Int)) = true := by rw [h]; simp

def szOf : Value → Nat | .string s => s.size | _ => 0

end Go.Proofs.YthgbfjeemfcnlaaDoor
