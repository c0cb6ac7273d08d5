/-
  ValidValues, of the program and of the model: contracts, and the law over them.
-/
import Derived.Test.YtpjidcfdcpjafaaStr
namespace Go.Proofs.Ytpjidcfdcpjafaa
open Go.RowKit Go

def valsB (xs : List ByteArray) : Bool := decide (xs.length = 4) && xs.all (fun s => Wd.wordB s.data.toList)
theorem all_take_succS (l : List ByteArray) (f : ByteArray → Bool) (k : Nat) (h : k < l.length) : (l.take (k + 1)).all f = ((l.take k).all f && f l[k]) := by
  rw [List.take_succ_eq_append_getElem h, List.all_append]
  simp
theorem all_false_ofS (l : List ByteArray) (f : ByteArray → Bool) (k : Nat) (h : k < l.length) (hf : f l[k] = false) : l.all f = false := by
  rw [List.all_eq_false]
  exact ⟨l[k], List.getElem_mem h, by simp [hf]⟩

end Go.Proofs.Ytpjidcfdcpjafaa
