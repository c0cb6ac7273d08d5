/-
  ShiftingFamily, of the program and of the model: contracts.
-/
import Derived.Test.YthomkmbobaehkaaTl
import Derived.Test.YthomkmbobaehkaaCf
namespace Go.Proofs.Ythomkmbobaehkaa
open Go.RowKit Go
set_option linter.unusedVariables false

theorem Qws.wider {w : World} {base base' : Nat} {v : Value} {r : List Pc} (h : Qws w base v r) (hb : base' ≤ base) : Qws w base' v r := own_wider (show w.ownsRow _ _ _ _ _ _ from h) hb
theorem Qws.lt {w : World} {base : Nat} {v : Value} {r : List Pc} (h : Qws w base v r) : ∀ k, v.ownBlock = some k → base ≤ k ∧ k < w.heap.size := World.ownsRow.lt (show w.ownsRow _ _ _ _ _ _ from h)
theorem Qws.setCell {w : World} {base g j : Nat} {x : Value} {v : Value} {r : List Pc} (h : Qws w base v r) (hg : g < base) : Qws (w.setCell ⟨g, j, none⟩ x) base v r := own_other (row := some g) (show w.ownsRow _ _ _ _ _ _ from h) (grown_setCell _ _ _ _) (fun k hk => by cases hk; exact hg)
theorem wordB_app {p q : ByteArray} (hp : Wd.wordB p.data.toList = true) (hq : Wd.wordB q.data.toList = true) : Wd.wordB (p ++ q).data.toList = decide (p.size + q.size ≤ 60) := by
  unfold Wd.wordB at hp hq ⊢
  rw [Bool.and_eq_true] at hp hq
  rw [ByteArray.data_append, Array.toList_append, List.all_append, hp.2, hq.2, List.length_append]
  simp
theorem size_app (p q : ByteArray) : (p ++ q).size = p.size + q.size := by simp
theorem onceQ_nil {s : ByteArray} (h : s.size ≠ 0) : onceQ [] s = [(s, 1, 0)] := by unfold onceQ; rw [if_neg h]; rfl

end Go.Proofs.Ythomkmbobaehkaa
