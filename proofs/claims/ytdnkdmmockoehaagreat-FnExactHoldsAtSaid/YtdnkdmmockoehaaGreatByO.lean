/-
  Slices of bytes of the call's own, and their texts.
-/
import Derived.Test.YtdnkdmmockoehaaGreatRow
import Derived.OwnWalk
import Derived.Laws.OwnMore
import Derived.Laws.BytesArg
import Derived.Lib.AppendStr
namespace Go.Proofs.YtdnkdmmockoehaaGreat
open Go.RowKit Go
set_option linter.unusedVariables false

theorem Tryz.infoU8 : (Tryz.prog.info? 5).map (fun i => (i.zero, i.size, i.bytes)) = some (some (.int .u8 0), 1, 1) := by kernel_rfl

/-- A slice of bytes of the call's own. -/
def BytO (w : World) (base : Nat) (v : Value) (l : List UInt8) : Prop := w.ownsRow base 5 1 v l.length (l.map fun b => Value.int .u8 (b.toNat : Int))
theorem strOfNums_bytes (l : List UInt8) : strOfNums (l.map fun b => (b.toNat : Int)) = ⟨⟨l⟩⟩ := by
  have h : (l.map fun b => (b.toNat : Int)).map (fun n => UInt8.ofNat n.toNat) = l := by
    rw [List.map_map]
    conv => rhs; rw [← List.map_id l]
    apply List.map_congr_left
    intro b _
    simp
  unfold strOfNums
  simp only [h]
theorem BytO.conv {w : World} {base : Nat} {v : Value} {l : List UInt8} (h : BytO w base v l) : (convert 95 9 v).run Tryz.prog w = .ok (.string ⟨⟨l⟩⟩) w := by
  have h' : w.ownsRow base 5 1 v l.length (l.map fun b => Value.int .u8 (b.toNat : Int)) := h
  rcases h'.2 with ⟨rfl, h0⟩ | ⟨g, cap, cur, rfl, hbg, hg, hnc, hcm, hcs, ht⟩
  · have : l = [] := List.length_eq_zero_iff.1 h0
    subst this
    exact run_convert_bytes_nil w 95 5 Tryz.underlying95 Tryz.underlying5 _ _ 9 Tryz.underlying9
  · rw [← strOfNums_bytes l]
    refine run_convert_bytes_arg w 95 5 Tryz.underlying95 Tryz.underlying5 g 0 l.length cap (l.map fun b => (b.toNat : Int)) (by simp) (fun i hi => ?_) 9 Tryz.underlying9
    rw [Nat.zero_add, h'.cellAt i (by omega), List.getElem?_map, List.getElem?_eq_getElem (by omega)]
    simp [List.getD_eq_getElem?_getD, hi]
theorem BytO.app {w : World} {base n : Nat} {v : Value} {l : List UInt8} {s : ByteArray} (h : w.ownsRow base 5 1 v n ((l.map fun b => Value.int .u8 (b.toNat : Int)) ++ Lib.strCells s)) (hn : n = l.length + s.size) : BytO w base v (l ++ s.data.toList) := by
  subst hn
  unfold BytO
  rw [List.length_append, List.map_append, show s.data.toList.length = s.size by simp]
  exact h
theorem BytO.below {w w' : World} {base : Nat} {v : Value} {l : List UInt8} (h : BytO w base v l) (hb : Below w.heap.size w w') : BytO w' base v l := World.ownsRow.kept (row := none) (show w.ownsRow _ _ _ _ _ _ from h) ⟨hb.os, hb.tape, hb.output, hb.size, fun k hk _ => hb.block k hk⟩ (by
    rcases hv : v.ownBlock with _ | k
    · exact .inl rfl
    · exact .inr (by simp))

end Go.Proofs.YtdnkdmmockoehaaGreat
