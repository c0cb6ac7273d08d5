/-
  Slices of texts in memory, and the laws' own functions on them (equal; copied; their bulk): contracts.
-/
import Derived.Test.YtdnkdmmockoehaaGreatRow
import Derived.OwnWalk
namespace Go.Proofs.YtdnkdmmockoehaaGreat
open Go.RowKit Go

theorem Tryz.infoS : (Tryz.prog.info? 9).map (fun i => (i.zero, i.size, i.bytes)) = some (some (.string ⟨#[]⟩), 1, 16) := by kernel_rfl

/-- A slice of texts in memory of the call's own, from block 'base' on. -/
def Strs (w : World) (base : Nat) (v : Value) (xs : List ByteArray) : Prop := w.ownsRow base 9 1 v xs.length (xs.map Value.string)
theorem Strs.row {w : World} {base : Nat} {v : Value} {xs : List ByteArray} (h : Strs w base v xs) : Row w w.heap.size v (xs.map Value.string) := Row.of_own (show w.ownsRow base 9 1 v xs.length (xs.map Value.string) from h)
theorem Strs.below {w w' : World} {base : Nat} {v : Value} {xs : List ByteArray} (h : Strs w base v xs) (hb : Below w.heap.size w w') : Strs w' base v xs := by
  have h' : w.ownsRow base 9 1 v xs.length (xs.map Value.string) := h
  exact h'.kept (row := none) ⟨hb.os, hb.tape, hb.output, hb.size, fun k hk _ => hb.block k hk⟩ (by
    rcases hv : v.ownBlock with _ | k
    · exact .inl rfl
    · exact .inr (by simp))

theorem map_str_at {xs : List ByteArray} {k : Nat} (h : k < xs.length) : (xs.map Value.string)[k]? = some (.string xs[k]) := by
  rw [List.getElem?_map, List.getElem?_eq_getElem h]; rfl
theorem strRow_at {w : World} {B : Nat} {v : Value} {xs : List ByteArray} (h : Row w B v (xs.map Value.string)) : ∃ A c, v = .slice A xs.length c ∧ (0 < xs.length → ∃ g o, A = some ⟨g, o, none⟩ ∧ g < B ∧ ∀ i (hi : i < xs.length), w.cell? ⟨g, o + i, none⟩ = some (.string xs[i])) := by
  obtain ⟨A, c, rfl, hA⟩ := h
  rw [List.length_map] at hA ⊢
  refine ⟨A, c, rfl, fun h0 => ?_⟩
  obtain ⟨g, o, hA1, hg, hc⟩ := hA h0
  exact ⟨g, o, hA1, hg, fun i hi => hc i _ (map_str_at hi)⟩

end Go.Proofs.YtdnkdmmockoehaaGreat
