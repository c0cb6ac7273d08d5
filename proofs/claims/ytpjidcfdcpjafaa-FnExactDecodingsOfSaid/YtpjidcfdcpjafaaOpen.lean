/-
  A slice of numbers, or of texts, that came in reads as a row.
-/
import Derived.Test.YtpjidcfdcpjafaaRow
import Derived.OpenShut
namespace Go.Proofs.Ytpjidcfdcpjafaa
open Go.RowKit Go

theorem row_of_ints {w : World} {x : Addr} {zs : List Int} {len cap : Nat} {k : IntKind} (hl : len ≤ zs.length)
    (hcell : ∀ i, i < zs.length → w.cell? (x.add i) = some (.int k (zs.getD i 0))) : Row w w.heap.size (.slice (some x) len cap) ((zs.take len).map (Value.int k)) := by
  have hlen : ((zs.take len).map (Value.int k)).length = len := by rw [List.length_map, List.length_take]; omega
  refine ⟨some x, cap, by rw [hlen], fun hp => ?_⟩
  rw [hlen] at hp
  obtain ⟨b, off, rfl, hc⟩ := ints_at hcell (by omega)
  refine ⟨b, off, rfl, ?_, fun i v hv => ?_⟩
  · have := hc 0 (by omega)
    exact World.block_lt_of_cell? _ _ this
  · rw [List.getElem?_map] at hv
    have hi : i < len := by
      rcases Nat.lt_or_ge i len with h | h
      · exact h
      · rw [List.getElem?_eq_none (by rw [List.length_take]; omega)] at hv; cases hv
    rw [List.getElem?_take, if_pos hi, List.getElem?_eq_getElem (by omega)] at hv
    have e : v = .int k zs[i] := by simpa using hv.symm
    rw [hc i (by omega), e]
    simp [List.getD_eq_getElem?_getD, List.getElem?_eq_getElem (show i < zs.length by omega)]

theorem row_of_strs {w : World} {x : Addr} {ss : List ByteArray} {len cap : Nat} (hl : len ≤ ss.length)
    (hcell : ∀ i, i < ss.length → w.cell? (x.add i) = some (.string (ss.getD i ByteArray.empty))) : Row w w.heap.size (.slice (some x) len cap) ((ss.take len).map Value.string) := by
  have hlen : ((ss.take len).map Value.string).length = len := by rw [List.length_map, List.length_take]; omega
  refine ⟨some x, cap, by rw [hlen], fun hp => ?_⟩
  rw [hlen] at hp
  obtain ⟨b, off, spot⟩ := x
  have hspot : spot = none := by simpa [Addr.add] using World.cell?_spot (hcell 0 (by omega))
  subst hspot
  have hc : ∀ j, j < ss.length → w.cell? ⟨b, off + j, none⟩ = some (.string (ss.getD j ByteArray.empty)) := fun j hj => by rw [← Go.WideShapes.add_plain]; exact hcell j hj
  refine ⟨b, off, rfl, ?_, fun i v hv => ?_⟩
  · have := hc 0 (by omega)
    exact World.block_lt_of_cell? _ _ this
  · rw [List.getElem?_map] at hv
    have hi : i < len := by
      rcases Nat.lt_or_ge i len with h | h
      · exact h
      · rw [List.getElem?_eq_none (by rw [List.length_take]; omega)] at hv; cases hv
    rw [List.getElem?_take, if_pos hi, List.getElem?_eq_getElem (by omega)] at hv
    have e : v = .string ss[i] := by simpa using hv.symm
    rw [hc i (by omega), e]
    simp [List.getD_eq_getElem?_getD, List.getElem?_eq_getElem (show i < ss.length by omega)]

theorem row_nil (w : World) (B : Nat) : Row w B (.slice none 0 0) [] := ⟨none, 0, rfl, fun h => by simp at h⟩

end Go.Proofs.Ytpjidcfdcpjafaa
