/-
  Slices of slices of numbers in memory; the laws' own functions on them (bulk; copy; equal): contracts.
-/
import Derived.Test.YtpjidcfdcpjafaaRow
import Derived.Test.YtpjidcfdcpjafaaRow2
import Derived.Test.YtpjidcfdcpjafaaMem
import Derived.OwnWalk
import Derived.Deep.RegionHeld3
namespace Go.Proofs.Ytpjidcfdcpjafaa
open Go.RowKit Go
set_option linter.unusedVariables false

/-- A slice value that reads, below block B, as these lists of numbers. -/
def IRows (w : World) (B : Nat) (v : Value) (rs : List (List Int)) : Prop :=
  ∃ vs : List Value, Row w B v vs ∧ vs.length = rs.length ∧ ∀ i (h : i < rs.length), ∃ x, vs[i]? = some x ∧ Row w B x (ints rs[i])
theorem IRows.below {w w' : World} {B : Nat} {v : Value} {rs : List (List Int)} (h : IRows w B v rs) (hb : Below B w w') : IRows w' B v rs := by
  obtain ⟨vs, h1, h2, h3⟩ := h
  refine ⟨vs, h1.below hb, h2, fun i hi => ?_⟩
  obtain ⟨x, hx, hr⟩ := h3 i hi
  exact ⟨x, hx, hr.below hb⟩
theorem IRows.more {w : World} {B B' : Nat} {v : Value} {rs : List (List Int)} (h : IRows w B v rs) (hB : B ≤ B') : IRows w B' v rs := by
  obtain ⟨vs, h1, h2, h3⟩ := h
  refine ⟨vs, h1.more hB, h2, fun i hi => ?_⟩
  obtain ⟨x, hx, hr⟩ := h3 i hi
  exact ⟨x, hx, hr.more hB⟩
/-- In the walk's words: the slice, and at each place a slice that reads as the numbers. -/
theorem IRows.at {w : World} {B : Nat} {v : Value} {rs : List (List Int)} (h : IRows w B v rs) : ∃ A c, v = .slice A rs.length c ∧ (0 < rs.length → ∃ g o, A = some ⟨g, o, none⟩ ∧ g < B ∧
    ∀ i (hi : i < rs.length), ∃ a cp, w.cell? ⟨g, o + i, none⟩ = some (.slice a rs[i].length cp) ∧ Row w B (.slice a rs[i].length cp) (ints rs[i])) := by
  obtain ⟨vs, h1, h2, h3⟩ := h
  obtain ⟨A, c, rfl, hA⟩ := h1
  rw [h2] at hA ⊢
  refine ⟨A, c, rfl, fun hp => ?_⟩
  obtain ⟨g, o, hA1, hg, hc⟩ := hA hp
  refine ⟨g, o, hA1, hg, fun i hi => ?_⟩
  obtain ⟨x, hx, hr⟩ := h3 i hi
  obtain ⟨a, cp, hxe, _⟩ := id hr
  rw [show (ints rs[i]).length = rs[i].length by simp [ints]] at hxe
  subst hxe
  exact ⟨a, cp, hc i _ hx, hr⟩

end Go.Proofs.Ytpjidcfdcpjafaa
