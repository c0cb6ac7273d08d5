/-
  A slice of slices of numbers that came in reads as rows of numbers; bounds.
-/
import Derived.Test.YtjoleenehdfkkaaBd
import Derived.Test.YtjoleenehdfkkaaOpen
import Derived.ChangeSlices
import Derived.Deep.Slices
import Derived.Lib.SmallJoins
import Derived.ChangeSame
import Derived.ChangeArms
namespace Go.Proofs.Ytjoleenehdfkkaa
open Go.RowKit Go Go.ChangeShapes Go.WideShapes Go.Deep
set_option linter.unusedVariables false

theorem irows_of_places {w : World} {x : Addr} (n : Nat) (h : ∀ i, i < n → ∃ (v : Value) (zs : List Int), w.cell? (x.add i) = some v ∧ Row w w.heap.size v (ints zs) ∧ zs.length ≤ maxLen) :
    ∃ (vs : List Value) (rs : List (List Int)), vs.length = n ∧ rs.length = n ∧ (∀ r ∈ rs, r.length ≤ maxLen) ∧ (∀ i (hi : i < vs.length), w.cell? (x.add i) = some vs[i]) ∧ ∀ i (hi : i < rs.length), ∃ v, vs[i]? = some v ∧ Row w w.heap.size v (ints rs[i]) := by
  induction n with
  | zero => exact ⟨[], [], rfl, rfl, by simp, fun i hi => absurd hi (by simp), fun i hi => absurd hi (by simp)⟩
  | succ n ih =>
    obtain ⟨vs, rs, hl, hl2, hs, hc, hr⟩ := ih (fun i hi => h i (by omega))
    obtain ⟨v, zs, h1, h2, h3⟩ := h n (by omega)
    refine ⟨vs ++ [v], rs ++ [zs], by simp [hl], by simp [hl2], ?_, ?_, ?_⟩
    · intro e he
      rw [List.mem_append] at he
      rcases he with he | he
      · exact hs e he
      · obtain rfl : e = zs := by simpa using he
        exact h3
    · intro i hi
      by_cases hin : i < vs.length
      · rw [List.getElem_append_left hin]
        exact hc i hin
      · have : i = vs.length := by rw [List.length_append, List.length_singleton] at hi; omega
        subst this
        rw [List.getElem_append_right (Nat.le_refl _)]
        simp only [Nat.sub_self, List.getElem_singleton]
        rw [hl]
        exact h1
    · intro i hi
      by_cases hin : i < rs.length
      · rw [List.getElem_append_left hin, List.getElem?_append_left (by omega)]
        exact hr i hin
      · have : i = rs.length := by rw [List.length_append, List.length_singleton] at hi; omega
        subst this
        rw [List.getElem_append_right (Nat.le_refl _), List.getElem?_append_right (by omega)]
        rw [show rs.length - vs.length = 0 by omega]
        exact ⟨v, rfl, by simpa using h2⟩

section
variable {H : Type} {enc : TypeId × Value → H} {P : Program} {w : World} {base : Nat} {spare : Nat → Bool} {held : Bool}
theorem ints_of {t e : TypeId} {fuel : Nat} {v : Value} {x : DataW H × List MemPlace} (ht : P.underlying t = some (.slice e)) (he : P.underlying e = some (.int .i64)) (hc : P.cellsOf e = 1)
    (h : DataW.trod enc P w base spare held fuel t [v] = some x) :
    ∃ zs : List Int, Row w w.heap.size v (ints zs) ∧ zs.length ≤ maxLen := by
  rcases open_ints ht he hc h with ⟨hcs, _⟩ | ⟨x, l, c, zs, hcs, _, hl, hm, hz, _, hcell, hwz⟩
  · obtain rfl : v = .slice none 0 0 := by simpa using hcs
    exact ⟨[], row_nil _ _, Nat.zero_le _⟩
  · obtain rfl : v = .slice (some x) l c := by simpa using hcs
    have hlz : l ≤ zs.length := by rw [hz]; split <;> omega
    exact ⟨zs.take l, row_of_ints hlz hcell, by rw [List.length_take]; omega⟩

theorem irows_of {t e f : TypeId} {fuel : Nat} {v : Value} {x : DataW H × List MemPlace} (ht : P.underlying t = some (.slice e)) (he : P.underlying e = some (.slice f)) (hf : P.underlying f = some (.int .i64)) (hc : P.cellsOf e = 1) (hcf : P.cellsOf f = 1)
    (h : DataW.trod enc P w base spare held fuel t [v] = some x) :
    ∃ rs : List (List Int), IRows w w.heap.size v rs ∧ rs.length ≤ maxLen ∧ ∀ r ∈ rs, r.length ≤ maxLen := by
  rcases open_slice1 ht hc h with ⟨hcs, _⟩ | ⟨ad, len, cap, m, n, V, D, Pl, hcs, hb, hl, hm, hmm, _, hi⟩
  · obtain rfl : v = .slice none 0 0 := by simpa using hcs
    exact ⟨[], ⟨[], row_nil _ _, rfl, fun i hi => absurd hi (by simp)⟩, Nat.zero_le _, by simp⟩
  · obtain rfl : v = .slice (some ad) len cap := by simpa using hcs
    have hlm : len ≤ m := by rw [hmm]; split <;> omega
    obtain ⟨vs, rs, hvl, hrl, hs, hcell, hr⟩ := irows_of_places (w := w) (x := ad) len (fun i hil => by
      obtain ⟨h1, h2⟩ := hi i (by omega)
      obtain ⟨zs, hz, hzl⟩ := ints_of he hf hcf h2
      exact ⟨V i, zs, h1, hz, hzl⟩)
    refine ⟨rs, ⟨vs, ?_, by omega, hr⟩, by omega, hs⟩
    rcases Nat.eq_zero_or_pos len with hz | hz
    · exact ⟨some ad, cap, by rw [hvl], fun h => by omega⟩
    · have hsp : ad.spot = none := by
        have := World.cell?_spot (hcell 0 (by omega))
        simpa [Addr.add] using this
      obtain ⟨b, off, spot⟩ := ad
      subst hsp
      refine ⟨some _, cap, by rw [hvl], fun _ => ⟨b, off, rfl, ?_, fun i v hv => ?_⟩⟩
      · have := hcell 0 (by omega)
        rw [add_plain] at this
        exact World.block_lt_of_cell? _ _ this
      · have hiv : i < vs.length := by
          rcases Nat.lt_or_ge i vs.length with h | h
          · exact h
          · rw [List.getElem?_eq_none h] at hv; cases hv
        have := hcell i hiv
        rw [add_plain] at this
        rw [this, ← hv, List.getElem?_eq_getElem hiv]

theorem bnd_of {r : Reach} {b0 : Nat} {t rt it : TypeId} {f0 f1 f2 : Field} {v : Value} {d : DataW H} {p : List MemPlace} (hs : P.underlying t = some (.struct #[f0, f1, f2])) (hone : oneCellFields P #[f0, f1, f2] = true) (hC : P.cellsOf t = 3)
    (hf0 : P.underlying f0.type = some (.int .i64)) (hf1 : P.underlying f1.type = some (.slice rt)) (hf2 : P.underlying f2.type = some (.slice rt)) (hrt : P.underlying rt = some (.slice it)) (hit : P.underlying it = some (.int .i64)) (hc : P.cellsOf rt = 1) (hcf : P.cellsOf it = 1)
    (hv : Value.okWide P w r b0 t v) (h : DataW.Trod enc P w base spare held t v d p) :
    ∃ s ns es, Bnd w w.heap.size v s ns es ∧ BndSz ns es ∧ (Lit.int .i64 s).wf = true := by
  obtain ⟨v0, v1, v2, y0, y1, y2, n, rfl, _, _, h0, h1, h2⟩ := Go.Joins.open_agg3 hs hone hC hv h
  obtain ⟨s, hb, _, hw⟩ := DataW.trod_int hf0 h0
  obtain rfl : v0 = .int .i64 s := by simpa using hb
  obtain ⟨ns, hn1, hn2, hn3⟩ := irows_of hf1 hrt hit hc hcf h1
  obtain ⟨es, he1, he2, he3⟩ := irows_of hf2 hrt hit hc hcf h2
  exact ⟨s, ns, es, ⟨_, _, rfl, hn1, he1⟩, ⟨⟨hn2, hn3⟩, ⟨he2, he3⟩⟩, hw⟩
end

end Go.Proofs.Ytjoleenehdfkkaa
