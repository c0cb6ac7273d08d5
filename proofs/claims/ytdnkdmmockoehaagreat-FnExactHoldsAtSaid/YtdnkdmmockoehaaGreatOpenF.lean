/-
  A family that came in reads as one.
-/
import Derived.Test.YtdnkdmmockoehaaGreatFy
import Derived.Test.YtdnkdmmockoehaaGreatOpen
import Derived.ChangeSlices
import Derived.SliceStrings
import Derived.Deep.Slices
import Derived.Deep.Strs
import Derived.Lib.SmallJoins
import Derived.ChangeSame
import Derived.ChangeArms
namespace Go.Proofs.YtdnkdmmockoehaaGreat
open Go.RowKit Go Go.ChangeShapes Go.WideShapes Go.Deep
set_option linter.unusedVariables false

theorem pcs_of {w : World} {x : Addr} (n : Nat) (h : ∀ i, i < n → ∃ (l : ByteArray) (r z : Int), w.cell? (x.add (i * 3)) = some (.string l) ∧ w.cell? (x.add (i * 3 + 1)) = some (.int .i64 r) ∧ w.cell? (x.add (i * 3 + 2)) = some (.int .i64 z) ∧ l.size ≤ maxLen) :
    ∃ es : List Pc, es.length = n ∧ (∀ e ∈ es, e.1.size ≤ maxLen) ∧ ∀ i (hi : i < es.length), w.cell? (x.add (i * 3)) = some (.string es[i].1) ∧ w.cell? (x.add (i * 3 + 1)) = some (.int .i64 es[i].2.1) ∧ w.cell? (x.add (i * 3 + 2)) = some (.int .i64 es[i].2.2) := by
  induction n with
  | zero => exact ⟨[], rfl, by simp, fun i hi => absurd hi (by simp)⟩
  | succ n ih =>
    obtain ⟨es, hl, hs, hc⟩ := ih (fun i hi => h i (by omega))
    obtain ⟨l, r, z, h1, h2, h3, h4⟩ := h n (by omega)
    refine ⟨es ++ [(l, r, z)], by simp [hl], ?_, ?_⟩
    · intro e he
      rw [List.mem_append] at he
      rcases he with he | he
      · exact hs e he
      · obtain rfl : e = (l, r, z) := by simpa using he
        exact h4
    · intro i hi
      by_cases hin : i < es.length
      · rw [List.getElem_append_left hin]
        exact hc i hin
      · have : i = es.length := by rw [List.length_append, List.length_singleton] at hi; omega
        subst this
        rw [List.getElem_append_right (Nat.le_refl _)]
        simp only [Nat.sub_self, List.getElem_singleton]
        rw [hl]
        exact ⟨h1, h2, h3⟩

theorem qrows_of_places {w : World} {x : Addr} (n : Nat) (h : ∀ i, i < n → ∃ (v : Value) (zs : List Pc), w.cell? (x.add i) = some v ∧ QRow w w.heap.size v zs ∧ zs.length ≤ maxLen ∧ ∀ e ∈ zs, e.1.size ≤ maxLen) :
    ∃ (vs : List Value) (rs : List (List Pc)), vs.length = n ∧ rs.length = n ∧ (∀ r ∈ rs, r.length ≤ maxLen ∧ ∀ e ∈ r, e.1.size ≤ maxLen) ∧ (∀ i (hi : i < vs.length), w.cell? (x.add i) = some vs[i]) ∧ ∀ i (hi : i < rs.length), ∃ v, vs[i]? = some v ∧ QRow w w.heap.size v rs[i] := by
  induction n with
  | zero => exact ⟨[], [], rfl, rfl, by simp, fun i hi => absurd hi (by simp), fun i hi => absurd hi (by simp)⟩
  | succ n ih =>
    obtain ⟨vs, rs, hl, hl2, hs, hc, hr⟩ := ih (fun i hi => h i (by omega))
    obtain ⟨v, zs, h1, h2, h3⟩ := h n (by omega)
    refine ⟨vs ++ [v], rs ++ [zs], by simp [hl], by simp [hl2], ?_, ?_, ?_⟩
    · intro e he
      rw [List.mem_append] at he
      rcases he with he | he
      · exact hs e he
      · obtain rfl : e = zs := by simpa using he
        exact h3
    · intro i hi
      by_cases hin : i < vs.length
      · rw [List.getElem_append_left hin]
        exact hc i hin
      · have : i = vs.length := by rw [List.length_append, List.length_singleton] at hi; omega
        subst this
        rw [List.getElem_append_right (Nat.le_refl _)]
        simp only [Nat.sub_self, List.getElem_singleton]
        rw [hl]
        exact h1
    · intro i hi
      by_cases hin : i < rs.length
      · rw [List.getElem_append_left hin, List.getElem?_append_left (by omega)]
        exact hr i hin
      · have : i = rs.length := by rw [List.length_append, List.length_singleton] at hi; omega
        subst this
        rw [List.getElem_append_right (Nat.le_refl _), List.getElem?_append_right (by omega)]
        rw [show rs.length - vs.length = 0 by omega]
        exact ⟨v, rfl, by simpa using h2⟩

theorem array1F {α : Type} {cs : Array α} (h : cs.size = 1) : ∃ c0, cs = #[c0] := by
  obtain ⟨l⟩ := cs
  match l, h with
  | [c0], _ => exact ⟨c0, rfl⟩

section
variable {H : Type} {enc : TypeId × Value → H} {P : Program} {w : World} {base : Nat} {spare : Nat → Bool} {held : Bool}
theorem qrow_of {t e : TypeId} {f0 f1 f2 : Field} {fuel : Nat} {v : Value} {x : DataW H × List MemPlace} (ht : P.underlying t = some (.slice e)) (he : P.underlying e = some (.struct #[f0, f1, f2]))
    (hone : oneCellFields P #[f0, f1, f2] = true) (hC : P.cellsOf e = 3) (h0 : P.underlying f0.type = some .string) (h1 : P.underlying f1.type = some (.int .i64)) (h2 : P.underlying f2.type = some (.int .i64))
    (h : DataW.trod enc P w base spare held fuel t [v] = some x) :
    ∃ es : List Pc, QRow w w.heap.size v es ∧ es.length ≤ maxLen ∧ ∀ e ∈ es, e.1.size ≤ maxLen := by
  rcases open_slice ht h with ⟨hcs, _⟩ | ⟨ad, len, cap, m, n, D, Pl, hcs, hb, hl, hm, hmm, _, hi⟩
  · obtain rfl : v = .slice none 0 0 := by simpa using hcs
    exact ⟨[], qrow_nil _ _, Nat.zero_le _, by simp⟩
  · obtain rfl : v = .slice (some ad) len cap := by simpa using hcs
    have hlm : len ≤ m := by rw [hmm]; split <;> omega
    have hp := pcs_of (w := w) (x := ad) len (fun i hil => by
      obtain ⟨cs', hc, ht'⟩ := hi i (by omega)
      rw [hC] at hc
      obtain ⟨_, hcl, hat⟩ := World.cells?_some hc
      obtain ⟨y0, y1, y2, n', _, _, g0, g1, g2⟩ := trod_struct3 he ht'
      obtain ⟨o0, k0⟩ := hone_of hone 0 f0 rfl
      obtain ⟨o1, k1⟩ := hone_of hone 1 f1 rfl
      obtain ⟨o2, k2⟩ := hone_of hone 2 f2 rfl
      match cs', hcl with
      | [u, v, q], _ =>
        rw [o0, k0] at g0
        rw [o1, k1] at g1
        rw [o2, k2] at g2
        have g0' : DataW.trod enc P w base spare held n' f0.type [u] = some y0 := g0
        have g1' : DataW.trod enc P w base spare held n' f1.type [v] = some y1 := g1
        have g2' : DataW.trod enc P w base spare held n' f2.type [q] = some y2 := g2
        obtain ⟨l, hl1, _, hl2⟩ := DataW.trod_string h0 g0'
        obtain ⟨r, hr1, _, hr2⟩ := DataW.trod_int h1 g1'
        obtain ⟨z, hz1, _, hz2⟩ := DataW.trod_int h2 g2'
        obtain rfl : u = .string l := by simpa using hl1
        obtain rfl : v = .int .i64 r := by simpa using hr1
        obtain rfl : q = .int .i64 z := by simpa using hz1
        refine ⟨l, r, z, ?_, ?_, ?_, hl2⟩
        · have := hat 0 (by omega)
          rw [add_add] at this
          exact this
        · have := hat 1 (by omega)
          rw [add_add] at this
          exact this
        · have := hat 2 (by omega)
          rw [add_add] at this
          exact this)
    obtain ⟨es, hel, hes, hce⟩ := hp
    refine ⟨es, ?_, by omega, hes⟩
    rcases Nat.eq_zero_or_pos len with hz | hz
    · subst hz
      refine ⟨some ad, cap, by rw [hel], fun h => by omega⟩
    · have hsp : ad.spot = none := by
        have := World.cell?_spot (hce 0 (by omega)).1
        simpa [Addr.add] using this
      obtain ⟨b, off, spot⟩ := ad
      subst hsp
      refine ⟨some _, cap, by rw [hel], fun _ => ⟨b, off, rfl, ?_, fun i hi => ?_⟩⟩
      · have := (hce 0 (by omega)).1
        rw [add_plain] at this
        exact World.block_lt_of_cell? _ _ this
      · have := hce i hi
        rw [add_plain, add_plain, add_plain, ← Nat.add_assoc, ← Nat.add_assoc] at this
        exact this

theorem qrows_of {t e f : TypeId} {g0 g1 g2 : Field} {fuel : Nat} {v : Value} {x : DataW H × List MemPlace} (ht : P.underlying t = some (.slice e)) (he : P.underlying e = some (.slice f)) (hf : P.underlying f = some (.struct #[g0, g1, g2])) (hc : P.cellsOf e = 1)
    (hone : oneCellFields P #[g0, g1, g2] = true) (hC : P.cellsOf f = 3) (h0 : P.underlying g0.type = some .string) (h1 : P.underlying g1.type = some (.int .i64)) (h2 : P.underlying g2.type = some (.int .i64))
    (h : DataW.trod enc P w base spare held fuel t [v] = some x) :
    ∃ rs : List (List Pc), QRows w w.heap.size v rs ∧ FamSz rs := by
  rcases open_slice1 ht hc h with ⟨hcs, _⟩ | ⟨ad, len, cap, m, n, V, D, Pl, hcs, hb, hl, hm, hmm, _, hi⟩
  · obtain rfl : v = .slice none 0 0 := by simpa using hcs
    exact ⟨[], ⟨[], row_nil _ _, rfl, fun i hi => absurd hi (by simp)⟩, Nat.zero_le _, by simp⟩
  · obtain rfl : v = .slice (some ad) len cap := by simpa using hcs
    have hlm : len ≤ m := by rw [hmm]; split <;> omega
    obtain ⟨vs, rs, hvl, hrl, hs, hcell, hr⟩ := qrows_of_places (w := w) (x := ad) len (fun i hil => by
      obtain ⟨k1, k2⟩ := hi i (by omega)
      obtain ⟨zs, hz, hzl⟩ := qrow_of he hf hone hC h0 h1 h2 k2
      exact ⟨V i, zs, k1, hz, hzl⟩)
    refine ⟨rs, ⟨vs, ?_, by omega, hr⟩, by omega, hs⟩
    rcases Nat.eq_zero_or_pos len with hz | hz
    · exact ⟨some ad, cap, by rw [hvl], fun h => by omega⟩
    · have hsp : ad.spot = none := by
        have := World.cell?_spot (hcell 0 (by omega))
        simpa [Addr.add] using this
      obtain ⟨b, off, spot⟩ := ad
      subst hsp
      refine ⟨some _, cap, by rw [hvl], fun _ => ⟨b, off, rfl, ?_, fun i v hv => ?_⟩⟩
      · have := hcell 0 (by omega)
        rw [add_plain] at this
        exact World.block_lt_of_cell? _ _ this
      · have hiv : i < vs.length := by
          rcases Nat.lt_or_ge i vs.length with h | h
          · exact h
          · rw [List.getElem?_eq_none h] at hv; cases hv
        have := hcell i hiv
        rw [add_plain] at this
        rw [this, ← hv, List.getElem?_eq_getElem hiv]

theorem fam_of {r : Reach} {b0 : Nat} {t rt it : TypeId} {f0 g0 g1 g2 : Field} {v : Value} {d : DataW H} {p : List MemPlace} (hs : P.underlying t = some (.struct #[f0])) (hone : oneCellFields P #[f0] = true) (hC : P.cellsOf t = 1)
    (hf0 : P.underlying f0.type = some (.slice rt)) (hrt : P.underlying rt = some (.slice it)) (hit : P.underlying it = some (.struct #[g0, g1, g2])) (hc : P.cellsOf rt = 1)
    (hone2 : oneCellFields P #[g0, g1, g2] = true) (hC2 : P.cellsOf it = 3) (hg0 : P.underlying g0.type = some .string) (hg1 : P.underlying g1.type = some (.int .i64)) (hg2 : P.underlying g2.type = some (.int .i64))
    (hv : Value.okWide P w r b0 t v) (h : DataW.Trod enc P w base spare held t v d p) :
    ∃ rs : List (List Pc), Fam w w.heap.size v rs ∧ FamSz rs := by
  obtain ⟨cs, rfl, hsz⟩ := okWide_struct hs hv
  obtain ⟨c0, rfl⟩ := array1F (hsz.trans hC)
  obtain ⟨fuel, hf⟩ := h
  obtain ⟨y0, n, hx, _, h0⟩ := trod_struct1 hs hf
  obtain ⟨o0, k0⟩ := hone_of hone 0 f0 rfl
  have h0' : DataW.trod enc P w base spare held n f0.type [c0] = some y0 := by simpa [Value.cells, o0, k0] using h0
  obtain ⟨rs, h1, h2⟩ := qrows_of hf0 hrt hit hc hone2 hC2 hg0 hg1 hg2 h0'
  exact ⟨rs, ⟨_, rfl, h1⟩, h2⟩
end

end Go.Proofs.YtdnkdmmockoehaaGreat
