/-
  A description of solutions that came in reads as one: a bool, a slice of texts, a slice of powers.
-/
import Derived.Test.YthgbfjeemfcnlaaDesc
import Derived.Test.YthgbfjeemfcnlaaOpen
import Derived.SliceStrings
import Derived.Deep.Slices
import Derived.Deep.Strs
import Derived.Lib.SmallJoins
import Derived.ChangeSame
import Derived.ChangeArms
namespace Go.Proofs.Ythgbfjeemfcnlaa
open Go.RowKit Go Go.ChangeShapes Go.WideShapes Go.Deep

theorem pws_of {w : World} {x : Addr} (n : Nat) (h : ∀ i, i < n → ∃ (l r : ByteArray) (z : Int), w.cell? (x.add (i * 3)) = some (.string l) ∧ w.cell? (x.add (i * 3 + 1)) = some (.string r) ∧ w.cell? (x.add (i * 3 + 2)) = some (.int .i64 z) ∧ l.size ≤ maxLen ∧ r.size ≤ maxLen ∧ (Lit.int .i64 z).wf = true) :
    ∃ es : List Pw, es.length = n ∧ (∀ e ∈ es, e.1.size ≤ maxLen ∧ e.2.1.size ≤ maxLen ∧ (Lit.int .i64 e.2.2).wf = true) ∧ ∀ i (hi : i < es.length), w.cell? (x.add (i * 3)) = some (.string es[i].1) ∧ w.cell? (x.add (i * 3 + 1)) = some (.string es[i].2.1) ∧ w.cell? (x.add (i * 3 + 2)) = some (.int .i64 es[i].2.2) := by
  induction n with
  | zero => exact ⟨[], rfl, by simp, fun i hi => absurd hi (by simp)⟩
  | succ n ih =>
    obtain ⟨es, hl, hs, hc⟩ := ih (fun i hi => h i (by omega))
    obtain ⟨l, r, z, h1, h2, h3, h4⟩ := h n (by omega)
    refine ⟨es ++ [(l, r, z)], by simp [hl], ?_, ?_⟩
    · intro e he
      rw [List.mem_append] at he
      rcases he with he | he
      · exact hs e he
      · obtain rfl : e = (l, r, z) := by simpa using he
        exact h4
    · intro i hi
      by_cases hin : i < es.length
      · rw [List.getElem_append_left hin]
        exact hc i hin
      · have : i = es.length := by rw [List.length_append, List.length_singleton] at hi; omega
        subst this
        rw [List.getElem_append_right (Nat.le_refl _)]
        simp only [Nat.sub_self, List.getElem_singleton]
        rw [hl]
        exact ⟨h1, h2, h3⟩

/-- What came in is no longer than Go can hold, its numbers are numbers of 64 bits. -/
def DescW (xs : List ByteArray) (ps : List Pw) : Prop := DescSz xs ps ∧ ∀ e ∈ ps, (Lit.int .i64 e.2.2).wf = true

section
variable {H : Type} {enc : TypeId × Value → H} {P : Program} {w : World} {base : Nat} {spare : Nat → Bool} {held : Bool}
theorem prow_of {t e : TypeId} {f0 f1 f2 : Field} {fuel : Nat} {v : Value} {x : DataW H × List MemPlace} (ht : P.underlying t = some (.slice e)) (he : P.underlying e = some (.struct #[f0, f1, f2]))
    (hone : oneCellFields P #[f0, f1, f2] = true) (hC : P.cellsOf e = 3) (h0 : P.underlying f0.type = some .string) (h1 : P.underlying f1.type = some .string) (h2 : P.underlying f2.type = some (.int .i64))
    (h : DataW.trod enc P w base spare held fuel t [v] = some x) :
    ∃ es : List Pw, PRow w w.heap.size v es ∧ es.length ≤ maxLen ∧ ∀ e ∈ es, e.1.size ≤ maxLen ∧ e.2.1.size ≤ maxLen ∧ (Lit.int .i64 e.2.2).wf = true := by
  rcases open_slice ht h with ⟨hcs, _⟩ | ⟨ad, len, cap, m, n, D, Pl, hcs, hb, hl, hm, hmm, _, hi⟩
  · obtain rfl : v = .slice none 0 0 := by simpa using hcs
    exact ⟨[], prow_nil _ _, Nat.zero_le _, by simp⟩
  · obtain rfl : v = .slice (some ad) len cap := by simpa using hcs
    have hlm : len ≤ m := by rw [hmm]; split <;> omega
    have hp := pws_of (w := w) (x := ad) len (fun i hil => by
      obtain ⟨cs', hc, ht'⟩ := hi i (by omega)
      rw [hC] at hc
      obtain ⟨_, hcl, hat⟩ := World.cells?_some hc
      obtain ⟨y0, y1, y2, n', _, _, g0, g1, g2⟩ := trod_struct3 he ht'
      obtain ⟨o0, k0⟩ := hone_of hone 0 f0 rfl
      obtain ⟨o1, k1⟩ := hone_of hone 1 f1 rfl
      obtain ⟨o2, k2⟩ := hone_of hone 2 f2 rfl
      match cs', hcl with
      | [u, v, q], _ =>
        rw [o0, k0] at g0
        rw [o1, k1] at g1
        rw [o2, k2] at g2
        have g0' : DataW.trod enc P w base spare held n' f0.type [u] = some y0 := g0
        have g1' : DataW.trod enc P w base spare held n' f1.type [v] = some y1 := g1
        have g2' : DataW.trod enc P w base spare held n' f2.type [q] = some y2 := g2
        obtain ⟨l, hl1, _, hl2⟩ := DataW.trod_string h0 g0'
        obtain ⟨r, hr1, _, hr2⟩ := DataW.trod_string h1 g1'
        obtain ⟨z, hz1, _, hz2⟩ := DataW.trod_int h2 g2'
        obtain rfl : u = .string l := by simpa using hl1
        obtain rfl : v = .string r := by simpa using hr1
        obtain rfl : q = .int .i64 z := by simpa using hz1
        refine ⟨l, r, z, ?_, ?_, ?_, hl2, hr2, hz2⟩
        · have := hat 0 (by omega)
          rw [add_add] at this
          exact this
        · have := hat 1 (by omega)
          rw [add_add] at this
          exact this
        · have := hat 2 (by omega)
          rw [add_add] at this
          exact this)
    obtain ⟨es, hel, hes, hce⟩ := hp
    refine ⟨es, ?_, by omega, hes⟩
    rcases Nat.eq_zero_or_pos len with hz | hz
    · subst hz
      refine ⟨some ad, cap, by rw [hel], fun h => by omega⟩
    · have hsp : ad.spot = none := by
        have := World.cell?_spot (hce 0 (by omega)).1
        simpa [Addr.add] using this
      obtain ⟨b, off, spot⟩ := ad
      subst hsp
      refine ⟨some _, cap, by rw [hel], fun _ => ⟨b, off, rfl, ?_, fun i hi => ?_⟩⟩
      · have := (hce 0 (by omega)).1
        rw [add_plain] at this
        exact World.block_lt_of_cell? _ _ this
      · have := hce i hi
        rw [add_plain, add_plain, add_plain, ← Nat.add_assoc, ← Nat.add_assoc] at this
        exact this

theorem strs_of {t e : TypeId} {fuel : Nat} {v : Value} {x : DataW H × List MemPlace} (ht : P.underlying t = some (.slice e)) (he : P.underlying e = some .string) (hc : P.cellsOf e = 1)
    (h : DataW.trod enc P w base spare held fuel t [v] = some x) :
    ∃ zs : List ByteArray, Row w w.heap.size v (zs.map Value.string) ∧ zs.length ≤ maxLen ∧ ∀ s ∈ zs, s.size ≤ maxLen := by
  rcases open_strings ht he hc h with ⟨hcs, _⟩ | ⟨x, l, c, zs, hcs, _, hl, hm, hz, _, hcell, hwz⟩
  · obtain rfl : v = .slice none 0 0 := by simpa using hcs
    exact ⟨[], row_nil _ _, Nat.zero_le _, by simp⟩
  · obtain rfl : v = .slice (some x) l c := by simpa using hcs
    have hlz : l ≤ zs.length := by rw [hz]; split <;> omega
    exact ⟨zs.take l, row_of_strs hlz hcell, by rw [List.length_take]; omega, fun s hs => hwz s (List.mem_of_mem_take hs)⟩

theorem desc_of {r : Reach} {b0 : Nat} {t pt : TypeId} {f0 f1 f2 g0 g1 g2 : Field} {st : TypeId} {v : Value} {d : DataW H} {p : List MemPlace} (hs : P.underlying t = some (.struct #[f0, f1, f2])) (hone : oneCellFields P #[f0, f1, f2] = true) (hC : P.cellsOf t = 3)
    (hf0 : P.underlying f0.type = some .bool) (hf1 : P.underlying f1.type = some (.slice st)) (hst : P.underlying st = some .string) (hcs : P.cellsOf st = 1)
    (hf2 : P.underlying f2.type = some (.slice pt)) (he : P.underlying pt = some (.struct #[g0, g1, g2])) (hone2 : oneCellFields P #[g0, g1, g2] = true) (hC2 : P.cellsOf pt = 3) (hg0 : P.underlying g0.type = some .string) (hg1 : P.underlying g1.type = some .string) (hg2 : P.underlying g2.type = some (.int .i64))
    (hv : Value.okWide P w r b0 t v) (h : DataW.Trod enc P w base spare held t v d p) :
    ∃ e xs ps, Desc w w.heap.size v e xs ps ∧ DescW xs ps := by
  obtain ⟨v0, v1, v2, y0, y1, y2, n, rfl, _, _, h0, h1, h2⟩ := Go.Joins.open_agg3 hs hone hC hv h
  obtain ⟨b, hb, _⟩ := DataW.trod_bool hf0 h0
  obtain rfl : v0 = .bool b := by simpa using hb
  obtain ⟨xs, hx1, hx2, hx3⟩ := strs_of hf1 hst hcs h1
  obtain ⟨ps, hp1, hp2, hp3⟩ := prow_of hf2 he hone2 hC2 hg0 hg1 hg2 h2
  exact ⟨b, xs, ps, ⟨_, _, rfl, hx1, hp1⟩, ⟨⟨hx2, hx3⟩, hp2, fun e he => ⟨(hp3 e he).1, (hp3 e he).2.1⟩⟩, fun e he => (hp3 e he).2.2⟩
end

end Go.Proofs.Ythgbfjeemfcnlaa
