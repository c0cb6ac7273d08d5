/-
  A slice of structs of two texts that came in reads as a row of pairs of texts.
-/
import Derived.Test.YtgfdcpmjaamhdaaEqS
import Derived.Deep.Slices
import Derived.Lib.SmallJoins
import Derived.ChangeSame
namespace Go.Proofs.Ytgfdcpmjaamhdaa
open Go.RowKit Go Go.ChangeShapes Go.WideShapes Go.Deep

theorem erow_nil (w : World) (B : Nat) : ERow w B (.slice none 0 0) [] := ⟨none, 0, rfl, fun h => absurd h (by simp)⟩

theorem pairs_of {w : World} {x : Addr} (n : Nat) (h : ∀ i, i < n → ∃ l r : ByteArray, w.cell? (x.add (i * 2)) = some (.string l) ∧ w.cell? (x.add (i * 2 + 1)) = some (.string r) ∧ l.size ≤ maxLen ∧ r.size ≤ maxLen) :
    ∃ es : List Eqn, es.length = n ∧ (∀ e ∈ es, e.1.size ≤ maxLen ∧ e.2.size ≤ maxLen) ∧ ∀ i (hi : i < es.length), w.cell? (x.add (i * 2)) = some (.string es[i].1) ∧ w.cell? (x.add (i * 2 + 1)) = some (.string es[i].2) := by
  induction n with
  | zero => exact ⟨[], rfl, by simp, fun i hi => absurd hi (by simp)⟩
  | succ n ih =>
    obtain ⟨es, hl, hs, hc⟩ := ih (fun i hi => h i (by omega))
    obtain ⟨l, r, h1, h2, h3, h4⟩ := h n (by omega)
    refine ⟨es ++ [(l, r)], by simp [hl], ?_, ?_⟩
    · intro e he
      rw [List.mem_append] at he
      rcases he with he | he
      · exact hs e he
      · obtain rfl : e = (l, r) := by simpa using he
        exact ⟨h3, h4⟩
    · intro i hi
      by_cases hin : i < es.length
      · rw [List.getElem_append_left hin]
        exact hc i hin
      · have : i = es.length := by rw [List.length_append, List.length_singleton] at hi; omega
        subst this
        rw [List.getElem_append_right (Nat.le_refl _)]
        simp only [Nat.sub_self, List.getElem_singleton]
        rw [hl]
        exact ⟨h1, h2⟩

section
variable {H : Type} {enc : TypeId × Value → H} {P : Program} {w : World} {base : Nat} {spare : Nat → Bool} {held : Bool}
theorem erow_of {t e : TypeId} {f0 f1 : Field} {fuel : Nat} {a : Option Addr} {len cap : Nat} {x : DataW H × List MemPlace} (ht : P.underlying t = some (.slice e)) (he : P.underlying e = some (.struct #[f0, f1]))
    (hone : oneCellFields P #[f0, f1] = true) (hC : P.cellsOf e = 2) (h0 : P.underlying f0.type = some .string) (h1 : P.underlying f1.type = some .string)
    (h : DataW.trod enc P w base spare held fuel t [.slice a len cap] = some x) :
    ∃ es : List Eqn, ERow w w.heap.size (.slice a len cap) es ∧ es.length ≤ maxLen ∧ ∀ e ∈ es, e.1.size ≤ maxLen ∧ e.2.size ≤ maxLen := by
  rcases open_slice ht h with ⟨hcs, _⟩ | ⟨ad, len', cap', m, n, D, Pl, hcs, hb, hl, hm, hmm, _, hi⟩
  · simp at hcs
    obtain ⟨rfl, rfl, rfl⟩ := hcs
    exact ⟨[], erow_nil _ _, Nat.zero_le _, by simp⟩
  · simp at hcs
    obtain ⟨rfl, rfl, rfl⟩ := hcs
    have hlm : len ≤ m := by rw [hmm]; split <;> omega
    have hp := pairs_of (w := w) (x := ad) len (fun i hil => by
      obtain ⟨cs', hc, ht'⟩ := hi i (by omega)
      rw [hC] at hc
      obtain ⟨_, hcl, hat⟩ := World.cells?_some hc
      obtain ⟨y0, y1, n', _, _, g0, g1⟩ := trod_struct2 he ht'
      obtain ⟨o0, k0⟩ := hone_of hone 0 f0 rfl
      obtain ⟨o1, k1⟩ := hone_of hone 1 f1 rfl
      match cs', hcl with
      | [u, v], _ =>
        rw [o0, k0] at g0
        rw [o1, k1] at g1
        have g0' : DataW.trod enc P w base spare held n' f0.type [u] = some y0 := g0
        have g1' : DataW.trod enc P w base spare held n' f1.type [v] = some y1 := g1
        obtain ⟨l, hl1, _, hl2⟩ := DataW.trod_string h0 g0'
        obtain ⟨r, hr1, _, hr2⟩ := DataW.trod_string h1 g1'
        obtain rfl : u = .string l := by simpa using hl1
        obtain rfl : v = .string r := by simpa using hr1
        refine ⟨l, r, ?_, ?_, hl2, hr2⟩
        · have := hat 0 (by omega)
          rw [add_add] at this
          exact this
        · have := hat 1 (by omega)
          rw [add_add] at this
          exact this)
    obtain ⟨es, hel, hes, hce⟩ := hp
    refine ⟨es, ?_, by omega, hes⟩
    rcases Nat.eq_zero_or_pos len with hz | hz
    · subst hz
      refine ⟨some ad, cap, by rw [hel], fun h => by omega⟩
    · have hsp : ad.spot = none := by
        have := World.cell?_spot (hce 0 (by omega)).1
        simpa [Addr.add] using this
      obtain ⟨b, off, spot⟩ := ad
      subst hsp
      refine ⟨some _, cap, by rw [hel], fun _ => ⟨b, off, rfl, ?_, fun i hi => ?_⟩⟩
      · have := (hce 0 (by omega)).1
        rw [add_plain] at this
        exact World.block_lt_of_cell? _ _ this
      · have := hce i hi
        rw [add_plain, add_plain, ← Nat.add_assoc] at this
        exact this
end

end Go.Proofs.Ytgfdcpmjaamhdaa
