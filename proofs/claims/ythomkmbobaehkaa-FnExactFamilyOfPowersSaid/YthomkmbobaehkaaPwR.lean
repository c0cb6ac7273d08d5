/-
  Slices of powers (a root, a tail, a number: three cells each) in memory.
-/
import Derived.Test.YthomkmbobaehkaaRow
import Derived.OwnWalk
namespace Go.Proofs.Ythomkmbobaehkaa
open Go.RowKit Go
set_option linter.unusedVariables false

abbrev Pw := ByteArray × ByteArray × Int
def pw0 : Pw := (⟨#[]⟩, ⟨#[]⟩, 0)

/-- A slice value that reads, below block B, as these powers (three cells each). -/
def PRow (w : World) (B : Nat) (v : Value) (ps : List Pw) : Prop :=
  ∃ A c, v = .slice A ps.length c ∧ (0 < ps.length → ∃ g o, A = some ⟨g, o, none⟩ ∧ g < B ∧ ∀ i (h : i < ps.length), w.cell? ⟨g, o + i * 3, none⟩ = some (.string ps[i].1) ∧ w.cell? ⟨g, o + i * 3 + 1, none⟩ = some (.string ps[i].2.1) ∧ w.cell? ⟨g, o + i * 3 + 2, none⟩ = some (.int .i64 ps[i].2.2))

theorem PRow.below {w w' : World} {B : Nat} {v : Value} {ps : List Pw} (h : PRow w B v ps) (hb : Below B w w') : PRow w' B v ps := by
  obtain ⟨A, c, hv, hc⟩ := h
  refine ⟨A, c, hv, fun hp => ?_⟩
  obtain ⟨g, o, hA, hg, hcell⟩ := hc hp
  exact ⟨g, o, hA, hg, fun i hi => ⟨(hb.cell (p := ⟨g, _, none⟩) hg).trans (hcell i hi).1, (hb.cell (p := ⟨g, _, none⟩) hg).trans (hcell i hi).2.1, (hb.cell (p := ⟨g, _, none⟩) hg).trans (hcell i hi).2.2⟩⟩
theorem PRow.more {w : World} {B B' : Nat} {v : Value} {ps : List Pw} (h : PRow w B v ps) (hB : B ≤ B') : PRow w B' v ps := by
  obtain ⟨A, c, hv, hc⟩ := h
  refine ⟨A, c, hv, fun hp => ?_⟩
  obtain ⟨g, o, hA, hg, hcell⟩ := hc hp
  exact ⟨g, o, hA, by omega, hcell⟩
theorem prow_nil (w : World) (B : Nat) : PRow w B (.slice none 0 0) [] := ⟨none, 0, rfl, fun h => absurd h (by simp)⟩

/-- A slice of powers in memory of the call's own, from block 'base' on. -/
def cellsP (e : Pw) : List Value := [.string e.1, .string e.2.1, .int .i64 e.2.2]
def flatP (ps : List Pw) : List Value := ps.flatMap cellsP
theorem flatP_length (ps : List Pw) : (flatP ps).length = ps.length * 3 := by
  induction ps with
  | nil => rfl
  | cons e es ih => simp only [flatP, cellsP, List.flatMap_cons, List.length_append, List.length_cons, List.length_nil] at ih ⊢; omega
theorem flatP_at : ∀ (ps : List Pw) (i : Nat) (h : i < ps.length), (flatP ps)[i * 3]? = some (.string ps[i].1) ∧ (flatP ps)[i * 3 + 1]? = some (.string ps[i].2.1) ∧ (flatP ps)[i * 3 + 2]? = some (.int .i64 ps[i].2.2)
  | e :: es, 0, _ => ⟨rfl, rfl, rfl⟩
  | e :: es, i + 1, h => by
    have ih := flatP_at es i (by simpa using h)
    have e1 : (i + 1) * 3 = i * 3 + 1 + 1 + 1 := by omega
    refine ⟨?_, ?_, ?_⟩
    · rw [e1]; exact ih.1
    · rw [e1]; exact ih.2.1
    · rw [e1]; exact ih.2.2
def Pws (w : World) (base : Nat) (v : Value) (ps : List Pw) : Prop := w.ownsRow base 63 3 v ps.length (flatP ps)
theorem Pws.row {w : World} {base : Nat} {v : Value} {ps : List Pw} (h : Pws w base v ps) : PRow w w.heap.size v ps := by
  have h' : w.ownsRow base 63 3 v ps.length (flatP ps) := h
  rcases h'.2 with ⟨rfl, h0⟩ | ⟨g, cap, cur, rfl, hb, hg, hnc, hcm, hs, ht⟩
  · exact ⟨none, 0, by rw [h0], fun hp => by omega⟩
  · refine ⟨_, cap, rfl, fun _ => ⟨g, 0, rfl, (h'.lt g rfl).2, fun i hi => ?_⟩⟩
    have ha := flatP_at ps i hi
    rw [Nat.zero_add, h'.cellAt (i * 3) (by omega), h'.cellAt (i * 3 + 1) (by omega), h'.cellAt (i * 3 + 2) (by omega)]
    exact ha
theorem Pws.below {w w' : World} {base : Nat} {v : Value} {ps : List Pw} (h : Pws w base v ps) (hb : Below w.heap.size w w') : Pws w' base v ps := by
  have h' : w.ownsRow base 63 3 v ps.length (flatP ps) := h
  exact h'.kept (row := none) ⟨hb.os, hb.tape, hb.output, hb.size, fun k hk _ => hb.block k hk⟩ (by
    rcases hv : v.ownBlock with _ | k
    · exact .inl rfl
    · exact .inr (by simp))

theorem flatP_app (xs ys : List Pw) : flatP (xs ++ ys) = flatP xs ++ flatP ys := List.flatMap_append
theorem set_copyP (ps : List Pw) (k n : Nat) (h : k < ps.length) (hn : ps.length = n) :
    (((flatP (ps.take k ++ List.replicate (n - k) pw0)).set (k * 3) (.string ps[k].1)).set (k * 3 + 1) (.string ps[k].2.1)).set (k * 3 + 2) (.int .i64 ps[k].2.2) = flatP (ps.take (k + 1) ++ List.replicate (n - (k + 1)) pw0) := by
  have hl : (ps.take k).length = k := by rw [List.length_take]; omega
  have hf : (flatP (ps.take k)).length = k * 3 := by rw [flatP_length, hl]
  rw [flatP_app, List.set_append_right _ _ (by omega), List.set_append_right _ _ (by omega), List.set_append_right _ _ (by omega), hf, Nat.sub_self, show k * 3 + 1 - k * 3 = 1 by omega, show k * 3 + 2 - k * 3 = 2 by omega]
  rw [show n - k = (n - (k + 1)) + 1 by omega, List.replicate_succ, List.take_succ_eq_append_getElem h, flatP_app, flatP_app, List.append_assoc]
  rfl

theorem made_three (n : Nat) : (madeCells #[.string ⟨#[]⟩, .string ⟨#[]⟩, .int .i64 0] (n * 3)).toList = flatP (List.replicate n pw0) := by
  apply List.ext_getElem
  · rw [Array.length_toList, size_madeCells, flatP_length, List.length_replicate]
  · intro i h1 h2
    rw [Array.length_toList, size_madeCells] at h1
    have hq : i / 3 < (List.replicate n pw0).length := by rw [List.length_replicate]; omega
    obtain ⟨a0, a1, a2⟩ := flatP_at (List.replicate n pw0) (i / 3) hq
    rw [List.getElem_replicate] at a0 a1 a2
    have hm : (madeCells #[.string ⟨#[]⟩, .string ⟨#[]⟩, .int .i64 0] (n * 3)).toList[i]'(by rw [Array.length_toList, size_madeCells]; omega) = (#[.string ⟨#[]⟩, .string ⟨#[]⟩, .int .i64 0] : Array Value)[i % 3]! := by
      simp [madeCells]
    rw [hm]
    apply Option.some.inj
    rw [← List.getElem?_eq_getElem h2]
    rcases (show i % 3 = 0 ∨ i % 3 = 1 ∨ i % 3 = 2 by omega) with h | h | h
    · rw [h, show (flatP (List.replicate n pw0))[i]? = (flatP (List.replicate n pw0))[i / 3 * 3]? by congr 1; omega, a0]; rfl
    · rw [h, show (flatP (List.replicate n pw0))[i]? = (flatP (List.replicate n pw0))[i / 3 * 3 + 1]? by congr 1; omega, a1]; rfl
    · rw [h, show (flatP (List.replicate n pw0))[i]? = (flatP (List.replicate n pw0))[i / 3 * 3 + 2]? by congr 1; omega, a2]; rfl

end Go.Proofs.Ythomkmbobaehkaa
