/-
  Slices of pieces (a word and two numbers: three cells each) in memory.
-/
import Derived.Test.YtdnkdmmockoehaaGreatRow
import Derived.OwnWalk
namespace Go.Proofs.YtdnkdmmockoehaaGreat
open Go.RowKit Go
set_option linter.unusedVariables false

abbrev Pc := ByteArray × Int × Int
def pc0 : Pc := (⟨#[]⟩, 0, 0)

/-- A slice value that reads, below block B, as these pieces (three cells each). -/
def QRow (w : World) (B : Nat) (v : Value) (ps : List Pc) : Prop :=
  ∃ A c, v = .slice A ps.length c ∧ (0 < ps.length → ∃ g o, A = some ⟨g, o, none⟩ ∧ g < B ∧ ∀ i (h : i < ps.length), w.cell? ⟨g, o + i * 3, none⟩ = some (.string ps[i].1) ∧ w.cell? ⟨g, o + i * 3 + 1, none⟩ = some (.int .i64 ps[i].2.1) ∧ w.cell? ⟨g, o + i * 3 + 2, none⟩ = some (.int .i64 ps[i].2.2))

theorem QRow.below {w w' : World} {B : Nat} {v : Value} {ps : List Pc} (h : QRow w B v ps) (hb : Below B w w') : QRow w' B v ps := by
  obtain ⟨A, c, hv, hc⟩ := h
  refine ⟨A, c, hv, fun hp => ?_⟩
  obtain ⟨g, o, hA, hg, hcell⟩ := hc hp
  exact ⟨g, o, hA, hg, fun i hi => ⟨(hb.cell (p := ⟨g, _, none⟩) hg).trans (hcell i hi).1, (hb.cell (p := ⟨g, _, none⟩) hg).trans (hcell i hi).2.1, (hb.cell (p := ⟨g, _, none⟩) hg).trans (hcell i hi).2.2⟩⟩
theorem QRow.more {w : World} {B B' : Nat} {v : Value} {ps : List Pc} (h : QRow w B v ps) (hB : B ≤ B') : QRow w B' v ps := by
  obtain ⟨A, c, hv, hc⟩ := h
  refine ⟨A, c, hv, fun hp => ?_⟩
  obtain ⟨g, o, hA, hg, hcell⟩ := hc hp
  exact ⟨g, o, hA, by omega, hcell⟩
theorem qrow_nil (w : World) (B : Nat) : QRow w B (.slice none 0 0) [] := ⟨none, 0, rfl, fun h => absurd h (by simp)⟩

/-- A slice of pieces in memory of the call's own, from block 'base' on. -/
def cellsQ (e : Pc) : List Value := [.string e.1, .int .i64 e.2.1, .int .i64 e.2.2]
def flatQ (ps : List Pc) : List Value := ps.flatMap cellsQ
theorem flatQ_length (ps : List Pc) : (flatQ ps).length = ps.length * 3 := by
  induction ps with
  | nil => rfl
  | cons e es ih => simp only [flatQ, cellsQ, List.flatMap_cons, List.length_append, List.length_cons, List.length_nil] at ih ⊢; omega
theorem flatQ_at : ∀ (ps : List Pc) (i : Nat) (h : i < ps.length), (flatQ ps)[i * 3]? = some (.string ps[i].1) ∧ (flatQ ps)[i * 3 + 1]? = some (.int .i64 ps[i].2.1) ∧ (flatQ ps)[i * 3 + 2]? = some (.int .i64 ps[i].2.2)
  | e :: es, 0, _ => ⟨rfl, rfl, rfl⟩
  | e :: es, i + 1, h => by
    have ih := flatQ_at es i (by simpa using h)
    have e1 : (i + 1) * 3 = i * 3 + 1 + 1 + 1 := by omega
    refine ⟨?_, ?_, ?_⟩
    · rw [e1]; exact ih.1
    · rw [e1]; exact ih.2.1
    · rw [e1]; exact ih.2.2
def Qws (w : World) (base : Nat) (v : Value) (ps : List Pc) : Prop := w.ownsRow base 88 3 v ps.length (flatQ ps)
theorem Qws.row {w : World} {base : Nat} {v : Value} {ps : List Pc} (h : Qws w base v ps) : QRow w w.heap.size v ps := by
  have h' : w.ownsRow base 88 3 v ps.length (flatQ ps) := h
  rcases h'.2 with ⟨rfl, h0⟩ | ⟨g, cap, cur, rfl, hb, hg, hnc, hcm, hs, ht⟩
  · exact ⟨none, 0, by rw [h0], fun hp => by omega⟩
  · refine ⟨_, cap, rfl, fun _ => ⟨g, 0, rfl, (h'.lt g rfl).2, fun i hi => ?_⟩⟩
    have ha := flatQ_at ps i hi
    rw [Nat.zero_add, h'.cellAt (i * 3) (by omega), h'.cellAt (i * 3 + 1) (by omega), h'.cellAt (i * 3 + 2) (by omega)]
    exact ha
theorem Qws.below {w w' : World} {base : Nat} {v : Value} {ps : List Pc} (h : Qws w base v ps) (hb : Below w.heap.size w w') : Qws w' base v ps := by
  have h' : w.ownsRow base 88 3 v ps.length (flatQ ps) := h
  exact h'.kept (row := none) ⟨hb.os, hb.tape, hb.output, hb.size, fun k hk _ => hb.block k hk⟩ (by
    rcases hv : v.ownBlock with _ | k
    · exact .inl rfl
    · exact .inr (by simp))

theorem flatQ_app (xs ys : List Pc) : flatQ (xs ++ ys) = flatQ xs ++ flatQ ys := List.flatMap_append
theorem set_copyQ (ps : List Pc) (k n : Nat) (h : k < ps.length) (hn : ps.length = n) :
    (((flatQ (ps.take k ++ List.replicate (n - k) pc0)).set (k * 3) (.string ps[k].1)).set (k * 3 + 1) (.int .i64 ps[k].2.1)).set (k * 3 + 2) (.int .i64 ps[k].2.2) = flatQ (ps.take (k + 1) ++ List.replicate (n - (k + 1)) pc0) := by
  have hl : (ps.take k).length = k := by rw [List.length_take]; omega
  have hf : (flatQ (ps.take k)).length = k * 3 := by rw [flatQ_length, hl]
  rw [flatQ_app, List.set_append_right _ _ (by omega), List.set_append_right _ _ (by omega), List.set_append_right _ _ (by omega), hf, Nat.sub_self, show k * 3 + 1 - k * 3 = 1 by omega, show k * 3 + 2 - k * 3 = 2 by omega]
  rw [show n - k = (n - (k + 1)) + 1 by omega, List.replicate_succ, List.take_succ_eq_append_getElem h, flatQ_app, flatQ_app, List.append_assoc]
  rfl

theorem made_threeQ (n : Nat) : (madeCells #[.string ⟨#[]⟩, .int .i64 0, .int .i64 0] (n * 3)).toList = flatQ (List.replicate n pc0) := by
  apply List.ext_getElem
  · rw [Array.length_toList, size_madeCells, flatQ_length, List.length_replicate]
  · intro i h1 h2
    rw [Array.length_toList, size_madeCells] at h1
    have hq : i / 3 < (List.replicate n pc0).length := by rw [List.length_replicate]; omega
    obtain ⟨a0, a1, a2⟩ := flatQ_at (List.replicate n pc0) (i / 3) hq
    rw [List.getElem_replicate] at a0 a1 a2
    have hm : (madeCells #[.string ⟨#[]⟩, .int .i64 0, .int .i64 0] (n * 3)).toList[i]'(by rw [Array.length_toList, size_madeCells]; omega) = (#[.string ⟨#[]⟩, .int .i64 0, .int .i64 0] : Array Value)[i % 3]! := by
      simp [madeCells]
    rw [hm]
    apply Option.some.inj
    rw [← List.getElem?_eq_getElem h2]
    rcases (show i % 3 = 0 ∨ i % 3 = 1 ∨ i % 3 = 2 by omega) with h | h | h
    · rw [h, show (flatQ (List.replicate n pc0))[i]? = (flatQ (List.replicate n pc0))[i / 3 * 3]? by congr 1; omega, a0]; rfl
    · rw [h, show (flatQ (List.replicate n pc0))[i]? = (flatQ (List.replicate n pc0))[i / 3 * 3 + 1]? by congr 1; omega, a1]; rfl
    · rw [h, show (flatQ (List.replicate n pc0))[i]? = (flatQ (List.replicate n pc0))[i / 3 * 3 + 2]? by congr 1; omega, a2]; rfl

end Go.Proofs.YtdnkdmmockoehaaGreat
