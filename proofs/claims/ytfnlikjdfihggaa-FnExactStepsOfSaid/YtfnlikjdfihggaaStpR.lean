/-
  Slices of steps in memory.
-/
import Derived.Test.YtfnlikjdfihggaaRow
import Derived.OwnWalk
import Derived.Deep.RegionHeld3
namespace Go.Proofs.Ytfnlikjdfihggaa
open Go.RowKit Go
set_option linter.unusedVariables false

abbrev Stp := Int × ByteArray

/-- A slice value that reads, below block B, as these equations (two cells each). -/
def SRow (w : World) (B : Nat) (v : Value) (es : List Stp) : Prop :=
  ∃ A c, v = .slice A es.length c ∧ (0 < es.length → ∃ g o, A = some ⟨g, o, none⟩ ∧ g < B ∧ ∀ i (h : i < es.length), w.cell? ⟨g, o + i * 2, none⟩ = some (.int .i64 es[i].1) ∧ w.cell? ⟨g, o + i * 2 + 1, none⟩ = some (.string es[i].2))

theorem SRow.below {w w' : World} {B : Nat} {v : Value} {es : List Stp} (h : SRow w B v es) (hb : Below B w w') : SRow w' B v es := by
  obtain ⟨A, c, hv, hc⟩ := h
  refine ⟨A, c, hv, fun hp => ?_⟩
  obtain ⟨g, o, hA, hg, hcell⟩ := hc hp
  exact ⟨g, o, hA, hg, fun i hi => ⟨(hb.cell (p := ⟨g, _, none⟩) hg).trans (hcell i hi).1, (hb.cell (p := ⟨g, _, none⟩) hg).trans (hcell i hi).2⟩⟩
theorem SRow.more {w : World} {B B' : Nat} {v : Value} {es : List Stp} (h : SRow w B v es) (hB : B ≤ B') : SRow w B' v es := by
  obtain ⟨A, c, hv, hc⟩ := h
  refine ⟨A, c, hv, fun hp => ?_⟩
  obtain ⟨g, o, hA, hg, hcell⟩ := hc hp
  exact ⟨g, o, hA, by omega, hcell⟩

/-- A slice of equations in memory of the call's own, from block 'base' on. -/
def flatP (es : List Stp) : List Value := es.flatMap fun e => [.int .i64 e.1, .string e.2]
theorem flatP_length (es : List Stp) : (flatP es).length = es.length * 2 := by
  induction es with
  | nil => rfl
  | cons e es ih => simp only [flatP, List.flatMap_cons, List.length_append, List.length_cons, List.length_nil] at ih ⊢; omega
theorem flatP_at : ∀ (es : List Stp) (i : Nat) (h : i < es.length), (flatP es)[i * 2]? = some (.int .i64 es[i].1) ∧ (flatP es)[i * 2 + 1]? = some (.string es[i].2)
  | e :: es, 0, _ => ⟨rfl, rfl⟩
  | e :: es, i + 1, h => by
    have ih := flatP_at es i (by simpa using h)
    have e1 : (i + 1) * 2 = i * 2 + 1 + 1 := by omega
    constructor
    · rw [e1]; exact ih.1
    · rw [e1]; exact ih.2
def Stps (w : World) (base : Nat) (v : Value) (es : List Stp) : Prop := w.ownsRow base 37 2 v es.length (flatP es)
theorem Stps.row {w : World} {base : Nat} {v : Value} {es : List Stp} (h : Stps w base v es) : SRow w w.heap.size v es := by
  have h' : w.ownsRow base 37 2 v es.length (flatP es) := h
  rcases h'.2 with ⟨rfl, h0⟩ | ⟨g, cap, cur, rfl, hb, hg, hnc, hcm, hs, ht⟩
  · exact ⟨none, 0, by rw [h0], fun hp => by omega⟩
  · refine ⟨_, cap, rfl, fun _ => ⟨g, 0, rfl, (h'.lt g rfl).2, fun i hi => ?_⟩⟩
    have ha := flatP_at es i hi
    rw [Nat.zero_add, h'.cellAt (i * 2) (by omega), h'.cellAt (i * 2 + 1) (by omega)]
    exact ha
theorem Stps.below {w w' : World} {base : Nat} {v : Value} {es : List Stp} (h : Stps w base v es) (hb : Below w.heap.size w w') : Stps w' base v es := by
  have h' : w.ownsRow base 37 2 v es.length (flatP es) := h
  exact h'.kept (row := none) ⟨hb.os, hb.tape, hb.output, hb.size, fun k hk _ => hb.block k hk⟩ (by
    rcases hv : v.ownBlock with _ | k
    · exact .inl rfl
    · exact .inr (by simp))

theorem flatP_app (xs ys : List Stp) : flatP (xs ++ ys) = flatP xs ++ flatP ys := List.flatMap_append
theorem set_copyP (es : List Stp) (k n : Nat) (h : k < es.length) (hn : es.length = n) :
    ((flatP (es.take k ++ List.replicate (n - k) (0, ⟨#[]⟩))).set (k * 2) (.int .i64 es[k].1)).set (k * 2 + 1) (.string es[k].2) = flatP (es.take (k + 1) ++ List.replicate (n - (k + 1)) (0, ⟨#[]⟩)) := by
  have hl : (es.take k).length = k := by rw [List.length_take]; omega
  have hf : (flatP (es.take k)).length = k * 2 := by rw [flatP_length, hl]
  rw [flatP_app, List.set_append_right _ _ (by omega), List.set_append_right _ _ (by omega), hf, Nat.sub_self, show k * 2 + 1 - k * 2 = 1 by omega]
  rw [show n - k = (n - (k + 1)) + 1 by omega, List.replicate_succ, List.take_succ_eq_append_getElem h, flatP_app, flatP_app, List.append_assoc]
  rfl

theorem made_pair (x y : Value) (n : Nat) (i : Nat) : (madeCells #[x, y] (n * 2)).toList[i]? = if i < n * 2 then some (if i % 2 = 0 then x else y) else none := by
  rw [Array.getElem?_toList]
  unfold madeCells
  rw [Array.getElem?_map, Array.getElem?_range]
  by_cases h : i < n * 2
  · rw [if_pos h, if_pos h]
    rcases (show i % 2 = 0 ∨ i % 2 = 1 by omega) with h2 | h2
    · rw [h2, if_pos rfl]
      show some ((#[x, y] : Array Value)[i % 2]!) = some x
      rw [h2]; rfl
    · rw [h2, if_neg (by omega)]
      show some ((#[x, y] : Array Value)[i % 2]!) = some y
      rw [h2]; rfl
  · rw [if_neg h, if_neg h]; rfl
theorem flatP_made (n : Nat) : (madeCells #[.int .i64 0, .string ⟨#[]⟩] (n * 2)).toList = flatP (List.replicate n (0, ⟨#[]⟩)) := by
  apply List.ext_getElem?
  intro i
  rw [made_pair]
  by_cases h : i < n * 2
  · rw [if_pos h]
    have ha := flatP_at (List.replicate n (0, ⟨#[]⟩)) (i / 2) (by rw [List.length_replicate]; omega)
    rw [List.getElem_replicate] at ha
    rcases (show i % 2 = 0 ∨ i % 2 = 1 by omega) with h2 | h2
    · rw [if_pos h2, show i = i / 2 * 2 by omega]
      exact ha.1.symm
    · rw [if_neg (by omega), show i = i / 2 * 2 + 1 by omega]
      exact ha.2.symm
  · rw [if_neg h, List.getElem?_eq_none (by rw [flatP_length, List.length_replicate]; omega)]
theorem take_eq_succP {xs ys : List Stp} {k : Nat} (hx : k < xs.length) (hy : k < ys.length) (h : xs.take k = ys.take k) (he : xs[k] = ys[k]) : xs.take (k + 1) = ys.take (k + 1) := by
  rw [List.take_succ_eq_append_getElem hx, List.take_succ_eq_append_getElem hy, h, he]


end Go.Proofs.Ytfnlikjdfihggaa
