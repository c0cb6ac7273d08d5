/-
  Slices of equations in memory.
-/
import Derived.Test.YtgfdcpmjaamhdaaRow
import Derived.OwnWalk
namespace Go.Proofs.Ytgfdcpmjaamhdaa
open Go.RowKit Go
set_option linter.unusedVariables false

abbrev Eqn := ByteArray × ByteArray

/-- A slice value that reads, below block B, as these equations (two cells each). -/
def ERow (w : World) (B : Nat) (v : Value) (es : List Eqn) : Prop :=
  ∃ A c, v = .slice A es.length c ∧ (0 < es.length → ∃ g o, A = some ⟨g, o, none⟩ ∧ g < B ∧ ∀ i (h : i < es.length), w.cell? ⟨g, o + i * 2, none⟩ = some (.string es[i].1) ∧ w.cell? ⟨g, o + i * 2 + 1, none⟩ = some (.string es[i].2))

theorem ERow.below {w w' : World} {B : Nat} {v : Value} {es : List Eqn} (h : ERow w B v es) (hb : Below B w w') : ERow w' B v es := by
  obtain ⟨A, c, hv, hc⟩ := h
  refine ⟨A, c, hv, fun hp => ?_⟩
  obtain ⟨g, o, hA, hg, hcell⟩ := hc hp
  exact ⟨g, o, hA, hg, fun i hi => ⟨(hb.cell (p := ⟨g, _, none⟩) hg).trans (hcell i hi).1, (hb.cell (p := ⟨g, _, none⟩) hg).trans (hcell i hi).2⟩⟩
theorem ERow.more {w : World} {B B' : Nat} {v : Value} {es : List Eqn} (h : ERow w B v es) (hB : B ≤ B') : ERow w B' v es := by
  obtain ⟨A, c, hv, hc⟩ := h
  refine ⟨A, c, hv, fun hp => ?_⟩
  obtain ⟨g, o, hA, hg, hcell⟩ := hc hp
  exact ⟨g, o, hA, by omega, hcell⟩

/-- A slice of equations in memory of the call's own, from block 'base' on. -/
def flatE (es : List Eqn) : List Value := es.flatMap fun e => [.string e.1, .string e.2]
theorem flatE_length (es : List Eqn) : (flatE es).length = es.length * 2 := by
  induction es with
  | nil => rfl
  | cons e es ih => simp only [flatE, List.flatMap_cons, List.length_append, List.length_cons, List.length_nil] at ih ⊢; omega
theorem flatE_at : ∀ (es : List Eqn) (i : Nat) (h : i < es.length), (flatE es)[i * 2]? = some (.string es[i].1) ∧ (flatE es)[i * 2 + 1]? = some (.string es[i].2)
  | e :: es, 0, _ => ⟨rfl, rfl⟩
  | e :: es, i + 1, h => by
    have ih := flatE_at es i (by simpa using h)
    have e1 : (i + 1) * 2 = i * 2 + 1 + 1 := by omega
    constructor
    · rw [e1]; exact ih.1
    · rw [e1]; exact ih.2
def Eqns (w : World) (base : Nat) (v : Value) (es : List Eqn) : Prop := w.ownsRow base 41 2 v es.length (flatE es)
theorem Eqns.row {w : World} {base : Nat} {v : Value} {es : List Eqn} (h : Eqns w base v es) : ERow w w.heap.size v es := by
  have h' : w.ownsRow base 41 2 v es.length (flatE es) := h
  rcases h'.2 with ⟨rfl, h0⟩ | ⟨g, cap, cur, rfl, hb, hg, hnc, hcm, hs, ht⟩
  · exact ⟨none, 0, by rw [h0], fun hp => by omega⟩
  · refine ⟨_, cap, rfl, fun _ => ⟨g, 0, rfl, (h'.lt g rfl).2, fun i hi => ?_⟩⟩
    have ha := flatE_at es i hi
    rw [Nat.zero_add, h'.cellAt (i * 2) (by omega), h'.cellAt (i * 2 + 1) (by omega)]
    exact ha
theorem Eqns.below {w w' : World} {base : Nat} {v : Value} {es : List Eqn} (h : Eqns w base v es) (hb : Below w.heap.size w w') : Eqns w' base v es := by
  have h' : w.ownsRow base 41 2 v es.length (flatE es) := h
  exact h'.kept (row := none) ⟨hb.os, hb.tape, hb.output, hb.size, fun k hk _ => hb.block k hk⟩ (by
    rcases hv : v.ownBlock with _ | k
    · exact .inl rfl
    · exact .inr (by simp))

theorem flatE_app (xs ys : List Eqn) : flatE (xs ++ ys) = flatE xs ++ flatE ys := List.flatMap_append
theorem flatE_rep (n : Nat) : flatE (List.replicate n (⟨#[]⟩, ⟨#[]⟩)) = List.replicate (n * 2) (.string ⟨#[]⟩) := by
  induction n with
  | zero => rfl
  | succ n ih =>
    rw [List.replicate_succ, show flatE ((⟨#[]⟩, ⟨#[]⟩) :: List.replicate n ((⟨#[]⟩, ⟨#[]⟩) : Eqn)) = .string ⟨#[]⟩ :: .string ⟨#[]⟩ :: flatE (List.replicate n (⟨#[]⟩, ⟨#[]⟩)) from rfl, ih, show (n + 1) * 2 = n * 2 + 1 + 1 by omega, List.replicate_succ, List.replicate_succ]
theorem set_copyE (es : List Eqn) (k n : Nat) (h : k < es.length) (hn : es.length = n) :
    ((flatE (es.take k ++ List.replicate (n - k) (⟨#[]⟩, ⟨#[]⟩))).set (k * 2) (.string es[k].1)).set (k * 2 + 1) (.string es[k].2) = flatE (es.take (k + 1) ++ List.replicate (n - (k + 1)) (⟨#[]⟩, ⟨#[]⟩)) := by
  have hl : (es.take k).length = k := by rw [List.length_take]; omega
  have hf : (flatE (es.take k)).length = k * 2 := by rw [flatE_length, hl]
  rw [flatE_app, List.set_append_right _ _ (by omega), List.set_append_right _ _ (by omega), hf, Nat.sub_self, show k * 2 + 1 - k * 2 = 1 by omega]
  rw [show n - k = (n - (k + 1)) + 1 by omega, List.replicate_succ, List.take_succ_eq_append_getElem h, flatE_app, flatE_app, List.append_assoc]
  rfl

theorem made_two (x : Value) (m : Nat) : (madeCells #[x, x] m).toList = List.replicate m x := by
  rw [List.eq_replicate_iff]
  refine ⟨by rw [Array.length_toList, size_madeCells], fun b hb => ?_⟩
  unfold madeCells at hb
  rw [Array.toList_map, List.mem_map] at hb
  obtain ⟨i, _, rfl⟩ := hb
  show (#[x, x] : Array Value)[i % 2]! = x
  rcases (show i % 2 = 0 ∨ i % 2 = 1 by omega) with h | h <;> rw [h] <;> rfl


end Go.Proofs.Ytgfdcpmjaamhdaa
