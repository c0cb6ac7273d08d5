/-
  Reading a step: plain words on lists of bytes.
-/
import Derived.Test.YtfnlikjdfihggaaStepT
import Derived.Lib.IndexMore
namespace Go.Proofs.Ytfnlikjdfihggaa
open Go.RowKit Go
set_option linter.unusedVariables false

/-- The step that a text tells. -/
def rdS : List UInt8 → Option (Int × List UInt8)
  | u :: e :: r => if e = 61 ∧ Wd.isU u = true ∧ stepB (Wd.unkI u) r = true then some (Wd.unkI u, r) else none
  | _ => none

theorem rdS_cons (u e : UInt8) (r : List UInt8) : rdS (u :: e :: r) = if e = 61 ∧ Wd.isU u = true ∧ stepB (Wd.unkI u) r = true then some (Wd.unkI u, r) else none := rfl
theorem idx_none (c : UInt8) : ∀ l : List UInt8, c ∉ l → Lib.index l [c] = -1
  | [], _ => rfl
  | b :: l, h => by
    have hb : b ≠ c := fun e => h (by rw [e]; exact List.mem_cons_self)
    have ih := idx_none c l (fun e => h (List.mem_cons_of_mem _ e))
    unfold Lib.index
    rw [ih, if_neg (by simp [List.isPrefixOf]; exact fun e => hb e.symm)]
    rfl
theorem idx_at (c : UInt8) (b : List UInt8) : ∀ a : List UInt8, c ∉ a → Lib.index (a ++ c :: b) [c] = (a.length : Int)
  | [], _ => by
    show Lib.index (c :: b) [c] = 0
    unfold Lib.index
    rw [if_pos (by simp [List.isPrefixOf])]
  | x :: a, h => by
    have hx : x ≠ c := fun e => h (by rw [e]; exact List.mem_cons_self)
    have ih := idx_at c b a (fun e => h (List.mem_cons_of_mem _ e))
    show Lib.index (x :: (a ++ c :: b)) [c] = _
    unfold Lib.index
    rw [ih, if_neg (by simp [List.isPrefixOf]; exact fun e => hx e.symm), if_neg (by rw [beq_iff_eq]; omega)]
    simp
theorem split_at (c : UInt8) : ∀ l : List UInt8, c ∈ l → ∃ a b, l = a ++ c :: b ∧ c ∉ a
  | x :: l, h => by
    by_cases hx : x = c
    · exact ⟨[], l, by rw [hx]; rfl, by simp⟩
    · obtain ⟨a, b, h1, h2⟩ := split_at c l (by
        rcases List.mem_cons.1 h with h | h
        · exact absurd h.symm hx
        · exact h)
      exact ⟨x :: a, b, by rw [h1]; rfl, by
        intro hm
        rcases List.mem_cons.1 hm with h | h
        · exact hx h.symm
        · exact h2 h⟩
theorem cut_none {c : UInt8} {l : List UInt8} (h : c ∉ l) : Lib.cut l [c] = (l, [], false) := by
  unfold Lib.cut
  rw [idx_none c l h, if_neg (by omega)]
theorem cut_at {c : UInt8} (a b : List UInt8) (h : c ∉ a) : Lib.cut (a ++ c :: b) [c] = (a, b, true) := by
  unfold Lib.cut
  rw [idx_at c b a h, if_pos (by omega)]
  simp

def stepTL (x : Int) (y : List UInt8) : List UInt8 := if stepB x y then nmL x.toNat ++ [61] ++ y else []
theorem stepB_range {x : Int} {y : List UInt8} (h : stepB x y = true) : 0 ≤ x ∧ x < 4 := by
  unfold stepB at h
  simp only [Bool.and_eq_true, decide_eq_true_eq] at h
  exact h.1
theorem index_unk {u : UInt8} (h : Wd.isU u = true) : Lib.index [88, 89, 90, 87] [u] = Wd.unkI u := by
  unfold Wd.isU at h
  simp only [Bool.or_eq_true, beq_iff_eq] at h
  rcases h with ((h | h) | h) | h <;> subst h <;> decide
theorem nm_unk {u : UInt8} {x : Int} (hx : 0 ≤ x ∧ x < 4) (h : nmL x.toNat = [u]) : Wd.isU u = true ∧ Wd.unkI u = x := by
  obtain ⟨k, rfl⟩ : ∃ k : Nat, x = k := ⟨x.toNat, by omega⟩
  obtain ⟨v, hv, hU, _, hI⟩ := nmL_eq (k := k) (by omega)
  rw [show ((k : Int)).toNat = k by omega, hv] at h
  injection h with h1
  subst h1
  exact ⟨hU, hI⟩
theorem unk_nm {u : UInt8} (h : Wd.isU u = true) : nmL (Wd.unkI u).toNat = [u] := by
  unfold Wd.isU at h
  simp only [Bool.or_eq_true, beq_iff_eq] at h
  rcases h with ((h | h) | h) | h <;> subst h <;> decide

/-- What the program decides: the step that is read, written again, is the text just if the text tells it. -/
theorem read_eq (t : List UInt8) : rdS t = if stepTL (Lib.index [88, 89, 90, 87] (Lib.cut t [61]).1) (Lib.cut t [61]).2.1 = t then some (Lib.index [88, 89, 90, 87] (Lib.cut t [61]).1, (Lib.cut t [61]).2.1) else none := by
  by_cases hm : (61 : UInt8) ∈ t
  · obtain ⟨a, b, rfl, ha⟩ := split_at 61 t hm
    rw [cut_at a b ha]
    dsimp only
    match a, ha with
    | [u], _ =>
      show rdS (u :: 61 :: b) = _
      rw [rdS_cons]
      by_cases hU : Wd.isU u = true
      · rw [index_unk hU]
        by_cases hs : stepB (Wd.unkI u) b = true
        · rw [if_pos ⟨rfl, hU, hs⟩, if_pos]
          unfold stepTL
          rw [if_pos hs, unk_nm hU]
          rfl
        · rw [if_neg (fun h => hs h.2.2), if_neg]
          unfold stepTL
          rw [if_neg hs]
          simp
      · rw [if_neg (fun h => hU h.2.1), if_neg]
        unfold stepTL
        split
        · rename_i hs
          intro he
          have hx := stepB_range hs
          obtain ⟨v, hv, _⟩ := nmL_eq (k := (Lib.index [88, 89, 90, 87] [u]).toNat) (by omega)
          rw [hv] at he
          injection he with h1
          subst h1
          exact hU (nm_unk hx hv).1
        · simp
    | [], _ =>
      rw [if_neg]
      · show rdS (61 :: b) = none
        match b with
        | [] => rfl
        | e :: r => rw [rdS_cons, if_neg (fun h => by have := h.2.1; revert this; decide)]
      · show ¬ stepTL 0 b = 61 :: b
        unfold stepTL
        split
        · intro he
          have : nmL 0 ++ [61] ++ b = 88 :: 61 :: b := rfl
          rw [show (0 : Int).toNat = 0 from rfl, this] at he
          injection he with h1
          revert h1; decide
        · simp
    | x :: y :: a, ha =>
      have hy : y ≠ 61 := fun e => ha (by rw [e]; simp)
      rw [if_neg]
      · show rdS (x :: y :: (a ++ 61 :: b)) = none
        rw [rdS_cons, if_neg (fun h => hy h.1)]
      · unfold stepTL
        split
        · rename_i hs
          intro he
          have hx := stepB_range hs
          obtain ⟨v, hv, _⟩ := nmL_eq (k := (Lib.index [88, 89, 90, 87] (x :: y :: a)).toNat) (by omega)
          rw [hv] at he
          injection he with h1 h2
          injection h2 with h3
          exact hy h3.symm
        · simp
  · rw [cut_none hm]
    dsimp only
    rw [if_neg]
    · match t, hm with
      | [], _ => rfl
      | [_], _ => rfl
      | u :: e :: r, hm =>
        rw [rdS_cons, if_neg (fun h => hm (by rw [h.1]; simp))]
    · unfold stepTL
      split
      · intro he
        apply hm
        rw [← he]
        simp
      · intro he
        rename_i hs
        subst he
        exact hs (by decide)
theorem rdS_len {t : List UInt8} {p : Int × List UInt8} (h : rdS t = some p) : 2 ≤ t.length ∧ t.length ≤ 4 := by
  match t, h with
  | u :: e :: r, h =>
    rw [rdS_cons] at h
    split at h
    · rename_i hc
      have hs := hc.2.2
      unfold stepB at hs
      rw [Bool.and_eq_true] at hs
      match r, hs.2 with
      | [], _ => simp
      | [_], _ => simp
      | [_, _], _ => simp
      | _ :: _ :: _ :: _, h => cases h
    · cases h
theorem cut_len (t : List UInt8) : (Lib.cut t [61]).1.length ≤ t.length ∧ (Lib.cut t [61]).2.1.length ≤ t.length := by
  by_cases hm : (61 : UInt8) ∈ t
  · obtain ⟨a, b, rfl, ha⟩ := split_at 61 t hm
    rw [cut_at a b ha]
    simp
    omega
  · rw [cut_none hm]
    simp

end Go.Proofs.Ytfnlikjdfihggaa
