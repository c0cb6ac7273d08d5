/-
  IsSolved, of the program and of the model, and the law over them.
-/
import Derived.Test.YtfnlikjdfihggaaStripI
import Derived.Laws.StructEq
namespace Go.Proofs.Ytfnlikjdfihggaa
open Go.RowKit Go
set_option linter.unusedVariables false

def nothingB (x y : ByteArray) : Bool := x.toList.isEmpty && y.toList.isEmpty
theorem eqnB_24 {l r : ByteArray} (h : eqnB l r = true) : l.size ≤ 24 ∧ r.size ≤ 24 := by
  unfold eqnB at h
  rw [Bool.and_eq_true] at h
  exact ⟨by simpa using Wd.termB_len h.1, by simpa using Wd.termB_len h.2⟩

set_option maxHeartbeats 400000 in
theorem leaves_any (x y : ByteArray) (w : World) :
    Calls Try.prog 47 #[.agg #[.string x, .string y]] w fun e w' => e = .returned (.bool (nothingB x y)) ∧ Below w.heap.size w w' := by
  unfold nothingB
  cases hx : x.toList.isEmpty <;> cases hy : y.toList.isEmpty
  all_goals
    go_enter Try.func47, Try.ntmps47
    go_wp2_with fail
    go_ret
    exact ⟨rfl, (Below.refl _ _).alloc (Nat.le_refl _) _⟩

set_option maxHeartbeats 400000 in
theorem specSolved_any (x y : ByteArray) (w : World) :
    Calls Try.prog 46 #[.agg #[.string x, .string y]] w fun e w' => e = .returned (.bool (nothingB x y)) ∧ Below w.heap.size w w' := by
  unfold nothingB
  cases hx : x.toList.isEmpty <;> cases hy : y.toList.isEmpty
  all_goals
    go_enter Try.func46, Try.ntmps46
    go_wp2_with fail
    go_ret
    exact ⟨rfl, (Below.refl _ _).alloc (Nat.le_refl _) _⟩

/-- Nothing is left of an equation. -/
def solvedB (l r : ByteArray) : Bool := nothingB ⟨⟨(strip2 l.data.toList r.data.toList).1⟩⟩ ⟨⟨(strip2 l.data.toList r.data.toList).2⟩⟩

set_option maxHeartbeats 400000 in
theorem implIsSolved_bad (l r : ByteArray) (w : World) (hl : l.size ≤ maxLen) (hr : r.size ≤ maxLen) (h : eqnB l r = false) :
    Calls Try.prog 24 #[.agg #[.string l, .string r]] w fun e w' => e = .returned (.tuple #[.bool false, .int .i64 1]) ∧ Below w.heap.size w w' := by
  have c1 := fun W => implOk_any l r W hl hr
  rw [h] at c1
  have C1 := hidv c1
  clear c1 h
  go_enter Try.func24, Try.ntmps24
  go_wp2_with fail
  refine (C1.out _).mono ?_
  rintro e w1 ⟨rfl, hb1⟩
  have HB1 := hidv (((Below.refl w.heap.size w).alloc (Nat.le_refl _) _).trans (hb1.mono (by simp)))
  clear hb1
  go_wp2_with fail
  go_ret2
  exact ⟨rfl, HB1.out⟩

set_option maxHeartbeats 400000 in
theorem specIsSolved_bad (l r : ByteArray) (w : World) (hl : l.size ≤ maxLen) (hr : r.size ≤ maxLen) (h : eqnB l r = false) :
    Calls Try.prog 23 #[.agg #[.string l, .string r]] w fun e w' => e = .returned (.tuple #[.bool false, .int .i64 1]) ∧ Below w.heap.size w w' := by
  have c1 := fun W => specOk_any l r W hl hr
  rw [h] at c1
  have C1 := hidv c1
  clear c1 h
  go_enter Try.func23, Try.ntmps23
  go_wp2_with fail
  refine (C1.out _).mono ?_
  rintro e w1 ⟨rfl, hb1⟩
  have HB1 := hidv (((Below.refl w.heap.size w).alloc (Nat.le_refl _) _).trans (hb1.mono (by simp)))
  clear hb1
  go_wp2_with fail
  go_ret2
  exact ⟨rfl, HB1.out⟩

set_option maxHeartbeats 400000 in
theorem implIsSolved_ok (l r : ByteArray) (w : World) (h : eqnB l r = true) :
    Calls Try.prog 24 #[.agg #[.string l, .string r]] w fun e w' => e = .returned (.tuple #[.bool (solvedB l r), .int .i64 0]) ∧ Below w.heap.size w w' := by
  obtain ⟨hl, hr⟩ := eqnB_24 h
  have c1 := fun W => implOk_any l r W (by unfold maxLen; omega) (by unfold maxLen; omega)
  have c2 := fun W => implStrip_any l r W (by omega) (by omega)
  rw [h] at c1
  unfold solvedB
  obtain ⟨x, hx⟩ : ∃ x : ByteArray, ⟨⟨(strip2 l.data.toList r.data.toList).1⟩⟩ = x := ⟨_, rfl⟩
  obtain ⟨y, hy⟩ : ∃ x : ByteArray, ⟨⟨(strip2 l.data.toList r.data.toList).2⟩⟩ = x := ⟨_, rfl⟩
  rw [hx, hy] at c2 ⊢
  have c3 := fun W => leaves_any x y W
  obtain ⟨b, hbb⟩ : ∃ b, nothingB x y = b := ⟨_, rfl⟩
  rw [hbb] at c3 ⊢
  have C1 := hidv c1
  have C2 := hidv c2
  have C3 := hidv c3
  clear c1 c2 c3 h hx hy hbb
  go_enter Try.func24, Try.ntmps24
  go_wp2_with fail
  refine (C1.out _).mono ?_
  rintro e w1 ⟨rfl, hb1⟩
  have HX1 := hidv ((Bx.new w 28 #[.string l, .string r]).below hb1)
  have HB1 := hidv (((Below.refl w.heap.size w).alloc (Nat.le_refl _) _).trans (hb1.mono (by simp)))
  clear hb1
  obtain ⟨x0, x1⟩ := HX1.out.two
  go_wp2_with fail
  refine (C2.out _).mono ?_
  rintro e w2 ⟨rfl, hb2⟩
  have HB2 := hidv (below_on HB1.out hb2)
  clear hb2 x0 x1
  go_wp2_with fail
  refine (C3.out _).mono ?_
  rintro e w3 ⟨rfl, hb3⟩
  have HB3 := hidv (below_on HB2.out hb3)
  clear hb3
  go_wp2_with fail
  go_ret2
  exact ⟨rfl, HB3.out⟩

set_option maxHeartbeats 400000 in
theorem specIsSolved_ok (l r : ByteArray) (w : World) (h : eqnB l r = true) :
    Calls Try.prog 23 #[.agg #[.string l, .string r]] w fun e w' => e = .returned (.tuple #[.bool (solvedB l r), .int .i64 0]) ∧ Below w.heap.size w w' := by
  obtain ⟨hl, hr⟩ := eqnB_24 h
  have c1 := fun W => specOk_any l r W (by unfold maxLen; omega) (by unfold maxLen; omega)
  have c2 := fun W => specStrip_any l r W (by omega) (by omega)
  rw [h] at c1
  unfold solvedB
  obtain ⟨x, hx⟩ : ∃ x : ByteArray, ⟨⟨(strip2 l.data.toList r.data.toList).1⟩⟩ = x := ⟨_, rfl⟩
  obtain ⟨y, hy⟩ : ∃ x : ByteArray, ⟨⟨(strip2 l.data.toList r.data.toList).2⟩⟩ = x := ⟨_, rfl⟩
  rw [hx, hy] at c2 ⊢
  have c3 := fun W => specSolved_any x y W
  obtain ⟨b, hbb⟩ : ∃ b, nothingB x y = b := ⟨_, rfl⟩
  rw [hbb] at c3 ⊢
  have C1 := hidv c1
  have C2 := hidv c2
  have C3 := hidv c3
  clear c1 c2 c3 h hx hy hbb
  go_enter Try.func23, Try.ntmps23
  go_wp2_with fail
  refine (C1.out _).mono ?_
  rintro e w1 ⟨rfl, hb1⟩
  have HX1 := hidv ((Bx.new w 28 #[.string l, .string r]).below hb1)
  have HB1 := hidv (((Below.refl w.heap.size w).alloc (Nat.le_refl _) _).trans (hb1.mono (by simp)))
  clear hb1
  obtain ⟨x0, x1⟩ := HX1.out.two
  go_wp2_with fail
  refine (C2.out _).mono ?_
  rintro e w2 ⟨rfl, hb2⟩
  have HB2 := hidv (below_on HB1.out hb2)
  clear hb2 x0 x1
  go_wp2_with fail
  refine (C3.out _).mono ?_
  rintro e w3 ⟨rfl, hb3⟩
  have HB3 := hidv (below_on HB2.out hb3)
  clear hb3
  go_wp2_with fail
  go_ret2
  exact ⟨rfl, HB3.out⟩

theorem isSolved_both (l r : ByteArray) (hl : l.size ≤ maxLen) (hr : r.size ≤ maxLen) : ∃ (b : Bool) (c : Int), (∀ w, Calls Try.prog 24 #[.agg #[.string l, .string r]] w fun e w' => e = .returned (.tuple #[.bool b, .int .i64 c]) ∧ Below w.heap.size w w') ∧ ∀ w, Calls Try.prog 23 #[.agg #[.string l, .string r]] w fun e w' => e = .returned (.tuple #[.bool b, .int .i64 c]) ∧ Below w.heap.size w w' := by
  cases h : eqnB l r
  · exact ⟨_, _, fun w => implIsSolved_bad l r w hl hr h, fun w => specIsSolved_bad l r w hl hr h⟩
  · exact ⟨_, _, fun w => implIsSolved_ok l r w h, fun w => specIsSolved_ok l r w h⟩

set_option maxHeartbeats 400000 in
theorem law_FnExactIsSolved (l r : ByteArray) (w : World) (hl : l.size ≤ maxLen) (hr : r.size ≤ maxLen) :
    Calls Try.prog 6 #[.agg #[.string l, .string r]] w fun e w' => e = .returned (.bool true) ∧ Below w.heap.size w w' := by
  have c0 := fun W => szEqn_any l r 1048576 W hl hr (by omega) (by omega)
  obtain ⟨b, c, c2, c1⟩ := isSolved_both l r hl hr
  have C0 := hidv c0
  have C1 := hidv c1
  have C2 := hidv c2
  clear c0 c1 c2
  go_enter Try.func6, Try.ntmps6
  go_wp2_with fail
  refine (C0.out _).mono ?_
  rintro e w1 ⟨q, rfl, _, hqm, hb1⟩
  have HX1 := hidv ((Bx.new w 23 #[.string l, .string r]).below hb1)
  have HB1 := hidv (((Below.refl w.heap.size w).alloc (Nat.le_refl _) _).trans (hb1.mono (by simp)))
  clear hb1
  by_cases hq : q < 0
  · go_wp2_with fail
    go_ret
    exact ⟨rfl, HB1.out⟩
  obtain ⟨x0, x1⟩ := HX1.out.two
  go_wp2_with fail
  refine (toEqn_any l r _).mono ?_
  rintro e w2 ⟨rfl, hb2⟩
  have HX2 := hidv (HX1.out.below hb2)
  have HB2 := hidv (HB1.out.trans (hb2.mono HB1.out.size))
  clear hb2
  go_wp2_with fail
  refine (C1.out _).mono ?_
  rintro e w3 ⟨rfl, hb3⟩
  have HX3 := hidv (HX2.out.below hb3)
  have HB3 := hidv (HB2.out.trans (hb3.mono HB2.out.size))
  clear hb3 x0 x1
  obtain ⟨x0, x1⟩ := HX3.out.two
  go_wp2_with fail
  refine (toEqn_any l r _).mono ?_
  rintro e w4 ⟨rfl, hb4⟩
  have HB4 := hidv (HB3.out.trans (hb4.mono HB3.out.size))
  clear hb4
  go_wp2_with fail
  refine (C2.out _).mono ?_
  rintro e w5 ⟨rfl, hb5⟩
  have HB5 := hidv (HB4.out.trans (hb5.mono HB4.out.size))
  clear hb5
  go_wp2_with fail
  go_ret
  exact ⟨rfl, HB5.out⟩

end Go.Proofs.Ytfnlikjdfihggaa
