/-
  The law on IsQuadratic.
-/
import Derived.Test.YtfnlikjdfihggaaIQI
import Derived.Laws.StructEq
namespace Go.Proofs.Ytfnlikjdfihggaa
open Go.RowKit Go
set_option linter.unusedVariables false

set_option maxHeartbeats 400000 in
theorem implIsQuadratic_bad (l r : ByteArray) (w : World) (hl : l.size ≤ maxLen) (hr : r.size ≤ maxLen) (h : eqnB l r = false) :
    Calls Try.prog 26 #[.agg #[.string l, .string r]] w fun e w' => e = .returned (.tuple #[.bool false, .int .i64 1]) ∧ Below w.heap.size w w' := by
  have c1 := fun W => implOk_any l r W hl hr
  rw [h] at c1
  have C1 := hidv c1
  clear c1 h
  go_enter Try.func26, Try.ntmps26
  go_wp2_with fail
  refine (C1.out _).mono ?_
  rintro e w1 ⟨rfl, hb1⟩
  have HB1 := hidv (((Below.refl w.heap.size w).alloc (Nat.le_refl _) _).trans (hb1.mono (by simp)))
  clear hb1
  go_wp2_with fail
  go_ret2
  exact ⟨rfl, HB1.out⟩

set_option maxHeartbeats 400000 in
theorem specIsQuadratic_bad (l r : ByteArray) (w : World) (hl : l.size ≤ maxLen) (hr : r.size ≤ maxLen) (h : eqnB l r = false) :
    Calls Try.prog 25 #[.agg #[.string l, .string r]] w fun e w' => e = .returned (.tuple #[.bool false, .int .i64 1]) ∧ Below w.heap.size w w' := by
  have c1 := fun W => specOk_any l r W hl hr
  rw [h] at c1
  have C1 := hidv c1
  clear c1 h
  go_enter Try.func25, Try.ntmps25
  go_wp2_with fail
  refine (C1.out _).mono ?_
  rintro e w1 ⟨rfl, hb1⟩
  have HB1 := hidv (((Below.refl w.heap.size w).alloc (Nat.le_refl _) _).trans (hb1.mono (by simp)))
  clear hb1
  go_wp2_with fail
  go_ret2
  exact ⟨rfl, HB1.out⟩

theorem isQuadratic_both (l r : ByteArray) (hl : l.size ≤ maxLen) (hr : r.size ≤ maxLen) : ∃ (b : Bool) (c : Int), (∀ w, Calls Try.prog 26 #[.agg #[.string l, .string r]] w fun e w' => e = .returned (.tuple #[.bool b, .int .i64 c]) ∧ Below w.heap.size w w') ∧ ∀ w, Calls Try.prog 25 #[.agg #[.string l, .string r]] w fun e w' => e = .returned (.tuple #[.bool b, .int .i64 c]) ∧ Below w.heap.size w w' := by
  cases h : eqnB l r
  · exact ⟨_, _, fun w => implIsQuadratic_bad l r w hl hr h, fun w => specIsQuadratic_bad l r w hl hr h⟩
  · exact ⟨_, _, fun w => implIsQuadratic_ok l r w h, fun w => specIsQuadratic_ok l r w h⟩

set_option maxHeartbeats 400000 in
theorem law_FnExactIsQuadratic (l r : ByteArray) (w : World) (hl : l.size ≤ maxLen) (hr : r.size ≤ maxLen) :
    Calls Try.prog 7 #[.agg #[.string l, .string r]] w fun e w' => e = .returned (.bool true) ∧ Below w.heap.size w w' := by
  have c0 := fun W => szEqn_any l r 1048576 W hl hr (by omega) (by omega)
  obtain ⟨b, c, c2, c1⟩ := isQuadratic_both l r hl hr
  have C0 := hidv c0
  have C1 := hidv c1
  have C2 := hidv c2
  clear c0 c1 c2
  go_enter Try.func7, Try.ntmps7
  go_wp2_with fail
  refine (C0.out _).mono ?_
  rintro e w1 ⟨q, rfl, _, hqm, hb1⟩
  have HX1 := hidv ((Bx.new w 23 #[.string l, .string r]).below hb1)
  have HB1 := hidv (((Below.refl w.heap.size w).alloc (Nat.le_refl _) _).trans (hb1.mono (by simp)))
  clear hb1
  by_cases hq : q < 0
  · go_wp2_with fail
    go_ret
    exact ⟨rfl, HB1.out⟩
  obtain ⟨x0, x1⟩ := HX1.out.two
  go_wp2_with fail
  refine (toEqn_any l r _).mono ?_
  rintro e w2 ⟨rfl, hb2⟩
  have HX2 := hidv (HX1.out.below hb2)
  have HB2 := hidv (HB1.out.trans (hb2.mono HB1.out.size))
  clear hb2
  go_wp2_with fail
  refine (C1.out _).mono ?_
  rintro e w3 ⟨rfl, hb3⟩
  have HX3 := hidv (HX2.out.below hb3)
  have HB3 := hidv (HB2.out.trans (hb3.mono HB2.out.size))
  clear hb3 x0 x1
  obtain ⟨x0, x1⟩ := HX3.out.two
  go_wp2_with fail
  refine (toEqn_any l r _).mono ?_
  rintro e w4 ⟨rfl, hb4⟩
  have HB4 := hidv (HB3.out.trans (hb4.mono HB3.out.size))
  clear hb4
  go_wp2_with fail
  refine (C2.out _).mono ?_
  rintro e w5 ⟨rfl, hb5⟩
  have HB5 := hidv (HB4.out.trans (hb5.mono HB4.out.size))
  clear hb5
  go_wp2_with fail
  go_ret
  exact ⟨rfl, HB5.out⟩

end Go.Proofs.Ytfnlikjdfihggaa
