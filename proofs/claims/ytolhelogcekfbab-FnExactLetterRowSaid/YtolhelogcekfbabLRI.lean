/-
  LengthRow, of the program: contracts; and of both where the equation is none.
-/
import Derived.Test.YtolhelogcekfbabLR
namespace Go.Proofs.Ytolhelogcekfbab
open Go.RowKit Go
set_option linter.unusedVariables false

theorem implLengthRow_bad (l r : ByteArray) (w : World) (hl : l.size ≤ maxLen) (hr : r.size ≤ maxLen) (h : eqnB l r = false) :
    Calls Try.prog 40 #[.agg #[.string l, .string r]] w fun e w' => ∃ v, e = .returned (.tuple #[v, .int .i64 1]) ∧ IntsT 97 w' w.heap.size v [] ∧ Below w.heap.size w w' := by
  have c1 := fun W => implOk_any l r W hl hr
  rw [h] at c1
  have C1 := hidv c1
  clear c1 h
  go_enter Try.func40, Try.ntmps40
  go_wp2_with fail
  refine (C1.out _).mono ?_
  rintro e w1 ⟨rfl, hb1⟩
  have HB1 := hidv (((Below.refl w.heap.size w).alloc (Nat.le_refl _) _).trans (hb1.mono (by simp)))
  clear hb1
  go_wp2_with fail
  go_ret2
  exact ⟨_, rfl, World.ownsRow_nil _ _ _ _, HB1.out⟩

theorem specLengthRow_bad (l r : ByteArray) (w : World) (hl : l.size ≤ maxLen) (hr : r.size ≤ maxLen) (h : eqnB l r = false) :
    Calls Try.prog 39 #[.agg #[.string l, .string r]] w fun e w' => ∃ v, e = .returned (.tuple #[v, .int .i64 1]) ∧ IntsT 2 w' w.heap.size v [] ∧ Below w.heap.size w w' := by
  have c1 := fun W => specOk_any l r W hl hr
  rw [h] at c1
  have C1 := hidv c1
  clear c1 h
  go_enter Try.func39, Try.ntmps39
  go_wp2_with fail
  refine (C1.out _).mono ?_
  rintro e w1 ⟨rfl, hb1⟩
  have HB1 := hidv (((Below.refl w.heap.size w).alloc (Nat.le_refl _) _).trans (hb1.mono (by simp)))
  clear hb1
  go_wp2_with fail
  go_ret2
  exact ⟨_, rfl, World.ownsRow_lit w1 #[] 0 HB1.out.size (Nat.zero_le _) rfl, below_al HB1.out _⟩

set_option maxHeartbeats 800000 in
theorem implLengthRow_ok (l r : ByteArray) (x0 x1 x2 x3 x4 x5 x6 x7 : Int) (w : World) (h : eqnB l r = true) (hx : surL l r = [x0, x1, x2, x3, x4, x5, x6, x7]) (hb : ∀ x ∈ [x0, x1, x2, x3, x4, x5, x6, x7], -24 ≤ x ∧ x ≤ 24) :
    Calls Try.prog 40 #[.agg #[.string l, .string r]] w fun e w' => ∃ v, e = .returned (.tuple #[v, .int .i64 0]) ∧ IntsT 97 w' w.heap.size v [x4, x5, x6, x7, x0 + x1 + x2 + x3] ∧ Below w.heap.size w w' := by
  obtain ⟨hl, hr, _, _⟩ := eqnB_sz h
  have c1 := fun W => implOk_any l r W (by unfold maxLen; omega) (by unfold maxLen; omega)
  rw [h] at c1
  have C1 := hidv c1
  have C2 := hidv (fun W => lengthRow_any l r x0 x1 x2 x3 x4 x5 x6 x7 W h hx hb)
  obtain ⟨s, hs⟩ : ∃ s, x0 + x1 + x2 + x3 = s := ⟨_, rfl⟩
  rw [hs] at C2 ⊢
  clear c1 h hx hb hs
  go_enter Try.func40, Try.ntmps40
  go_wp2_with fail
  refine (C1.out _).mono ?_
  rintro e w1 ⟨rfl, hb1⟩
  obtain ⟨e0, e1⟩ := ((Bx.new w 44 #[.string l, .string r]).below hb1).two
  have HB1 := hidv (((Below.refl w.heap.size w).alloc (Nat.le_refl _) _).trans (hb1.mono (by simp)))
  clear hb1
  go_wp2_with fail
  refine (C2.out _).mono ?_
  rintro e w2 ⟨rfl, hb2⟩
  have HB2 := hidv (below_on HB1.out hb2)
  clear hb2 e0 e1
  go_wp2_with fail
  go_ret2
  exact ⟨_, rfl, World.ownsRow_lit w2 #[.int .i64 x4, .int .i64 x5, .int .i64 x6, .int .i64 x7, .int .i64 s] 5 HB2.out.size (by unfold maxLen; decide) rfl, below_al HB2.out _⟩

theorem lengthRow_both (l r : ByteArray) (hl : l.size ≤ maxLen) (hr : r.size ≤ maxLen) : ∃ (L : List Int) (c : Int), L.length ≤ 100 ∧
    (∀ w, Calls Try.prog 40 #[.agg #[.string l, .string r]] w fun e w' => ∃ v, e = .returned (.tuple #[v, .int .i64 c]) ∧ IntsT 97 w' w.heap.size v L ∧ Below w.heap.size w w') ∧
    ∀ w, Calls Try.prog 39 #[.agg #[.string l, .string r]] w fun e w' => ∃ v, e = .returned (.tuple #[v, .int .i64 c]) ∧ IntsT 2 w' w.heap.size v L ∧ Below w.heap.size w w' := by
  cases h : eqnB l r
  · exact ⟨[], 1, by simp, fun w => implLengthRow_bad l r w hl hr h, fun w => specLengthRow_bad l r w hl hr h⟩
  · obtain ⟨x0, x1, x2, x3, x4, x5, x6, x7, hx, hb⟩ := surL_eight h
    exact ⟨[x4, x5, x6, x7, x0 + x1 + x2 + x3], 0, by simp, fun w => implLengthRow_ok l r x0 x1 x2 x3 x4 x5 x6 x7 w h hx hb, fun w => specLengthRow_ok l r x0 x1 x2 x3 x4 x5 x6 x7 w h hx hb⟩

end Go.Proofs.Ytolhelogcekfbab
