/-
  The law on ValidEquation, walked.
-/
import Derived.Test.YtolhelogcekfbaaEq
namespace Go.Proofs.Ytolhelogcekfbaa
open Go.RowKit Go

theorem implValidEq_any (l r : ByteArray) (w : World) (hl : l.size ≤ maxLen) (hr : r.size ≤ maxLen) :
    Calls Try.prog 53 #[.agg #[.string l, .string r]] w fun e w' => e = .returned (.bool (eqnB l r)) ∧ Below w.heap.size w w' := by
  have c := fun W => specOk_any l r W hl hr
  go_enter Try.func53, Try.ntmps53
  go_wp2_with fail
  refine (c _).mono ?_
  rintro e w1 ⟨rfl, hb⟩
  go_wp2_with fail
  go_ret
  exact ⟨rfl, ((Below.refl _ _).alloc (Nat.le_refl _) _).trans (hb.mono (by simp))⟩

set_option maxHeartbeats 400000 in
theorem law_FnExactValidEquation (l r : ByteArray) (w : World) (hl : l.size ≤ maxLen) (hr : r.size ≤ maxLen) :
    Calls Try.prog 10 #[.agg #[.string l, .string r]] w fun e w' => e = .returned (.bool true) ∧ Below w.heap.size w w' := by
  have c0 := fun W => szEqn_any l r 1048576 W hl hr (by omega) (by omega)
  have c1 := fun W => implValidEq_any l r W hl hr
  have c2 := fun W => implOk_any l r W hl hr
  obtain ⟨b, hb⟩ : ∃ b, eqnB l r = b := ⟨_, rfl⟩
  rw [hb] at c1 c2
  have C0 := hidv c0
  have C1 := hidv c1
  have C2 := hidv c2
  clear c0 c1 c2 hb
  go_enter Try.func10, Try.ntmps10
  go_wp2_with fail
  refine (C0.out _).mono ?_
  rintro e w1 ⟨q, rfl, _, hqm, hb1⟩
  have HX1 := hidv ((Bx.new w 69 #[.string l, .string r]).below hb1)
  have HB1 := hidv (((Below.refl w.heap.size w).alloc (Nat.le_refl _) _).trans (hb1.mono (by simp)))
  clear hb1
  by_cases hq : q < 0
  · go_wp2_with fail
    go_ret
    exact ⟨rfl, HB1.out⟩
  obtain ⟨x0, x1⟩ := HX1.out.two
  go_wp2_with fail
  refine (toEqn_any l r _).mono ?_
  rintro e w2 ⟨rfl, hb2⟩
  have HX2 := hidv (HX1.out.below hb2)
  have HB2 := hidv (HB1.out.trans (hb2.mono HB1.out.size))
  clear hb2
  go_wp2_with fail
  refine (C1.out _).mono ?_
  rintro e w3 ⟨rfl, hb3⟩
  have HX3 := hidv (HX2.out.below hb3)
  have HB3 := hidv (HB2.out.trans (hb3.mono HB2.out.size))
  clear hb3 x0 x1
  obtain ⟨x0, x1⟩ := HX3.out.two
  go_wp2_with fail
  refine (toEqn_any l r _).mono ?_
  rintro e w4 ⟨rfl, hb4⟩
  have HB4 := hidv (HB3.out.trans (hb4.mono HB3.out.size))
  clear hb4
  go_wp2_with fail
  refine (C2.out _).mono ?_
  rintro e w5 ⟨rfl, hb5⟩
  have HB5 := hidv (HB4.out.trans (hb5.mono HB4.out.size))
  clear hb5
  go_wp2_with fail
  go_ret
  exact ⟨rfl, HB5.out⟩

end Go.Proofs.Ytolhelogcekfbaa
