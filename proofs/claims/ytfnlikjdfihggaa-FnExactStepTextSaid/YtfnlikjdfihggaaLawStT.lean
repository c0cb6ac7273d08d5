/-
  The law on StepText, walked.
-/
import Derived.Test.YtfnlikjdfihggaaStepT
namespace Go.Proofs.Ytfnlikjdfihggaa
open Go.RowKit Go
set_option linter.unusedVariables false

set_option maxHeartbeats 400000 in
theorem law_FnExactStepText (x : Int) (y : ByteArray) (w : World) (hy : y.size ≤ maxLen) :
    Calls Try.prog 4 #[.agg #[.int .i64 x, .string y]] w fun e w' => e = .returned (.bool true) ∧ Below w.heap.size w w' := by
  have C0 := hidv (fun W => szStp_any x y 1048576 W hy (by omega) (by omega))
  have c1 := fun (h : y.size ≤ 1048576) W => specStepText_any x y W h
  have c2 := fun (h : y.size ≤ 1048576) W => implStepText_any x y W h
  obtain ⟨t, ht⟩ : ∃ t, stepT x y = t := ⟨_, rfl⟩
  rw [ht] at c1 c2
  have C1 := hidv c1
  have C2 := hidv c2
  clear c1 c2 ht
  go_enter Try.func4, Try.ntmps4
  go_wp2_with fail
  refine (C0.out _).mono ?_
  rintro e w1 ⟨q, rfl, hsz, hqm, hb1⟩
  have HX1 := hidv ((Bx.new w 34 #[.int .i64 x, .string y]).below hb1)
  have HB1 := hidv (((Below.refl w.heap.size w).alloc (Nat.le_refl _) _).trans (hb1.mono (by simp)))
  clear hb1
  by_cases hq : q < 0
  · go_wp2_with fail
    go_ret
    exact ⟨rfl, HB1.out⟩
  have hy1 : y.size ≤ 1048576 := by have := hsz (by omega); omega
  clear hsz
  obtain ⟨x0, x1⟩ := HX1.out.two
  go_wp2_with fail
  refine (toStp_any x y _).mono ?_
  rintro e w2 ⟨rfl, hb2⟩
  have HX2 := hidv (HX1.out.below hb2)
  have HB2 := hidv (HB1.out.trans (hb2.mono HB1.out.size))
  clear hb2
  go_wp2_with fail
  refine (C1.out hy1 _).mono ?_
  rintro e w3 ⟨rfl, hb3⟩
  have HX3 := hidv (HX2.out.below hb3)
  have HB3 := hidv (HB2.out.trans (hb3.mono HB2.out.size))
  clear hb3 x0 x1
  obtain ⟨x0, x1⟩ := HX3.out.two
  go_wp2_with fail
  refine (toStp_any x y _).mono ?_
  rintro e w4 ⟨rfl, hb4⟩
  have HB4 := hidv (HB3.out.trans (hb4.mono HB3.out.size))
  clear hb4
  go_wp2_with fail
  refine (C2.out hy1 _).mono ?_
  rintro e w5 ⟨rfl, hb5⟩
  have HB5 := hidv (HB4.out.trans (hb5.mono HB4.out.size))
  clear hb5
  go_wp2_with fail
  go_ret
  exact ⟨rfl, HB5.out⟩

end Go.Proofs.Ytfnlikjdfihggaa
