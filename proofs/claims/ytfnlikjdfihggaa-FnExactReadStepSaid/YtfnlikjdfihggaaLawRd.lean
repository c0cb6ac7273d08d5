/-
  The law on ReadStep, walked.
-/
import Derived.Test.YtfnlikjdfihggaaReadT
import Derived.Test.YtfnlikjdfihggaaStpE
namespace Go.Proofs.Ytfnlikjdfihggaa
open Go.RowKit Go
set_option linter.unusedVariables false

set_option maxHeartbeats 400000 in
theorem law_FnExactReadStep (t : ByteArray) (w : World) (ht : t.size ≤ maxLen) (ml : ML w) :
    Calls Try.prog 5 #[.string t] w fun e w' => e = .returned (.bool true) ∧ Below w.heap.size w w' := by
  unfold maxLen at ht
  by_cases hl : (1048576 : Int) < t.size
  · go_enter Try.func5, Try.ntmps5
    go_wp2
    go_ret
    exact ⟨rfl, Below.refl _ _⟩
  have ht' : t.size ≤ 1048576 := by omega
  have c1 := fun W => specReadStep_any t W ht'
  have c2 := fun W hW => implReadStep_any t W ht' hW
  obtain ⟨x, y, c, hv⟩ := rdV_form t
  rw [hv] at c1 c2
  have C1 := hidv c1
  have C2 := hidv c2
  clear c1 c2 hv
  go_enter Try.func5, Try.ntmps5
  go_wp2_with fail
  refine (C1.out _).mono ?_
  rintro e w1 ⟨rfl, hb1⟩
  have HB1 := hidv hb1
  have HX1 := hidv (Bx.new w1 37 #[.int .i64 x, .string y])
  clear hb1
  go_wp2_with fail
  refine (C2.out _ ((ml.below HB1.out).below ((Below.refl _ _).alloc (Nat.le_refl _) _))).mono ?_
  rintro e w2 ⟨rfl, hb2⟩
  have HX2 := hidv (HX1.out.below hb2)
  have HB2 := hidv (below_on (below_al HB1.out _) hb2)
  have HY2 := hidv (Bx.new w2 37 #[.int .i64 x, .string y])
  have HXY := hidv (HX2.out.alloc (.cells #[.int .i64 x, .string y] 37))
  clear hb2
  obtain ⟨x0, x1⟩ := HX2.out.two
  have s2 := HX2.out.lt
  go_wp2_with fail
  refine (eqStp_same x y _).mono ?_
  rintro e w3 ⟨rfl, hb3⟩
  have HB3 := hidv (below_on (below_al HB2.out _) hb3)
  clear hb3
  go_wp2_with fail
  go_ret
  exact ⟨rfl, HB3.out⟩

end Go.Proofs.Ytfnlikjdfihggaa
