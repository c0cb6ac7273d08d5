/-
  The law on ApplyImages, walked.
-/
import Derived.Test.YtpjflakialomaaaAp7
import Derived.Test.YtpjflakialomaaaStr2
import Derived.Test.YtpjflakialomaaaMem
import Derived.Test.YtpjflakialomaaaRow2
namespace Go.Proofs.Ytpjflakialomaaa
open Go.RowKit Go
set_option linter.unusedVariables false

set_option maxRecDepth 100000 in
set_option maxHeartbeats 1600000 in
theorem law_FnExactApplyImages (v_f : Value) (f : List ByteArray) (s : ByteArray) (w : World) (hv_f : Row w w.heap.size v_f (f.map Value.string)) (hw_f : f.length ≤ maxLen) (hs_f : ∀ s ∈ f, s.size ≤ maxLen) (hz_s : s.size ≤ maxLen) :
    Calls Try.prog 10 #[v_f, .string s] w fun e w' => e = .returned (.bool true) ∧ Below w.heap.size w w' := by
  have HV_f := hidv hv_f
  have HL_f := hidv hw_f
  have HS_f := hidv hs_f
  obtain ⟨y, c, hd⟩ := apR_ex f s
  have HD := hidv hd
  clear hd
  clear hv_f hw_f hs_f
  by_cases hbig_s : (1048576 : Int) < (s.size : Int)
  · go_enter Try.func10, Try.ntmps10
    go_wp2_with fail
    go_ret
    exact ⟨rfl, Below.refl _ _⟩
  go_enter Try.func10, Try.ntmps10
  have BL0 : Hid (Below w.heap.size w w) := hidv (Below.refl _ _)
  go_wp2_with fail
  refine (szStrs2_any _ f _ _ HV_f.out HL_f.out HS_f.out 1048576 (by omega) (by omega)).mono ?_
  rintro e9 w1 ⟨r0, rfl, hr0, hb1⟩
  have s1 := hb1.size
  have BL1 := hidv (below_on BL0.out hb1)
  have HVf1 := hidv (HV_f.out.below (hb1.mono (by omega)))
  clear hb1
  have HRR0 := hidv hr0
  clear hr0
  by_cases hr00 : r0 < 0
  · go_wp2_with fail
    go_ret
    exact ⟨rfl, BL1.out⟩
  have hrb0 := HRR0.out (by omega)
  have hl_f : f.length ≤ 1048576 := by omega
  go_wp2_with fail
  refine (toStrs_any _ f _ _ HVf1.out (by omega) (by omega)).mono ?_
  rintro e9 w2 ⟨uAf, rfl, hAf, hb2⟩
  have s2 := hb2.size
  have BL2 := hidv (below_on BL1.out hb2)
  have HVf2 := hidv (HVf1.out.below (hb2.mono (by omega)))
  have HAf2 := hidv (hAf)
  clear hb2 hAf
  go_wp2_with fail
  refine (specApply_any s _ f _ _ hz_s HAf2.out.row (by omega) hl_f HS_f.out y c HD.out).mono ?_
  rintro e9 w3 ⟨rfl, hb3⟩
  have s3 := hb3.size
  have BL3 := hidv (below_on BL2.out hb3)
  have HVf3 := hidv (HVf2.out.below (hb3.mono (by omega)))
  clear hb3
  go_wp2_with fail
  refine (toStrs_any _ f _ _ HVf3.out (by omega) (by omega)).mono ?_
  rintro e9 w4 ⟨uXf, rfl, hXf, hb4⟩
  have s4 := hb4.size
  have BL4 := hidv (below_on BL3.out hb4)
  have HVf4 := hidv (HVf3.out.below (hb4.mono (by omega)))
  have HXf4 := hidv (hXf)
  clear hb4 hXf
  go_wp2_with fail
  refine (implApply_any s _ f _ _ hz_s HXf4.out.row (by omega) hl_f HS_f.out y c HD.out).mono ?_
  rintro e9 w5 ⟨rfl, hb5⟩
  have s5 := hb5.size
  have BL5 := hidv (below_on BL4.out hb5)
  have HVf5 := hidv (HVf4.out.below (hb5.mono (by omega)))
  have HXf5 := hidv (HXf4.out.below hb5)
  clear hb5
  go_wp2_with fail
  refine (toStrs_any _ f _ _ HVf5.out (by omega) (by omega)).mono ?_
  rintro e9 w6 ⟨uEf, rfl, hEf, hb6⟩
  have s6 := hb6.size
  have BL6 := hidv (below_on BL5.out hb6)
  have HVf6 := hidv (HVf5.out.below (hb6.mono (by omega)))
  have HXf6 := hidv (HXf5.out.below hb6)
  have HEf6 := hidv (hEf)
  clear hb6 hEf
  go_wp2_with fail
  refine (eqStrs_same HXf6.out.row HEf6.out.row (by omega)).mono ?_
  rintro e9 w7 ⟨rfl, hb7⟩
  have s7 := hb7.size
  have BL7 := hidv (below_on BL6.out hb7)
  have HVf7 := hidv (HVf6.out.below (hb7.mono (by omega)))
  have HXf7 := hidv (HXf6.out.below hb7)
  clear hb7
  go_wp2_with fail
  go_ret
  exact ⟨rfl, BL7.out⟩

end Go.Proofs.Ytpjflakialomaaa
