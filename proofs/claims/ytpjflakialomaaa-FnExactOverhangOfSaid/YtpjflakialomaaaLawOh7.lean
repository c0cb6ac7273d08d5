/-
  The law on OverhangOf, walked.
-/
import Derived.Test.YtpjflakialomaaaOh7
import Derived.Test.YtpjflakialomaaaStr2
import Derived.Test.YtpjflakialomaaaMem
import Derived.Test.YtpjflakialomaaaRow2
namespace Go.Proofs.Ytpjflakialomaaa
open Go.RowKit Go
set_option linter.unusedVariables false

set_option maxRecDepth 100000 in
set_option maxHeartbeats 1600000 in
theorem law_FnExactOverhangOf (v_f : Value) (f : List ByteArray) (v_g : Value) (g : List ByteArray) (s : ByteArray) (w : World) (hv_f : Row w w.heap.size v_f (f.map Value.string)) (hw_f : f.length ≤ maxLen) (hs_f : ∀ s ∈ f, s.size ≤ maxLen) (hv_g : Row w w.heap.size v_g (g.map Value.string)) (hw_g : g.length ≤ maxLen) (hs_g : ∀ s ∈ g, s.size ≤ maxLen) (hz_s : s.size ≤ maxLen) :
    Calls Try.prog 12 #[v_f, v_g, .string s] w fun e w' => e = .returned (.bool true) ∧ Below w.heap.size w w' := by
  have HV_f := hidv hv_f
  have HL_f := hidv hw_f
  have HS_f := hidv hs_f
  have HV_g := hidv hv_g
  have HL_g := hidv hw_g
  have HS_g := hidv hs_g
  obtain ⟨a, r, c, hd⟩ := ohR_ex f g s
  have HD := hidv hd
  clear hd
  clear hv_f hw_f hs_f hv_g hw_g hs_g
  by_cases hbig_s : (1048576 : Int) < (s.size : Int)
  · go_enter Try.func12, Try.ntmps12
    go_wp2_with fail
    go_ret
    exact ⟨rfl, Below.refl _ _⟩
  go_enter Try.func12, Try.ntmps12
  have BL0 : Hid (Below w.heap.size w w) := hidv (Below.refl _ _)
  go_wp2_with fail
  refine (szStrs2_any _ f _ _ HV_f.out HL_f.out HS_f.out 1048576 (by omega) (by omega)).mono ?_
  rintro e9 w1 ⟨r0, rfl, hr0, hb1⟩
  have s1 := hb1.size
  have BL1 := hidv (below_on BL0.out hb1)
  have HVf1 := hidv (HV_f.out.below (hb1.mono (by omega)))
  have HVg1 := hidv (HV_g.out.below (hb1.mono (by omega)))
  clear hb1
  have HRR0 := hidv hr0
  clear hr0
  by_cases hr00 : r0 < 0
  · go_wp2_with fail
    go_ret
    exact ⟨rfl, BL1.out⟩
  have hrb0 := HRR0.out (by omega)
  have hl_f : f.length ≤ 1048576 := by omega
  go_wp2_with fail
  refine (szStrs2_any _ g _ _ HVg1.out HL_g.out HS_g.out r0 (by omega) (by omega)).mono ?_
  rintro e9 w2 ⟨r1, rfl, hr1, hb2⟩
  have s2 := hb2.size
  have BL2 := hidv (below_on BL1.out hb2)
  have HVf2 := hidv (HVf1.out.below (hb2.mono (by omega)))
  have HVg2 := hidv (HVg1.out.below (hb2.mono (by omega)))
  clear hb2
  have HRR1 := hidv hr1
  clear hr1
  by_cases hr01 : r1 < 0
  · go_wp2_with fail
    go_ret
    exact ⟨rfl, BL2.out⟩
  have hrb1 := HRR1.out (by omega)
  have hl_g : g.length ≤ 1048576 := by omega
  go_wp2_with fail
  refine (toStrs_any _ f _ _ HVf2.out (by omega) (by omega)).mono ?_
  rintro e9 w3 ⟨uAf, rfl, hAf, hb3⟩
  have s3 := hb3.size
  have BL3 := hidv (below_on BL2.out hb3)
  have HVf3 := hidv (HVf2.out.below (hb3.mono (by omega)))
  have HVg3 := hidv (HVg2.out.below (hb3.mono (by omega)))
  have HAf3 := hidv (hAf)
  clear hb3 hAf
  go_wp2_with fail
  refine (toStrs_any _ g _ _ HVg3.out (by omega) (by omega)).mono ?_
  rintro e9 w4 ⟨uAg, rfl, hAg, hb4⟩
  have s4 := hb4.size
  have BL4 := hidv (below_on BL3.out hb4)
  have HVf4 := hidv (HVf3.out.below (hb4.mono (by omega)))
  have HVg4 := hidv (HVg3.out.below (hb4.mono (by omega)))
  have HAf4 := hidv (HAf3.out.below hb4)
  have HAg4 := hidv (hAg)
  clear hb4 hAg
  go_wp2_with fail
  refine (specOver_any s _ _ f g _ _ _ hz_s HAf4.out.row (by omega) HAg4.out.row (by omega) hl_f hl_g HS_f.out HS_g.out a r c HD.out).mono ?_
  rintro e9 w5 ⟨rfl, hb5⟩
  have s5 := hb5.size
  have BL5 := hidv (below_on BL4.out hb5)
  have HVf5 := hidv (HVf4.out.below (hb5.mono (by omega)))
  have HVg5 := hidv (HVg4.out.below (hb5.mono (by omega)))
  clear hb5
  go_wp2_with fail
  refine (toStrs_any _ f _ _ HVf5.out (by omega) (by omega)).mono ?_
  rintro e9 w6 ⟨uXf, rfl, hXf, hb6⟩
  have s6 := hb6.size
  have BL6 := hidv (below_on BL5.out hb6)
  have HVf6 := hidv (HVf5.out.below (hb6.mono (by omega)))
  have HVg6 := hidv (HVg5.out.below (hb6.mono (by omega)))
  have HXf6 := hidv (hXf)
  clear hb6 hXf
  go_wp2_with fail
  refine (toStrs_any _ g _ _ HVg6.out (by omega) (by omega)).mono ?_
  rintro e9 w7 ⟨uXg, rfl, hXg, hb7⟩
  have s7 := hb7.size
  have BL7 := hidv (below_on BL6.out hb7)
  have HVf7 := hidv (HVf6.out.below (hb7.mono (by omega)))
  have HVg7 := hidv (HVg6.out.below (hb7.mono (by omega)))
  have HXf7 := hidv (HXf6.out.below hb7)
  have HXg7 := hidv (hXg)
  clear hb7 hXg
  go_wp2_with fail
  refine (implOver_any s _ _ f g _ _ _ hz_s HXf7.out.row (by omega) HXg7.out.row (by omega) hl_f hl_g HS_f.out HS_g.out a r c HD.out).mono ?_
  rintro e9 w8 ⟨rfl, hb8⟩
  have s8 := hb8.size
  have BL8 := hidv (below_on BL7.out hb8)
  have HVf8 := hidv (HVf7.out.below (hb8.mono (by omega)))
  have HVg8 := hidv (HVg7.out.below (hb8.mono (by omega)))
  have HXf8 := hidv (HXf7.out.below hb8)
  have HXg8 := hidv (HXg7.out.below hb8)
  clear hb8
  go_wp2_with fail
  refine (toStrs_any _ f _ _ HVf8.out (by omega) (by omega)).mono ?_
  rintro e9 w9 ⟨uEf, rfl, hEf, hb9⟩
  have s9 := hb9.size
  have BL9 := hidv (below_on BL8.out hb9)
  have HVf9 := hidv (HVf8.out.below (hb9.mono (by omega)))
  have HVg9 := hidv (HVg8.out.below (hb9.mono (by omega)))
  have HXf9 := hidv (HXf8.out.below hb9)
  have HXg9 := hidv (HXg8.out.below hb9)
  have HEf9 := hidv (hEf)
  clear hb9 hEf
  go_wp2_with fail
  refine (eqStrs_same HXf9.out.row HEf9.out.row (by omega)).mono ?_
  rintro e9 w10 ⟨rfl, hb10⟩
  have s10 := hb10.size
  have BL10 := hidv (below_on BL9.out hb10)
  have HVf10 := hidv (HVf9.out.below (hb10.mono (by omega)))
  have HVg10 := hidv (HVg9.out.below (hb10.mono (by omega)))
  have HXf10 := hidv (HXf9.out.below hb10)
  have HXg10 := hidv (HXg9.out.below hb10)
  clear hb10
  go_wp2_with fail
  refine (toStrs_any _ g _ _ HVg10.out (by omega) (by omega)).mono ?_
  rintro e9 w11 ⟨uEg, rfl, hEg, hb11⟩
  have s11 := hb11.size
  have BL11 := hidv (below_on BL10.out hb11)
  have HVf11 := hidv (HVf10.out.below (hb11.mono (by omega)))
  have HVg11 := hidv (HVg10.out.below (hb11.mono (by omega)))
  have HXf11 := hidv (HXf10.out.below hb11)
  have HXg11 := hidv (HXg10.out.below hb11)
  have HEg11 := hidv (hEg)
  clear hb11 hEg
  go_wp2_with fail
  refine (eqStrs_same HXg11.out.row HEg11.out.row (by omega)).mono ?_
  rintro e9 w12 ⟨rfl, hb12⟩
  have s12 := hb12.size
  have BL12 := hidv (below_on BL11.out hb12)
  have HVf12 := hidv (HVf11.out.below (hb12.mono (by omega)))
  have HVg12 := hidv (HVg11.out.below (hb12.mono (by omega)))
  have HXf12 := hidv (HXf11.out.below hb12)
  have HXg12 := hidv (HXg11.out.below hb12)
  clear hb12
  go_wp2_with fail
  go_ret
  exact ⟨rfl, BL12.out⟩

end Go.Proofs.Ytpjflakialomaaa
