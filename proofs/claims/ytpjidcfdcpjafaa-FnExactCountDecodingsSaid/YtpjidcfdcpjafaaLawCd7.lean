/-
  The law on CountDecodings, walked.
-/
import Derived.Test.YtpjidcfdcpjafaaCt7s
import Derived.Test.YtpjidcfdcpjafaaStr2
import Derived.Test.YtpjidcfdcpjafaaMem
import Derived.Test.YtpjidcfdcpjafaaRow2
namespace Go.Proofs.Ytpjidcfdcpjafaa
open Go.RowKit Go
set_option linter.unusedVariables false

set_option maxRecDepth 100000 in
set_option maxHeartbeats 1600000 in
theorem law_FnExactCountDecodings (v_xs : Value) (xs : List ByteArray) (s : ByteArray) (w : World) (hv_xs : Row w w.heap.size v_xs (xs.map Value.string)) (hw_xs : xs.length ≤ maxLen) (hs_xs : ∀ s ∈ xs, s.size ≤ maxLen) (hz_s : s.size ≤ maxLen) :
    Calls Try.prog 6 #[v_xs, .string s] w fun e w' => e = .returned (.bool true) ∧ Below w.heap.size w w' := by
  have HV_xs := hidv hv_xs
  have HL_xs := hidv hw_xs
  have HS_xs := hidv hs_xs
  obtain ⟨a, c, hd⟩ := cdR_ex xs s
  have HD := hidv hd
  clear hd
  clear hv_xs hw_xs hs_xs
  by_cases hbig_s : (1048576 : Int) < (s.size : Int)
  · go_enter Try.func6, Try.ntmps6
    go_wp2_with fail
    go_ret
    exact ⟨rfl, Below.refl _ _⟩
  go_enter Try.func6, Try.ntmps6
  have BL0 : Hid (Below w.heap.size w w) := hidv (Below.refl _ _)
  go_wp2_with fail
  refine (szStrs2_any _ xs _ _ HV_xs.out HL_xs.out HS_xs.out 1048576 (by omega) (by omega)).mono ?_
  rintro e9 w1 ⟨r0, rfl, hr0, hb1⟩
  have s1 := hb1.size
  have BL1 := hidv (below_on BL0.out hb1)
  have HVxs1 := hidv (HV_xs.out.below (hb1.mono (by omega)))
  clear hb1
  have HRR0 := hidv hr0
  clear hr0
  by_cases hr00 : r0 < 0
  · go_wp2_with fail
    go_ret
    exact ⟨rfl, BL1.out⟩
  have hrb0 := HRR0.out (by omega)
  have hl_xs : xs.length ≤ 1048576 := by omega
  go_wp2_with fail
  refine (toStrs_any _ xs _ _ HVxs1.out (by omega) (by omega)).mono ?_
  rintro e9 w2 ⟨uAxs, rfl, hAxs, hb2⟩
  have s2 := hb2.size
  have BL2 := hidv (below_on BL1.out hb2)
  have HVxs2 := hidv (HVxs1.out.below (hb2.mono (by omega)))
  have HAxs2 := hidv (hAxs)
  clear hb2 hAxs
  go_wp2_with fail
  refine (specCd_any _ xs s _ _ HAxs2.out.row (by omega) hl_xs HS_xs.out hz_s a c HD.out).mono ?_
  rintro e9 w3 ⟨rfl, hb3⟩
  have s3 := hb3.size
  have BL3 := hidv (below_on BL2.out hb3)
  have HVxs3 := hidv (HVxs2.out.below (hb3.mono (by omega)))
  clear hb3
  go_wp2_with fail
  refine (toStrs_any _ xs _ _ HVxs3.out (by omega) (by omega)).mono ?_
  rintro e9 w4 ⟨uXxs, rfl, hXxs, hb4⟩
  have s4 := hb4.size
  have BL4 := hidv (below_on BL3.out hb4)
  have HVxs4 := hidv (HVxs3.out.below (hb4.mono (by omega)))
  have HXxs4 := hidv (hXxs)
  clear hb4 hXxs
  go_wp2_with fail
  refine (implCd_any _ xs s _ _ HXxs4.out.row (by omega) hl_xs HS_xs.out hz_s a c HD.out).mono ?_
  rintro e9 w5 ⟨rfl, hb5⟩
  have s5 := hb5.size
  have BL5 := hidv (below_on BL4.out hb5)
  have HVxs5 := hidv (HVxs4.out.below (hb5.mono (by omega)))
  have HXxs5 := hidv (HXxs4.out.below hb5)
  clear hb5
  go_wp2_with fail
  refine (toStrs_any _ xs _ _ HVxs5.out (by omega) (by omega)).mono ?_
  rintro e9 w6 ⟨uExs, rfl, hExs, hb6⟩
  have s6 := hb6.size
  have BL6 := hidv (below_on BL5.out hb6)
  have HVxs6 := hidv (HVxs5.out.below (hb6.mono (by omega)))
  have HXxs6 := hidv (HXxs5.out.below hb6)
  have HExs6 := hidv (hExs)
  clear hb6 hExs
  go_wp2_with fail
  refine (eqStrs_same HXxs6.out.row HExs6.out.row (by omega)).mono ?_
  rintro e9 w7 ⟨rfl, hb7⟩
  have s7 := hb7.size
  have BL7 := hidv (below_on BL6.out hb7)
  have HVxs7 := hidv (HVxs6.out.below (hb7.mono (by omega)))
  have HXxs7 := hidv (HXxs6.out.below hb7)
  clear hb7
  go_wp2_with fail
  go_ret
  exact ⟨rfl, BL7.out⟩

end Go.Proofs.Ytpjidcfdcpjafaa
