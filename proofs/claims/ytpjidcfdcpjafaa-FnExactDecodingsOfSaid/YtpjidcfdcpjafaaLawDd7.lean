/-
  The law on DecodingsOf, walked.
-/
import Derived.Test.YtpjidcfdcpjafaaDd7l
import Derived.Test.YtpjidcfdcpjafaaStr2
import Derived.Test.YtpjidcfdcpjafaaMem
import Derived.Test.YtpjidcfdcpjafaaRow2
import Derived.Test.YtpjidcfdcpjafaaMS
namespace Go.Proofs.Ytpjidcfdcpjafaa
open Go.RowKit Go
set_option linter.unusedVariables false

set_option maxRecDepth 100000 in
set_option maxHeartbeats 3200000 in
theorem law_FnExactDecodingsOf (v_xs : Value) (xs : List ByteArray) (s : ByteArray) (w : World) (hv_xs : Row w w.heap.size v_xs (xs.map Value.string)) (hw_xs : xs.length ≤ maxLen) (hs_xs : ∀ s ∈ xs, s.size ≤ maxLen) (hz_s : s.size ≤ maxLen) :
    Calls Try.prog 7 #[v_xs, .string s] w fun e w' => e = .returned (.bool true) ∧ Below w.heap.size w w' := by
  have HV_xs := hidv hv_xs
  have HL_xs := hidv hw_xs
  have HS_xs := hidv hs_xs
  obtain ⟨L, c, hd, hLl, hLr⟩ := ddR_ex xs s
  have HD := hidv hd
  clear hd
  clear hv_xs hw_xs hs_xs
  by_cases hbig_s : (1048576 : Int) < (s.size : Int)
  · go_enter Try.func7, Try.ntmps7
    go_wp2_with fail
    go_ret
    exact ⟨rfl, Below.refl _ _⟩
  go_enter Try.func7, Try.ntmps7
  have BL0 : Hid (Below w.heap.size w w) := hidv (Below.refl _ _)
  go_wp2_with fail
  refine (szStrs2_any _ xs _ _ HV_xs.out HL_xs.out HS_xs.out 1048576 (by omega) (by omega)).mono ?_
  rintro e9 w1 ⟨r0, rfl, hr0, hb1⟩
  have s1 := hb1.size
  have BL1 := hidv (below_on BL0.out hb1)
  have HVxs1 := hidv (HV_xs.out.below (hb1.mono (by omega)))
  clear hb1
  have HRR0 := hidv hr0
  clear hr0
  by_cases hr00 : r0 < 0
  · go_wp2_with fail
    go_ret
    exact ⟨rfl, BL1.out⟩
  have hrb0 := HRR0.out (by omega)
  have hl_xs : xs.length ≤ 1048576 := by omega
  go_wp2_with fail
  refine (toStrs_any _ xs _ _ HVxs1.out (by omega) (by omega)).mono ?_
  rintro e9 w2 ⟨uAxs, rfl, hAxs, hb2⟩
  have s2 := hb2.size
  have BL2 := hidv (below_on BL1.out hb2)
  have HVxs2 := hidv (HVxs1.out.below (hb2.mono (by omega)))
  have HAxs2 := hidv (hAxs)
  clear hb2 hAxs
  go_wp2_with fail
  refine (specDd_any _ xs s _ _ HAxs2.out.row (by omega) hl_xs HS_xs.out hz_s L c HD.out).mono ?_
  rintro e9 w3 ⟨uW, rfl, hW, hb3⟩
  have s3 := hb3.size
  have BL3 := hidv (below_on BL2.out hb3)
  have HVxs3 := hidv (HVxs2.out.below (hb3.mono (by omega)))
  have HW3 := hidv (hW.row)
  clear hb3
  go_wp2_with fail
  refine (toStrs_any _ xs _ _ HVxs3.out (by omega) (by omega)).mono ?_
  rintro e9 w4 ⟨uXxs, rfl, hXxs, hb4⟩
  have s4 := hb4.size
  have BL4 := hidv (below_on BL3.out hb4)
  have HVxs4 := hidv (HVxs3.out.below (hb4.mono (by omega)))
  have HW4 := hidv (HW3.out.below (hb4.mono (by omega)))
  have HXxs4 := hidv (hXxs)
  clear hb4 hXxs
  have HX_xs := hidv (show w4.ownsRow _ _ _ _ _ _ from HXxs4.out).lt
  go_wp2_with fail
  refine (implDd_any _ xs s _ _ HXxs4.out.row (by omega) hl_xs HS_xs.out hz_s L c HD.out).mono ?_
  rintro e9 w5 ⟨uG, rfl, hG, hb5⟩
  have s5 := hb5.size
  have BL5 := hidv (below_on BL4.out hb5)
  have HVxs5 := hidv (HVxs4.out.below (hb5.mono (by omega)))
  have HW5 := hidv (HW4.out.below (hb5.mono (by omega)))
  have HXxs5 := hidv (HXxs4.out.below hb5)
  have HG5 := hidv (hG)
  clear hb5 hG
  go_wp2_with fail
  refine (eqIS_same HG5.out.row (HW5.out.more (by omega)) hLl hLr).mono ?_
  rintro e9 w6 ⟨rfl, hb6⟩
  have s6 := hb6.size
  have BL6 := hidv (below_on BL5.out hb6)
  have HVxs6 := hidv (HVxs5.out.below (hb6.mono (by omega)))
  have HW6 := hidv (HW5.out.below (hb6.mono (by omega)))
  have HXxs6 := hidv (HXxs5.out.below hb6)
  have HG6 := hidv (HG5.out.below hb6)
  clear hb6
  go_wp2_with fail
  refine (toStrs_any _ xs _ _ HVxs6.out (by omega) (by omega)).mono ?_
  rintro e9 w7 ⟨uExs, rfl, hExs, hb7⟩
  have s7 := hb7.size
  have BL7 := hidv (below_on BL6.out hb7)
  have HVxs7 := hidv (HVxs6.out.below (hb7.mono (by omega)))
  have HW7 := hidv (HW6.out.below (hb7.mono (by omega)))
  have HXxs7 := hidv (HXxs6.out.below hb7)
  have HG7 := hidv (HG6.out.below hb7)
  have HExs7 := hidv (hExs)
  clear hb7 hExs
  go_wp2_with fail
  refine (eqStrs_same HXxs7.out.row HExs7.out.row (by omega)).mono ?_
  rintro e9 w8 ⟨rfl, hb8⟩
  have s8 := hb8.size
  have BL8 := hidv (below_on BL7.out hb8)
  have HVxs8 := hidv (HVxs7.out.below (hb8.mono (by omega)))
  have HW8 := hidv (HW7.out.below (hb8.mono (by omega)))
  have HXxs8 := hidv (HXxs7.out.below hb8)
  have HG8 := hidv (HG7.out.below hb8)
  clear hb8
  go_wp2_with fail
  refine (markStrs_any _ _ _ (1) _ HXxs8.out (by omega) (by omega)).mono ?_
  rintro e9 w9 ⟨rfl, _, hgm⟩
  have hbm := below_grown hgm (show _ ≤ w8.heap.size by omega) (fun k hk => (HX_xs.out k hk).1)
  have s9 := hgm.size
  have BL9 := hidv (BL8.out.trans (hbm.mono (by omega)))
  have HV_xs_9 := hidv (HVxs8.out.below (hbm.mono (by omega)))
  have HW9 := hidv (HW8.out.below (hbm.mono (by omega)))
  have HG9 := hidv (FoA.other HG8.out hgm (fun k hk => by have := (HX_xs.out k hk).2; omega))
  clear hbm hgm
  go_wp2_with fail
  refine (eqIS_same HG9.out.row (HW9.out.more (by omega)) hLl hLr).mono ?_
  rintro e9 w10 ⟨rfl, hb10⟩
  have s10 := hb10.size
  have BL10 := hidv (below_on BL9.out hb10)
  have HVxs10 := hidv (HV_xs_9.out.below (hb10.mono (by omega)))
  have HW10 := hidv (HW9.out.below (hb10.mono (by omega)))
  have HG10 := hidv (HG9.out.below hb10)
  clear hb10
  go_wp2_with fail
  refine (markFo_any _ _ _ _ HG10.out (by omega) hLl hLr).mono ?_
  rintro e9 w11 ⟨rfl, hvm, hbm⟩
  have s11 := hbm.size
  have BL11 := hidv (BL10.out.trans (hbm.mono (by omega)))
  have HV_xs_11 := hidv (HVxs10.out.below (hbm.mono (by omega)))
  have HW11 := hidv (HW10.out.below (hbm.mono (by omega)))
  have HG11 := hidv hvm
  clear hbm hvm
  go_wp2_with fail
  refine (heldFo_any _ _ _ _ HG11.out hLl hLr).mono ?_
  rintro e9 wz ⟨rfl, hwz2⟩
  obtain rfl : w11 = wz := hwz2
  go_wp2_with fail
  refine (toStrs_any _ xs _ _ HV_xs_11.out (by omega) (by omega)).mono ?_
  rintro e9 w12 ⟨uYxs, rfl, hYxs, hb12⟩
  have s12 := hb12.size
  have BL12 := hidv (below_on BL11.out hb12)
  have HVxs12 := hidv (HV_xs_11.out.below (hb12.mono (by omega)))
  have HW12 := hidv (HW11.out.below (hb12.mono (by omega)))
  have HG12 := hidv (HG11.out.below hb12)
  have HYxs12 := hidv (hYxs)
  clear hb12 hYxs
  go_wp2_with fail
  refine (implDd_any _ xs s _ _ HYxs12.out.row (by omega) hl_xs HS_xs.out hz_s L c HD.out).mono ?_
  rintro e9 w13 ⟨uK, rfl, hK, hb13⟩
  have s13 := hb13.size
  have BL13 := hidv (below_on BL12.out hb13)
  have HVxs13 := hidv (HVxs12.out.below (hb13.mono (by omega)))
  have HW13 := hidv (HW12.out.below (hb13.mono (by omega)))
  have HG13 := hidv (HG12.out.below hb13)
  have HK13 := hidv (hK)
  clear hb13 hK
  go_wp2_with fail
  refine (eqIS_same HK13.out.row (HW13.out.more (by omega)) hLl hLr).mono ?_
  rintro e9 w14 ⟨rfl, hb14⟩
  have s14 := hb14.size
  have BL14 := hidv (below_on BL13.out hb14)
  have HVxs14 := hidv (HVxs13.out.below (hb14.mono (by omega)))
  have HW14 := hidv (HW13.out.below (hb14.mono (by omega)))
  have HG14 := hidv (HG13.out.below hb14)
  have HK14 := hidv (HK13.out.below hb14)
  clear hb14
  go_wp2_with fail
  refine (heldFo_any _ _ _ _ HG14.out hLl hLr).mono ?_
  rintro e9 wz ⟨rfl, hwz2⟩
  obtain rfl : w14 = wz := hwz2
  go_wp2_with fail
  go_ret
  exact ⟨rfl, BL14.out⟩

end Go.Proofs.Ytpjidcfdcpjafaa
