/-
  The law on PrimesTo, walked.
-/
import Derived.Test.YtpjidcfdcpjafaaPr7
import Derived.Test.YtpjidcfdcpjafaaStr2
import Derived.Test.YtpjidcfdcpjafaaMem
import Derived.Test.YtpjidcfdcpjafaaRow2
import Derived.Test.YtpjidcfdcpjafaaMS
namespace Go.Proofs.Ytpjidcfdcpjafaa
open Go.RowKit Go
set_option linter.unusedVariables false

set_option maxRecDepth 100000 in
set_option maxHeartbeats 3200000 in
theorem law_FnExactPrimesTo (v_f : Value) (f : List ByteArray) (v_g : Value) (g : List ByteArray) (l : Int) (n : Int) (w : World) (hv_f : Row w w.heap.size v_f (f.map Value.string)) (hw_f : f.length ≤ maxLen) (hs_f : ∀ s ∈ f, s.size ≤ maxLen) (hv_g : Row w w.heap.size v_g (g.map Value.string)) (hw_g : g.length ≤ maxLen) (hs_g : ∀ s ∈ g, s.size ≤ maxLen) (hi_l : (Lit.int .i64 l).wf = true) (hi_n : (Lit.int .i64 n).wf = true) :
    Calls Try.prog 9 #[v_f, v_g, .int .i64 l, .int .i64 n] w fun e w' => e = .returned (.bool true) ∧ Below w.heap.size w w' := by
  have HV_f := hidv hv_f
  have HL_f := hidv hw_f
  have HS_f := hidv hs_f
  have HV_g := hidv hv_g
  have HL_g := hidv hw_g
  have HS_g := hidv hs_g
  obtain ⟨L, c, hd, hL⟩ := prR_ex f g l n
  have HD := hidv hd
  clear hd
  clear hv_f hw_f hs_f hv_g hw_g hs_g
  go_enter Try.func9, Try.ntmps9
  have BL0 : Hid (Below w.heap.size w w) := hidv (Below.refl _ _)
  go_wp2_with fail
  refine (szStrs2_any _ f _ _ HV_f.out HL_f.out HS_f.out 1048576 (by omega) (by omega)).mono ?_
  rintro e9 w1 ⟨r0, rfl, hr0, hb1⟩
  have s1 := hb1.size
  have BL1 := hidv (below_on BL0.out hb1)
  have HVf1 := hidv (HV_f.out.below (hb1.mono (by omega)))
  have HVg1 := hidv (HV_g.out.below (hb1.mono (by omega)))
  clear hb1
  have HRR0 := hidv hr0
  clear hr0
  by_cases hr00 : r0 < 0
  · go_wp2_with fail
    go_ret
    exact ⟨rfl, BL1.out⟩
  have hrb0 := HRR0.out (by omega)
  have hl_f : f.length ≤ 1048576 := by omega
  go_wp2_with fail
  refine (szStrs2_any _ g _ _ HVg1.out HL_g.out HS_g.out r0 (by omega) (by omega)).mono ?_
  rintro e9 w2 ⟨r1, rfl, hr1, hb2⟩
  have s2 := hb2.size
  have BL2 := hidv (below_on BL1.out hb2)
  have HVf2 := hidv (HVf1.out.below (hb2.mono (by omega)))
  have HVg2 := hidv (HVg1.out.below (hb2.mono (by omega)))
  clear hb2
  have HRR1 := hidv hr1
  clear hr1
  by_cases hr01 : r1 < 0
  · go_wp2_with fail
    go_ret
    exact ⟨rfl, BL2.out⟩
  have hrb1 := HRR1.out (by omega)
  have hl_g : g.length ≤ 1048576 := by omega
  go_wp2_with fail
  refine (toStrs_any _ f _ _ HVf2.out (by omega) (by omega)).mono ?_
  rintro e9 w3 ⟨uAf, rfl, hAf, hb3⟩
  have s3 := hb3.size
  have BL3 := hidv (below_on BL2.out hb3)
  have HVf3 := hidv (HVf2.out.below (hb3.mono (by omega)))
  have HVg3 := hidv (HVg2.out.below (hb3.mono (by omega)))
  have HAf3 := hidv (hAf)
  clear hb3 hAf
  go_wp2_with fail
  refine (toStrs_any _ g _ _ HVg3.out (by omega) (by omega)).mono ?_
  rintro e9 w4 ⟨uAg, rfl, hAg, hb4⟩
  have s4 := hb4.size
  have BL4 := hidv (below_on BL3.out hb4)
  have HVf4 := hidv (HVf3.out.below (hb4.mono (by omega)))
  have HVg4 := hidv (HVg3.out.below (hb4.mono (by omega)))
  have HAf4 := hidv (HAf3.out.below hb4)
  have HAg4 := hidv (hAg)
  clear hb4 hAg
  go_wp2_with fail
  refine (specPr_any _ _ f g l n _ _ _ HAf4.out.row (by omega) HAg4.out.row (by omega) hl_f hl_g HS_f.out HS_g.out L c HD.out).mono ?_
  rintro e9 w5 ⟨uW, rfl, hW, hb5⟩
  have s5 := hb5.size
  have BL5 := hidv (below_on BL4.out hb5)
  have HVf5 := hidv (HVf4.out.below (hb5.mono (by omega)))
  have HVg5 := hidv (HVg4.out.below (hb5.mono (by omega)))
  have HW5 := hidv (hW.row)
  clear hb5
  go_wp2_with fail
  refine (toStrs_any _ f _ _ HVf5.out (by omega) (by omega)).mono ?_
  rintro e9 w6 ⟨uXf, rfl, hXf, hb6⟩
  have s6 := hb6.size
  have BL6 := hidv (below_on BL5.out hb6)
  have HVf6 := hidv (HVf5.out.below (hb6.mono (by omega)))
  have HVg6 := hidv (HVg5.out.below (hb6.mono (by omega)))
  have HW6 := hidv (HW5.out.below (hb6.mono (by omega)))
  have HXf6 := hidv (hXf)
  clear hb6 hXf
  have HX_f := hidv (show w6.ownsRow _ _ _ _ _ _ from HXf6.out).lt
  go_wp2_with fail
  refine (toStrs_any _ g _ _ HVg6.out (by omega) (by omega)).mono ?_
  rintro e9 w7 ⟨uXg, rfl, hXg, hb7⟩
  have s7 := hb7.size
  have BL7 := hidv (below_on BL6.out hb7)
  have HVf7 := hidv (HVf6.out.below (hb7.mono (by omega)))
  have HVg7 := hidv (HVg6.out.below (hb7.mono (by omega)))
  have HW7 := hidv (HW6.out.below (hb7.mono (by omega)))
  have HXf7 := hidv (HXf6.out.below hb7)
  have HXg7 := hidv (hXg)
  clear hb7 hXg
  have HX_g := hidv (show w7.ownsRow _ _ _ _ _ _ from HXg7.out).lt
  go_wp2_with fail
  refine (implPr_any _ _ f g l n _ _ _ HXf7.out.row (by omega) HXg7.out.row (by omega) hl_f hl_g HS_f.out HS_g.out L c HD.out).mono ?_
  rintro e9 w8 ⟨uG, rfl, hG, hb8⟩
  have s8 := hb8.size
  have BL8 := hidv (below_on BL7.out hb8)
  have HVf8 := hidv (HVf7.out.below (hb8.mono (by omega)))
  have HVg8 := hidv (HVg7.out.below (hb8.mono (by omega)))
  have HW8 := hidv (HW7.out.below (hb8.mono (by omega)))
  have HXf8 := hidv (HXf7.out.below hb8)
  have HXg8 := hidv (HXg7.out.below hb8)
  have HG8 := hidv (hG)
  clear hb8 hG
  go_wp2_with fail
  refine (eqStrs_same HG8.out.row HW8.out (by omega)).mono ?_
  rintro e9 w9 ⟨rfl, hb9⟩
  have s9 := hb9.size
  have BL9 := hidv (below_on BL8.out hb9)
  have HVf9 := hidv (HVf8.out.below (hb9.mono (by omega)))
  have HVg9 := hidv (HVg8.out.below (hb9.mono (by omega)))
  have HW9 := hidv (HW8.out.below (hb9.mono (by omega)))
  have HXf9 := hidv (HXf8.out.below hb9)
  have HXg9 := hidv (HXg8.out.below hb9)
  have HG9 := hidv (HG8.out.below hb9)
  clear hb9
  go_wp2_with fail
  refine (toStrs_any _ f _ _ HVf9.out (by omega) (by omega)).mono ?_
  rintro e9 w10 ⟨uEf, rfl, hEf, hb10⟩
  have s10 := hb10.size
  have BL10 := hidv (below_on BL9.out hb10)
  have HVf10 := hidv (HVf9.out.below (hb10.mono (by omega)))
  have HVg10 := hidv (HVg9.out.below (hb10.mono (by omega)))
  have HW10 := hidv (HW9.out.below (hb10.mono (by omega)))
  have HXf10 := hidv (HXf9.out.below hb10)
  have HXg10 := hidv (HXg9.out.below hb10)
  have HG10 := hidv (HG9.out.below hb10)
  have HEf10 := hidv (hEf)
  clear hb10 hEf
  go_wp2_with fail
  refine (eqStrs_same HXf10.out.row HEf10.out.row (by omega)).mono ?_
  rintro e9 w11 ⟨rfl, hb11⟩
  have s11 := hb11.size
  have BL11 := hidv (below_on BL10.out hb11)
  have HVf11 := hidv (HVf10.out.below (hb11.mono (by omega)))
  have HVg11 := hidv (HVg10.out.below (hb11.mono (by omega)))
  have HW11 := hidv (HW10.out.below (hb11.mono (by omega)))
  have HXf11 := hidv (HXf10.out.below hb11)
  have HXg11 := hidv (HXg10.out.below hb11)
  have HG11 := hidv (HG10.out.below hb11)
  clear hb11
  go_wp2_with fail
  refine (toStrs_any _ g _ _ HVg11.out (by omega) (by omega)).mono ?_
  rintro e9 w12 ⟨uEg, rfl, hEg, hb12⟩
  have s12 := hb12.size
  have BL12 := hidv (below_on BL11.out hb12)
  have HVf12 := hidv (HVf11.out.below (hb12.mono (by omega)))
  have HVg12 := hidv (HVg11.out.below (hb12.mono (by omega)))
  have HW12 := hidv (HW11.out.below (hb12.mono (by omega)))
  have HXf12 := hidv (HXf11.out.below hb12)
  have HXg12 := hidv (HXg11.out.below hb12)
  have HG12 := hidv (HG11.out.below hb12)
  have HEg12 := hidv (hEg)
  clear hb12 hEg
  go_wp2_with fail
  refine (eqStrs_same HXg12.out.row HEg12.out.row (by omega)).mono ?_
  rintro e9 w13 ⟨rfl, hb13⟩
  have s13 := hb13.size
  have BL13 := hidv (below_on BL12.out hb13)
  have HVf13 := hidv (HVf12.out.below (hb13.mono (by omega)))
  have HVg13 := hidv (HVg12.out.below (hb13.mono (by omega)))
  have HW13 := hidv (HW12.out.below (hb13.mono (by omega)))
  have HXf13 := hidv (HXf12.out.below hb13)
  have HXg13 := hidv (HXg12.out.below hb13)
  have HG13 := hidv (HG12.out.below hb13)
  clear hb13
  go_wp2_with fail
  refine (markStrs_any _ _ _ (1) _ HXf13.out (by omega) (by omega)).mono ?_
  rintro e9 w14 ⟨rfl, _, hgm⟩
  have hbm := below_grown hgm (show _ ≤ w13.heap.size by omega) (fun k hk => (HX_f.out k hk).1)
  have s14 := hgm.size
  have BL14 := hidv (BL13.out.trans (hbm.mono (by omega)))
  have HV_f_14 := hidv (HVf13.out.below (hbm.mono (by omega)))
  have HV_g_14 := hidv (HVg13.out.below (hbm.mono (by omega)))
  have HXg14 : Hid (Strs w14 _ _ _) := hidv (own_other HXg13.out hgm (fun k hk => (HX_f.out k hk).2))
  have HW14 := hidv (HW13.out.below (hbm.mono (by omega)))
  have HG14 : Hid (Strs w14 _ _ _) := hidv (own_other HG13.out hgm (fun k hk => by have := (HX_f.out k hk).2; omega))
  clear hbm hgm
  go_wp2_with fail
  refine (markStrs_any _ _ _ (1 + f.length) _ HXg14.out (by omega) (by omega)).mono ?_
  rintro e9 w15 ⟨rfl, _, hgm⟩
  have hbm := below_grown hgm (show _ ≤ w14.heap.size by omega) (fun k hk => (HX_g.out k hk).1)
  have s15 := hgm.size
  have BL15 := hidv (BL14.out.trans (hbm.mono (by omega)))
  have HV_f_15 := hidv (HV_f_14.out.below (hbm.mono (by omega)))
  have HV_g_15 := hidv (HV_g_14.out.below (hbm.mono (by omega)))
  have HW15 := hidv (HW14.out.below (hbm.mono (by omega)))
  have HG15 : Hid (Strs w15 _ _ _) := hidv (own_other HG14.out hgm (fun k hk => by have := (HX_g.out k hk).2; omega))
  clear hbm hgm
  go_wp2_with fail
  refine (eqStrs_same HG15.out.row HW15.out (by omega)).mono ?_
  rintro e9 w16 ⟨rfl, hb16⟩
  have s16 := hb16.size
  have BL16 := hidv (below_on BL15.out hb16)
  have HVf16 := hidv (HV_f_15.out.below (hb16.mono (by omega)))
  have HVg16 := hidv (HV_g_15.out.below (hb16.mono (by omega)))
  have HW16 := hidv (HW15.out.below (hb16.mono (by omega)))
  have HG16 := hidv (HG15.out.below hb16)
  clear hb16
  go_wp2_with fail
  refine (markStrs_any _ _ _ 1 _ HG16.out (by omega) (by omega)).mono ?_
  rintro e9 w17 ⟨rfl, hvm, hgm⟩
  have hbm := below_grown hgm (show _ ≤ w16.heap.size by omega) (fun k hk => (World.ownsRow.lt (show w16.ownsRow _ _ _ _ _ _ from HG16.out) k hk).1)
  have s17 := hgm.size
  have BL17 := hidv (BL16.out.trans (hbm.mono (by omega)))
  have HV_f_17 := hidv (HVf16.out.below (hbm.mono (by omega)))
  have HV_g_17 := hidv (HVg16.out.below (hbm.mono (by omega)))
  have HW17 := hidv (HW16.out.below (hbm.mono (by omega)))
  have HG17 := hidv hvm
  clear hbm hvm hgm
  go_wp2_with fail
  refine (heldStrs_any _ _ _ 1 _ HG17.out.row (by omega) (by omega) (by omega)).mono ?_
  rintro e9 w18 ⟨rfl, hb18⟩
  have s18 := hb18.size
  have BL18 := hidv (below_on BL17.out hb18)
  have HVf18 := hidv (HV_f_17.out.below (hb18.mono (by omega)))
  have HVg18 := hidv (HV_g_17.out.below (hb18.mono (by omega)))
  have HW18 := hidv (HW17.out.below (hb18.mono (by omega)))
  have HG18 := hidv (HG17.out.below hb18)
  clear hb18
  go_wp2_with fail
  refine (toStrs_any _ f _ _ HVf18.out (by omega) (by omega)).mono ?_
  rintro e9 w19 ⟨uYf, rfl, hYf, hb19⟩
  have s19 := hb19.size
  have BL19 := hidv (below_on BL18.out hb19)
  have HVf19 := hidv (HVf18.out.below (hb19.mono (by omega)))
  have HVg19 := hidv (HVg18.out.below (hb19.mono (by omega)))
  have HW19 := hidv (HW18.out.below (hb19.mono (by omega)))
  have HG19 := hidv (HG18.out.below hb19)
  have HYf19 := hidv (hYf)
  clear hb19 hYf
  go_wp2_with fail
  refine (toStrs_any _ g _ _ HVg19.out (by omega) (by omega)).mono ?_
  rintro e9 w20 ⟨uYg, rfl, hYg, hb20⟩
  have s20 := hb20.size
  have BL20 := hidv (below_on BL19.out hb20)
  have HVf20 := hidv (HVf19.out.below (hb20.mono (by omega)))
  have HVg20 := hidv (HVg19.out.below (hb20.mono (by omega)))
  have HW20 := hidv (HW19.out.below (hb20.mono (by omega)))
  have HG20 := hidv (HG19.out.below hb20)
  have HYf20 := hidv (HYf19.out.below hb20)
  have HYg20 := hidv (hYg)
  clear hb20 hYg
  go_wp2_with fail
  refine (implPr_any _ _ f g l n _ _ _ HYf20.out.row (by omega) HYg20.out.row (by omega) hl_f hl_g HS_f.out HS_g.out L c HD.out).mono ?_
  rintro e9 w21 ⟨uK, rfl, hK, hb21⟩
  have s21 := hb21.size
  have BL21 := hidv (below_on BL20.out hb21)
  have HVf21 := hidv (HVf20.out.below (hb21.mono (by omega)))
  have HVg21 := hidv (HVg20.out.below (hb21.mono (by omega)))
  have HW21 := hidv (HW20.out.below (hb21.mono (by omega)))
  have HG21 := hidv (HG20.out.below hb21)
  have HK21 := hidv (hK)
  clear hb21 hK
  go_wp2_with fail
  refine (eqStrs_same HK21.out.row HW21.out (by omega)).mono ?_
  rintro e9 w22 ⟨rfl, hb22⟩
  have s22 := hb22.size
  have BL22 := hidv (below_on BL21.out hb22)
  have HVf22 := hidv (HVf21.out.below (hb22.mono (by omega)))
  have HVg22 := hidv (HVg21.out.below (hb22.mono (by omega)))
  have HW22 := hidv (HW21.out.below (hb22.mono (by omega)))
  have HG22 := hidv (HG21.out.below hb22)
  have HK22 := hidv (HK21.out.below hb22)
  clear hb22
  go_wp2_with fail
  refine (heldStrs_any _ _ _ 1 _ HG22.out.row (by omega) (by omega) (by omega)).mono ?_
  rintro e9 w23 ⟨rfl, hb23⟩
  have s23 := hb23.size
  have BL23 := hidv (below_on BL22.out hb23)
  have HVf23 := hidv (HVf22.out.below (hb23.mono (by omega)))
  have HVg23 := hidv (HVg22.out.below (hb23.mono (by omega)))
  have HW23 := hidv (HW22.out.below (hb23.mono (by omega)))
  have HG23 := hidv (HG22.out.below hb23)
  have HK23 := hidv (HK22.out.below hb23)
  clear hb23
  go_wp2_with fail
  go_ret
  exact ⟨rfl, BL23.out⟩

end Go.Proofs.Ytpjidcfdcpjafaa
