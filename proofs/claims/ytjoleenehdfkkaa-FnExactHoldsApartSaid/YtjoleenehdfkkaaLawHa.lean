/-
  The law on HoldsApart, walked.
-/
import Derived.Test.YtjoleenehdfkkaaHa
import Derived.Test.YtjoleenehdfkkaaStrA
namespace Go.Proofs.Ytjoleenehdfkkaa
open Go.RowKit Go
set_option linter.unusedVariables false

set_option maxHeartbeats 800000 in
theorem law_FnExactHoldsApart (v : Value) (es : List Eqn) (y : Value) (ys : List Eqn) (u : Value) (xs : List ByteArray) (w : World) (hv : ERow w w.heap.size v es) (hx : es.length ≤ maxLen) (hs : ∀ e ∈ es, e.1.size ≤ maxLen ∧ e.2.size ≤ maxLen) (hw : ERow w w.heap.size y ys) (hwx : ys.length ≤ maxLen) (hws : ∀ e ∈ ys, e.1.size ≤ maxLen ∧ e.2.size ≤ maxLen) (hu : Row w w.heap.size u (xs.map Value.string)) (hy : xs.length ≤ maxLen) (ht : ∀ s ∈ xs, s.size ≤ maxLen) :
    Calls Try.prog 4 #[v, y, u] w fun e w' => e = .returned (.bool true) ∧ Below w.heap.size w w' := by
  have HBO := hidv (fun h1 h2 h3 h4 h5 h6 => apart_both es ys xs h1 h2 h3 h4 h5 h6)
  have HU := hidv hu
  have HYU := hidv hy
  have HTU := hidv ht
  have HW := hidv hw
  have HY := hidv hwx
  have HT := hidv hws
  clear hu hy ht hw hwx hws
  have HV := hidv hv
  have HX := hidv hx
  have HS := hidv hs
  clear hv hx hs
  go_enter Try.func4, Try.ntmps4
  go_wp2_with fail
  refine (szEqns_any v es w.heap.size _ (HV.out.below (Below.refl _ _)) (Nat.le_refl _) HX.out HS.out 1048576 (by omega) (by omega)).mono ?_
  rintro e w1 ⟨r, rfl, hr, hrm, hb1⟩
  have BL1 := hidv (hb1)
  clear hb1
  have HRR := hidv hr
  clear hr
  by_cases hr0 : r < 0
  · go_wp2_with fail
    go_ret
    exact ⟨rfl, BL1.out⟩
  have hxl : es.length ≤ 1048576 := by have := HRR.out (by omega); omega
  go_wp2_with fail
  refine (szEqns_any y ys w.heap.size _ (HW.out.below BL1.out) BL1.out.size HY.out HT.out r (by omega) hrm).mono ?_
  rintro e w2 ⟨r2, rfl, hr2, hrm2, hb2⟩
  have BL2 := hidv (below_on BL1.out hb2)
  clear hb2
  have HRR2 := hidv hr2
  clear hr2
  by_cases hr02 : r2 < 0
  · go_wp2_with fail
    go_ret
    exact ⟨rfl, BL2.out⟩
  have hxl2 : ys.length ≤ 1048576 := by have := HRR2.out (by omega); omega
  go_wp2_with fail
  refine (szStrs_any u xs w.heap.size _ (HU.out.below BL2.out) HYU.out HTU.out r2 (by omega) (by omega)).mono ?_
  rintro e w' ⟨q, rfl, hq, rfl⟩
  have HQQ : Hid (SzOk xs.length r2 q) := hq
  clear hq
  by_cases hq0 : q < 0
  · go_wp2_with fail
    go_ret
    exact ⟨rfl, BL2.out⟩
  have hyl : xs.length ≤ 1048576 := by have := HQQ.out (by omega); omega
  go_wp2_with fail
  refine (toEqns_any _ es w.heap.size _ (HV.out.below BL2.out) BL2.out.size hxl).mono ?_
  rintro e w3 ⟨uA, rfl, hA, hb3⟩
  have BL3 := hidv (below_on BL2.out hb3)
  have HA3 := hidv hA
  clear hb3 hA
  go_wp2_with fail
  refine (toEqns_any _ ys w.heap.size _ (HW.out.below BL3.out) BL3.out.size hxl2).mono ?_
  rintro e w4 ⟨uB, rfl, hB, hb4⟩
  have BL4 := hidv (below_on BL3.out hb4)
  have HA4 := hidv (HA3.out.below hb4)
  have HB4 := hidv hB
  clear hb4 hB
  go_wp2_with fail
  refine (toStrs_any _ xs w.heap.size _ (HU.out.below BL4.out) BL4.out.size hyl).mono ?_
  rintro e w5 ⟨uC, rfl, hC, hb5⟩
  have BL5 := hidv (below_on BL4.out hb5)
  have HA5 := hidv (HA4.out.below hb5)
  have HB5 := hidv (HB4.out.below hb5)
  have HC5 := hidv hC
  clear hb5 hC
  obtain ⟨b, cc, h1, h2⟩ := HBO.out hxl HS.out hxl2 HT.out hyl HTU.out
  have H1 := hidv h1
  have H2 := hidv h2
  clear h1 h2
  go_wp2_with fail
  refine (H2.out _ _ _ _ _ _ _ HA5.out.row (Nat.le_refl _) HB5.out.row (Nat.le_refl _) HC5.out.row (Nat.le_refl _)).mono ?_
  rintro e w6 ⟨rfl, hb6⟩
  have BL6 := hidv (below_on BL5.out hb6)
  have HA6 := hidv (HA5.out.below hb6)
  have HB6 := hidv (HB5.out.below hb6)
  have HC6 := hidv (HC5.out.below hb6)
  clear hb6
  go_wp2_with fail
  refine (toEqns_any _ es w.heap.size _ (HV.out.below BL6.out) BL6.out.size hxl).mono ?_
  rintro e w7 ⟨uD, rfl, hD, hb7⟩
  have BL7 := hidv (below_on BL6.out hb7)
  have HD7 := hidv hD
  clear hb7 hD
  go_wp2_with fail
  refine (toEqns_any _ ys w.heap.size _ (HW.out.below BL7.out) BL7.out.size hxl2).mono ?_
  rintro e w8 ⟨uE, rfl, hE, hb8⟩
  have BL8 := hidv (below_on BL7.out hb8)
  have HD8 := hidv (HD7.out.below hb8)
  have HE8 := hidv hE
  clear hb8 hE
  go_wp2_with fail
  refine (toStrs_any _ xs w.heap.size _ (HU.out.below BL8.out) BL8.out.size hyl).mono ?_
  rintro e w9 ⟨uF, rfl, hF, hb9⟩
  have BL9 := hidv (below_on BL8.out hb9)
  have HD9 := hidv (HD8.out.below hb9)
  have HE9 := hidv (HE8.out.below hb9)
  have HF9 := hidv hF
  clear hb9 hF
  go_wp2_with fail
  refine (H1.out _ _ _ _ _ _ _ HD9.out.row (Nat.le_refl _) HE9.out.row (Nat.le_refl _) HF9.out.row (Nat.le_refl _)).mono ?_
  rintro e w10 ⟨rfl, hb10⟩
  have BL10 := hidv (below_on BL9.out hb10)
  have HD10 := hidv (HD9.out.below hb10)
  have HE10 := hidv (HE9.out.below hb10)
  have HF10 := hidv (HF9.out.below hb10)
  clear hb10
  go_wp2_with fail
  refine (toEqns_any _ es w.heap.size _ (HV.out.below BL10.out) BL10.out.size hxl).mono ?_
  rintro e w11 ⟨uG, rfl, hG, hb11⟩
  have BL11 := hidv (below_on BL10.out hb11)
  have HD11 := hidv (HD10.out.below hb11)
  have HE11 := hidv (HE10.out.below hb11)
  have HF11 := hidv (HF10.out.below hb11)
  have HG11 := hidv hG
  clear hb11 hG
  go_wp2_with fail
  refine (eqEqns_same HD11.out.row HG11.out.row (Nat.le_refl _) (Nat.le_refl _) (by omega)).mono ?_
  rintro e w12 ⟨rfl, hb12⟩
  have BL12 := hidv (below_on BL11.out hb12)
  have HD12 := hidv (HD11.out.below hb12)
  have HE12 := hidv (HE11.out.below hb12)
  have HF12 := hidv (HF11.out.below hb12)
  have HG12 := hidv (HG11.out.below hb12)
  clear hb12
  go_wp2_with fail
  refine (toEqns_any _ ys w.heap.size _ (HW.out.below BL12.out) BL12.out.size hxl2).mono ?_
  rintro e w13 ⟨uH, rfl, hH, hb13⟩
  have BL13 := hidv (below_on BL12.out hb13)
  have HD13 := hidv (HD12.out.below hb13)
  have HE13 := hidv (HE12.out.below hb13)
  have HF13 := hidv (HF12.out.below hb13)
  have HG13 := hidv (HG12.out.below hb13)
  have HH13 := hidv hH
  clear hb13 hH
  go_wp2_with fail
  refine (eqEqns_same HE13.out.row HH13.out.row (Nat.le_refl _) (Nat.le_refl _) (by omega)).mono ?_
  rintro e w14 ⟨rfl, hb14⟩
  have BL14 := hidv (below_on BL13.out hb14)
  have HD14 := hidv (HD13.out.below hb14)
  have HE14 := hidv (HE13.out.below hb14)
  have HF14 := hidv (HF13.out.below hb14)
  have HG14 := hidv (HG13.out.below hb14)
  have HH14 := hidv (HH13.out.below hb14)
  clear hb14
  go_wp2_with fail
  refine (toStrs_any _ xs w.heap.size _ (HU.out.below BL14.out) BL14.out.size hyl).mono ?_
  rintro e w15 ⟨uI, rfl, hI, hb15⟩
  have BL15 := hidv (below_on BL14.out hb15)
  have HD15 := hidv (HD14.out.below hb15)
  have HE15 := hidv (HE14.out.below hb15)
  have HF15 := hidv (HF14.out.below hb15)
  have HG15 := hidv (HG14.out.below hb15)
  have HH15 := hidv (HH14.out.below hb15)
  have HI15 := hidv hI
  clear hb15 hI
  go_wp2_with fail
  refine (eqStrs_same HF15.out.row HI15.out.row (by omega)).mono ?_
  rintro e w16 ⟨rfl, hb16⟩
  have BL16 := hidv (below_on BL15.out hb16)
  have HD16 := hidv (HD15.out.below hb16)
  have HE16 := hidv (HE15.out.below hb16)
  have HF16 := hidv (HF15.out.below hb16)
  have HG16 := hidv (HG15.out.below hb16)
  have HH16 := hidv (HH15.out.below hb16)
  have HI16 := hidv (HI15.out.below hb16)
  clear hb16
  go_wp2_with fail
  go_ret
  exact ⟨rfl, BL16.out⟩

end Go.Proofs.Ytjoleenehdfkkaa
