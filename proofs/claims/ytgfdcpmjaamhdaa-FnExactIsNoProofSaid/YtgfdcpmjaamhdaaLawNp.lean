/-
  The law on IsNoProof, walked.
-/
import Derived.Test.YtgfdcpmjaamhdaaNw
import Derived.Test.YtgfdcpmjaamhdaaCopy
import Derived.Test.YtgfdcpmjaamhdaaMem
namespace Go.Proofs.Ytgfdcpmjaamhdaa
open Go.RowKit Go
set_option linter.unusedVariables false

set_option maxHeartbeats 800000 in
theorem law_FnExactIsNoProof (v : Value) (es : List Eqn) (u : Value) (ys : List Int) (w : World) (hv : ERow w w.heap.size v es) (hx : es.length ≤ maxLen) (hs : ∀ e ∈ es, e.1.size ≤ maxLen ∧ e.2.size ≤ maxLen) (hu : Row w w.heap.size u (ys.map (Value.int .i64))) (hy : ys.length ≤ maxLen) :
    Calls Try.prog 3 #[v, u] w fun e w' => e = .returned (.bool true) ∧ Below w.heap.size w w' := by
  obtain ⟨d, c, hR⟩ := inR_ex es ys
  have HR := hidv hR
  clear hR
  have HU := hidv hu
  obtain ⟨Au, cu, hue, _⟩ := id hu
  rw [List.length_map] at hue
  subst hue
  unfold maxLen at hy
  clear hu
  have HV := hidv hv
  have HX := hidv hx
  have HS := hidv hs
  clear hv hx hs
  go_enter Try.func3, Try.ntmps3
  by_cases hbig : 1048576 < (ys.length : Int)
  · go_wp2_with fail
    go_ret
    exact ⟨rfl, Below.refl _ _⟩
  have hyl : ys.length ≤ 1048576 := by omega
  go_wp2_with fail
  refine (szEqns_any v es w.heap.size _ (HV.out.below (Below.refl _ _)) (Nat.le_refl _) HX.out HS.out 1048576 (by omega) (by omega)).mono ?_
  rintro e w1 ⟨r, rfl, hr, hrm, hb1⟩
  have BL1 := hidv (hb1)
  clear hb1
  have HRR := hidv hr
  clear hr
  by_cases hr0 : r < 0
  · go_wp2_with fail
    go_ret
    exact ⟨rfl, BL1.out⟩
  have hxl : es.length ≤ 1048576 := by have := HRR.out (by omega); omega
  go_wp2_with fail
  refine (toEqns_any _ es w.heap.size _ (HV.out.below BL1.out) BL1.out.size hxl).mono ?_
  rintro e w2 ⟨uA, rfl, hA, hb2⟩
  have BL2 := hidv (below_on BL1.out hb2)
  have HA2 := hidv hA
  clear hb2 hA
  go_wp2_with fail
  refine (toInts_any _ ys w.heap.size _ (HU.out.below BL2.out) BL2.out.size hyl).mono ?_
  rintro e w3 ⟨uC, rfl, hC, hb3⟩
  have BL3 := hidv (below_on BL2.out hb3)
  have HA3 := hidv (HA2.out.below hb3)
  have HC3 := hidv hC
  clear hb3 hC
  go_wp2_with fail
  refine (specNp_any _ _ es ys _ _ _ HA3.out.row (Nat.le_refl _) hxl HS.out HC3.out.row (Nat.le_refl _) hyl d c HR.out).mono ?_
  rintro e w4 ⟨rfl, hb4⟩
  have BL4 := hidv (below_on BL3.out hb4)
  have HA4 := hidv (HA3.out.below hb4)
  have HC4 := hidv (HC3.out.below hb4)
  clear hb4
  go_wp2_with fail
  refine (toEqns_any _ es w.heap.size _ (HV.out.below BL4.out) BL4.out.size hxl).mono ?_
  rintro e w5 ⟨uD, rfl, hD, hb5⟩
  have BL5 := hidv (below_on BL4.out hb5)
  have HD5 := hidv hD
  clear hb5 hD
  go_wp2_with fail
  refine (toInts_any _ ys w.heap.size _ (HU.out.below BL5.out) BL5.out.size hyl).mono ?_
  rintro e w6 ⟨uE, rfl, hE, hb6⟩
  have BL6 := hidv (below_on BL5.out hb6)
  have HD6 := hidv (HD5.out.below hb6)
  have HE6 := hidv hE
  clear hb6 hE
  go_wp2_with fail
  refine (implNp_any _ _ es ys _ _ _ HD6.out.row (Nat.le_refl _) hxl HS.out HE6.out.row (cap_own HE6.out) (Nat.le_refl _) hyl d c HR.out).mono ?_
  rintro e w7 ⟨rfl, hb7⟩
  have BL7 := hidv (below_on BL6.out hb7)
  have HD7 := hidv (HD6.out.below hb7)
  have HE7 := hidv (HE6.out.below hb7)
  clear hb7
  go_wp2_with fail
  refine (toEqns_any _ es w.heap.size _ (HV.out.below BL7.out) BL7.out.size hxl).mono ?_
  rintro e w8 ⟨uF, rfl, hF, hb8⟩
  have BL8 := hidv (below_on BL7.out hb8)
  have HD8 := hidv (HD7.out.below hb8)
  have HE8 := hidv (HE7.out.below hb8)
  have HF8 := hidv hF
  clear hb8 hF
  go_wp2_with fail
  refine (eqEqns_same HD8.out.row HF8.out.row (Nat.le_refl _) (Nat.le_refl _) (by omega)).mono ?_
  rintro e w9 ⟨rfl, hb9⟩
  have BL9 := hidv (below_on BL8.out hb9)
  have HD9 := hidv (HD8.out.below hb9)
  have HE9 := hidv (HE8.out.below hb9)
  have HF9 := hidv (HF8.out.below hb9)
  clear hb9
  go_wp2_with fail
  refine (toInts_any _ ys w.heap.size _ (HU.out.below BL9.out) BL9.out.size hyl).mono ?_
  rintro e w10 ⟨uG, rfl, hG, hb10⟩
  have BL10 := hidv (below_on BL9.out hb10)
  have HD10 := hidv (HD9.out.below hb10)
  have HE10 := hidv (HE9.out.below hb10)
  have HF10 := hidv (HF9.out.below hb10)
  have HG10 := hidv hG
  clear hb10 hG
  go_wp2_with fail
  refine (eqInts_same HE10.out.row HG10.out.row (by omega)).mono ?_
  rintro e w11 ⟨rfl, hb11⟩
  have BL11 := hidv (below_on BL10.out hb11)
  have HD11 := hidv (HD10.out.below hb11)
  have HE11 := hidv (HE10.out.below hb11)
  have HF11 := hidv (HF10.out.below hb11)
  have HG11 := hidv (HG10.out.below hb11)
  clear hb11
  go_wp2_with fail
  go_ret
  exact ⟨rfl, BL11.out⟩

end Go.Proofs.Ytgfdcpmjaamhdaa
