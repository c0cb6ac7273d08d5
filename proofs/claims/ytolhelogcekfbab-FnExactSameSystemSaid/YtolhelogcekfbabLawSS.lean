/-
  The law on SameSystem, walked.
-/
import Derived.Test.YtolhelogcekfbabSameS
namespace Go.Proofs.Ytolhelogcekfbab
open Go.RowKit Go
set_option linter.unusedVariables false

theorem specSameD_any (v u : Value) (xs ys : List Eqn) (B C : Nat) (w : World) (hv : ERow w B v xs) (hu : ERow w C u ys) (hx : xs.length ≤ 1048576) (hy : ys.length ≤ 1048576) (d : Bool) (hd : decide (xs = ys) = d) :
    Calls Try.prog 15 #[v, u] w fun e w' => e = .returned (.bool d) ∧ Below w.heap.size w w' := by
  have := specSame_any v u xs ys B C w hv hu hx hy
  rw [hd] at this
  exact this
theorem implSame_any (v u : Value) (xs ys : List Eqn) (B C : Nat) (w : World) (hv : ERow w B v xs) (hu : ERow w C u ys) (hx : xs.length ≤ 1048576) (hy : ys.length ≤ 1048576) (d : Bool) (hd : decide (xs = ys) = d) :
    Calls Try.prog 17 #[v, u] w fun e w' => e = .returned (.bool d) ∧ Below w.heap.size w w' := by
  have h := slicesEqual_any v u xs ys B C w hv hu hx hy
  rw [hd] at h
  have H := hidv h
  clear h hd hv hu
  go_enter Try.func17, Try.ntmps17
  go_wp2_with fail
  refine H.out.mono ?_
  rintro e w1 ⟨rfl, hb⟩
  go_wp2_with fail
  go_ret
  exact ⟨rfl, hb⟩

set_option maxHeartbeats 800000 in
theorem law_FnExactSameSystem (v : Value) (es : List Eqn) (u : Value) (fs : List Eqn) (w : World) (hv : ERow w w.heap.size v es) (hx : es.length ≤ maxLen) (hs : ∀ e ∈ es, e.1.size ≤ maxLen ∧ e.2.size ≤ maxLen) (hu : ERow w w.heap.size u fs) (hy : fs.length ≤ maxLen) (ht : ∀ e ∈ fs, e.1.size ≤ maxLen ∧ e.2.size ≤ maxLen) :
    Calls Try.prog 3 #[v, u] w fun e w' => e = .returned (.bool true) ∧ Below w.heap.size w w' := by
  have HV := hidv hv
  have HX := hidv hx
  have HS := hidv hs
  have HU := hidv hu
  have HY := hidv hy
  have HT := hidv ht
  obtain ⟨d, hd⟩ : ∃ d, decide (es = fs) = d := ⟨_, rfl⟩
  have HD := hidv hd
  clear hv hx hs hu hy ht hd
  go_enter Try.func3, Try.ntmps3
  go_wp2_with fail
  refine (szEqns_any v es w.heap.size _ (HV.out.below (Below.refl _ _)) (Nat.le_refl _) HX.out HS.out 1048576 (by omega) (by omega)).mono ?_
  rintro e w1 ⟨r, rfl, hr, hrm, hb1⟩
  have BL1 := hidv (hb1)
  clear hb1
  have HRR := hidv hr
  clear hr
  by_cases hr0 : r < 0
  · go_wp2_with fail
    go_ret
    exact ⟨rfl, BL1.out⟩
  have hxl : es.length ≤ 1048576 := by have := HRR.out (by omega); omega
  go_wp2_with fail
  refine (szEqns_any u fs w.heap.size _ (HU.out.below BL1.out) BL1.out.size HY.out HT.out r (by omega) hrm).mono ?_
  rintro e w2 ⟨q, rfl, hq, hqm, hb2⟩
  have BL2 := hidv (below_on BL1.out hb2)
  clear hb2
  have HQQ := hidv hq
  clear hq
  by_cases hq0 : q < 0
  · go_wp2_with fail
    go_ret
    exact ⟨rfl, BL2.out⟩
  have hyl : fs.length ≤ 1048576 := by have := HQQ.out (by omega); omega
  go_wp2_with fail
  refine (toEqns_any _ es w.heap.size _ (HV.out.below BL2.out) BL2.out.size hxl).mono ?_
  rintro e w3 ⟨uA, rfl, hA, hb3⟩
  have BL3 := hidv (below_on BL2.out hb3)
  have HA3 := hidv hA
  clear hb3 hA
  go_wp2_with fail
  refine (toEqns_any _ fs w.heap.size _ (HU.out.below BL3.out) BL3.out.size hyl).mono ?_
  rintro e w4 ⟨uB, rfl, hB, hb4⟩
  have BL4 := hidv (below_on BL3.out hb4)
  have HA4 := hidv (HA3.out.below hb4)
  have HB4 := hidv hB
  clear hb4 hB
  go_wp2_with fail
  refine (specSameD_any _ _ es fs _ _ _ HA4.out.row HB4.out.row hxl hyl _ HD.out).mono ?_
  rintro e w5 ⟨rfl, hb5⟩
  have BL5 := hidv (below_on BL4.out hb5)
  have HA5 := hidv (HA4.out.below hb5)
  have HB5 := hidv (HB4.out.below hb5)
  clear hb5
  go_wp2_with fail
  refine (toEqns_any _ es w.heap.size _ (HV.out.below BL5.out) BL5.out.size hxl).mono ?_
  rintro e w6 ⟨uC, rfl, hC, hb6⟩
  have BL6 := hidv (below_on BL5.out hb6)
  have HC6 := hidv hC
  clear hb6 hC
  go_wp2_with fail
  refine (toEqns_any _ fs w.heap.size _ (HU.out.below BL6.out) BL6.out.size hyl).mono ?_
  rintro e w7 ⟨uD, rfl, hD, hb7⟩
  have BL7 := hidv (below_on BL6.out hb7)
  have HC7 := hidv (HC6.out.below hb7)
  have HD7 := hidv hD
  clear hb7 hD
  go_wp2_with fail
  refine (implSame_any _ _ es fs _ _ _ HC7.out.row HD7.out.row hxl hyl _ HD.out).mono ?_
  rintro e w8 ⟨rfl, hb8⟩
  have BL8 := hidv (below_on BL7.out hb8)
  have HC8 := hidv (HC7.out.below hb8)
  have HD8 := hidv (HD7.out.below hb8)
  clear hb8
  go_wp2_with fail
  refine (toEqns_any _ es w.heap.size _ (HV.out.below BL8.out) BL8.out.size hxl).mono ?_
  rintro e w9 ⟨uE, rfl, hE, hb9⟩
  have BL9 := hidv (below_on BL8.out hb9)
  have HC9 := hidv (HC8.out.below hb9)
  have HD9 := hidv (HD8.out.below hb9)
  have HE9 := hidv hE
  clear hb9 hE
  go_wp2_with fail
  refine (eqEqns_same HC9.out.row HE9.out.row (Nat.le_refl _) (Nat.le_refl _) (by omega)).mono ?_
  rintro e w10 ⟨rfl, hb10⟩
  have BL10 := hidv (below_on BL9.out hb10)
  have HC10 := hidv (HC9.out.below hb10)
  have HD10 := hidv (HD9.out.below hb10)
  have HE10 := hidv (HE9.out.below hb10)
  clear hb10
  go_wp2_with fail
  refine (toEqns_any _ fs w.heap.size _ (HU.out.below BL10.out) BL10.out.size hyl).mono ?_
  rintro e w11 ⟨uF, rfl, hF, hb11⟩
  have BL11 := hidv (below_on BL10.out hb11)
  have HC11 := hidv (HC10.out.below hb11)
  have HD11 := hidv (HD10.out.below hb11)
  have HF11 := hidv hF
  clear hb11 hF
  go_wp2_with fail
  refine (eqEqns_same HD11.out.row HF11.out.row (Nat.le_refl _) (Nat.le_refl _) (by omega)).mono ?_
  rintro e w12 ⟨rfl, hb12⟩
  have BL12 := hidv (below_on BL11.out hb12)
  have HC12 := hidv (HC11.out.below hb12)
  have HD12 := hidv (HD11.out.below hb12)
  have HF12 := hidv (HF11.out.below hb12)
  clear hb12
  go_wp2_with fail
  go_ret
  exact ⟨rfl, BL12.out⟩

end Go.Proofs.Ytolhelogcekfbab
