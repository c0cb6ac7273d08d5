/-
  The law on SystemText, walked.
-/
import Derived.Test.YtolhelogcekfbabSysT
namespace Go.Proofs.Ytolhelogcekfbab
open Go.RowKit Go
set_option linter.unusedVariables false

theorem sysText_both (es : List Eqn) (hx : es.length ≤ 1048576) (hs : ∀ e ∈ es, e.1.size ≤ maxLen ∧ e.2.size ≤ maxLen) : ∃ t : ByteArray,
    (∀ v B w, ERow w B v es → B ≤ w.heap.size → Calls Try.prog 20 #[v] w fun e w' => e = .returned (.string t) ∧ Below w.heap.size w w') ∧
    ∀ v B w, ERow w B v es → B ≤ w.heap.size → Calls Try.prog 19 #[v] w fun e w' => e = .returned (.string t) ∧ Below w.heap.size w w' := by
  cases h : sysB es
  · exact ⟨_, fun v B w hv hB => implText_bad v es B w hv hB hx hs h, fun v B w hv hB => specText_bad v es B w hv hB hx hs h⟩
  · exact ⟨_, fun v B w hv hB => implText_any v es B w hv hB hx hs h, fun v B w hv hB => specText_any v es B w hv hB hx hs h⟩

set_option maxHeartbeats 800000 in
theorem law_FnExactSystemText (v : Value) (es : List Eqn) (w : World) (hv : ERow w w.heap.size v es) (hx : es.length ≤ maxLen) (hs : ∀ e ∈ es, e.1.size ≤ maxLen ∧ e.2.size ≤ maxLen) :
    Calls Try.prog 4 #[v] w fun e w' => e = .returned (.bool true) ∧ Below w.heap.size w w' := by
  have HBO := hidv (fun h1 h2 => sysText_both es h1 h2)
  have HV := hidv hv
  have HX := hidv hx
  have HS := hidv hs
  clear hv hx hs
  go_enter Try.func4, Try.ntmps4
  go_wp2_with fail
  refine (szEqns_any v es w.heap.size _ (HV.out.below (Below.refl _ _)) (Nat.le_refl _) HX.out HS.out 1048576 (by omega) (by omega)).mono ?_
  rintro e w1 ⟨r, rfl, hr, hrm, hb1⟩
  have BL1 := hidv (hb1)
  clear hb1
  have HRR := hidv hr
  clear hr
  by_cases hr0 : r < 0
  · go_wp2_with fail
    go_ret
    exact ⟨rfl, BL1.out⟩
  have hxl : es.length ≤ 1048576 := by have := HRR.out (by omega); omega
  go_wp2_with fail
  refine (toEqns_any _ es w.heap.size _ (HV.out.below BL1.out) BL1.out.size hxl).mono ?_
  rintro e w2 ⟨uA, rfl, hA, hb2⟩
  have BL2 := hidv (below_on BL1.out hb2)
  have HA2 := hidv hA
  clear hb2 hA
  obtain ⟨t, h1, h2⟩ := HBO.out hxl HS.out
  have H1 := hidv h1
  have H2 := hidv h2
  clear h1 h2
  go_wp2_with fail
  refine (H2.out _ _ _ HA2.out.row (Nat.le_refl _)).mono ?_
  rintro e w3 ⟨rfl, hb3⟩
  have BL3 := hidv (below_on BL2.out hb3)
  have HA3 := hidv (HA2.out.below hb3)
  clear hb3
  go_wp2_with fail
  refine (toEqns_any _ es w.heap.size _ (HV.out.below BL3.out) BL3.out.size hxl).mono ?_
  rintro e w4 ⟨uB, rfl, hB, hb4⟩
  have BL4 := hidv (below_on BL3.out hb4)
  have HB4 := hidv hB
  clear hb4 hB
  go_wp2_with fail
  refine (H1.out _ _ _ HB4.out.row (Nat.le_refl _)).mono ?_
  rintro e w5 ⟨rfl, hb5⟩
  have BL5 := hidv (below_on BL4.out hb5)
  have HB5 := hidv (HB4.out.below hb5)
  clear hb5
  go_wp2_with fail
  refine (toEqns_any _ es w.heap.size _ (HV.out.below BL5.out) BL5.out.size hxl).mono ?_
  rintro e w6 ⟨uC, rfl, hC, hb6⟩
  have BL6 := hidv (below_on BL5.out hb6)
  have HB6 := hidv (HB5.out.below hb6)
  have HC6 := hidv hC
  clear hb6 hC
  go_wp2_with fail
  refine (eqEqns_same HB6.out.row HC6.out.row (Nat.le_refl _) (Nat.le_refl _) (by omega)).mono ?_
  rintro e w7 ⟨rfl, hb7⟩
  have BL7 := hidv (below_on BL6.out hb7)
  have HB7 := hidv (HB6.out.below hb7)
  have HC7 := hidv (HC6.out.below hb7)
  clear hb7
  go_wp2_with fail
  go_ret
  exact ⟨rfl, BL7.out⟩

end Go.Proofs.Ytolhelogcekfbab
