/-
  The law on ValidSystem, walked.
-/
import Derived.Test.YtolhelogcekfbaaEqS
namespace Go.Proofs.Ytolhelogcekfbaa
open Go.RowKit Go

theorem specValidSystem_any (v : Value) (es : List Eqn) (B : Nat) (w : World) (hv : ERow w B v es) (hB : B ≤ w.heap.size) (hx : es.length ≤ 1048576) (hs : ∀ e ∈ es, e.1.size ≤ maxLen ∧ e.2.size ≤ maxLen) :
    Calls Try.prog 57 #[v] w fun e w' => e = .returned (.bool (sysB es)) ∧ Below w.heap.size w w' := by
  have hm := specSys_any v es B w hv hB hx hs
  clear hv hs
  go_enter Try.func57, Try.ntmps57
  go_wp2_with fail
  refine hm.mono ?_
  rintro e w' ⟨rfl, hb⟩
  go_wp2_with fail
  go_ret
  exact ⟨rfl, hb⟩

set_option maxHeartbeats 800000 in
theorem law_FnExactValidSystem (v : Value) (es : List Eqn) (w : World) (hv : ERow w w.heap.size v es) (hx : es.length ≤ maxLen) (hs : ∀ e ∈ es, e.1.size ≤ maxLen ∧ e.2.size ≤ maxLen) :
    Calls Try.prog 11 #[v] w fun e w' => e = .returned (.bool true) ∧ Below w.heap.size w w' := by
  have HSZ := hidv (szEqns_any v es w.heap.size w hv (Nat.le_refl _) hx hs 1048576 (by omega) (by omega))
  have HV := hidv hv
  have HS := hidv hs
  obtain ⟨b, hb⟩ : ∃ b, sysB es = b := ⟨_, rfl⟩
  have HB := hidv hb
  clear hv hx hs hb
  go_enter Try.func11, Try.ntmps11
  go_wp2_with fail
  refine HSZ.out.mono ?_
  rintro e w0 ⟨r, rfl, hr, _, hb0⟩
  have HRR := hidv hr
  have B0 := hidv hb0
  clear hr hb0
  by_cases hr0 : r < 0
  · go_wp2_with fail
    go_ret
    exact ⟨rfl, B0.out⟩
  have hxl : es.length ≤ 1048576 := by have := HRR.out (by omega); omega
  go_wp2_with fail
  refine (toEqns_any _ es w.heap.size _ (HV.out.below B0.out) B0.out.size hxl).mono ?_
  rintro e wa ⟨ua, rfl, hua, hba⟩
  have HUA := hidv hua
  have BA := hidv (below_on B0.out hba)
  clear hua hba
  go_wp2_with fail
  have c1 := specValidSystem_any _ es _ wa HUA.out.row (Nat.le_refl _) hxl HS.out
  rw [HB.out] at c1
  refine c1.mono ?_
  rintro e w1 ⟨rfl, hb1⟩
  have B1 := hidv (below_on BA.out hb1)
  clear c1 hb1
  go_wp2_with fail
  refine (toEqns_any _ es w.heap.size _ (HV.out.below B1.out) B1.out.size hxl).mono ?_
  rintro e wb ⟨ub, rfl, hub, hbb⟩
  have HUB := hidv hub
  have BB := hidv (below_on B1.out hbb)
  clear hub hbb
  go_wp2_with fail
  have c2 := implSys_any _ es _ wb HUB.out.row (Nat.le_refl _) hxl HS.out
  rw [HB.out] at c2
  refine c2.mono ?_
  rintro e w2 ⟨rfl, hb2⟩
  have HUB2 := hidv (HUB.out.below hb2)
  have B2 := hidv (below_on BB.out hb2)
  clear c2 hb2
  go_wp2_with fail
  refine (toEqns_any _ es w.heap.size _ (HV.out.below B2.out) B2.out.size hxl).mono ?_
  rintro e wc ⟨uc, rfl, huc, hbc⟩
  have HUC := hidv huc
  have HUB3 := hidv (HUB2.out.below hbc)
  have BC := hidv (below_on B2.out hbc)
  clear huc hbc
  go_wp2_with fail
  refine (eqEqns_same HUB3.out.row HUC.out.row (Nat.le_refl _) (Nat.le_refl _) (by omega)).mono ?_
  rintro e wd ⟨rfl, hbd⟩
  have BD := hidv (below_on BC.out hbd)
  clear hbd
  go_wp2_with fail
  go_ret
  exact ⟨rfl, BD.out⟩

end Go.Proofs.Ytolhelogcekfbaa
