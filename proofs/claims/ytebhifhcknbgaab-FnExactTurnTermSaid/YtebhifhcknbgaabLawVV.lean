/-
  The law on ValidValues, walked.
-/
import Derived.Test.YtebhifhcknbgaabWalkVV
namespace Go.Proofs.Ytebhifhcknbgaab
open Go.RowKit Go

theorem specValidValues_any (v : Value) (xs : List ByteArray) (B : Nat) (w : World) (hv : Row w B v (xs.map Value.string)) (hx : xs.length ≤ 1048576) (hs : ∀ s ∈ xs, s.size ≤ maxLen) :
    Calls Try.prog 21 #[v] w fun e w' => e = .returned (.bool (valsB xs)) ∧ w = w' := by
  have hm := specVals_any v xs B w hv hx hs
  clear hv hs
  go_enter Try.func21, Try.ntmps21
  go_wp2_with (go_at_call 50; refine hm.mono ?_; rintro e w' ⟨rfl, rfl⟩)
  go_ret
  exact ⟨rfl, rfl⟩

set_option maxHeartbeats 800000 in
theorem law_FnExactValidValues (v : Value) (xs : List ByteArray) (w : World) (hv : Row w w.heap.size v (xs.map Value.string)) (hx : xs.length ≤ maxLen) (hs : ∀ s ∈ xs, s.size ≤ maxLen) :
    Calls Try.prog 5 #[v] w fun e w' => e = .returned (.bool true) ∧ Below w.heap.size w w' := by
  have hsz := szStrs_any v xs w.heap.size w hv hx hs 1048576 (by omega) (by omega)
  have HSZ := hidv hsz
  have HV := hidv hv
  have HS := hidv hs
  obtain ⟨b, hb⟩ : ∃ b, valsB xs = b := ⟨_, rfl⟩
  have HB := hidv hb
  clear hv hx hs hsz hb
  go_enter Try.func5, Try.ntmps5
  go_wp2_with fail
  refine HSZ.out.mono ?_
  rintro e w' ⟨r, rfl, hr, rfl⟩
  have HRR : Hid (SzOk xs.length 1048576 r) := hr
  clear hr
  by_cases hr0 : r < 0
  · go_wp2_with fail
    go_ret
    exact ⟨rfl, Below.refl _ _⟩
  · have hxl : xs.length ≤ 1048576 := by have := HRR.out (by omega); omega
    go_wp2_with fail
    refine (toStrs_any _ xs w.heap.size w HV.out (Nat.le_refl _) hxl).mono ?_
    rintro e wa ⟨ua, rfl, hua, hba⟩
    have HUA := hidv hua
    have HBA := hidv hba
    have sa := hba.size
    clear hua hba
    go_wp2_with fail
    have c1 := specValidValues_any _ xs _ wa HUA.out.row hxl HS.out
    rw [HB.out] at c1
    refine c1.mono ?_
    rintro e w' ⟨rfl, rfl⟩
    clear c1
    go_wp2_with fail
    refine (toStrs_any _ xs w.heap.size wa (HV.out.below HBA.out) (by omega) hxl).mono ?_
    rintro e wb ⟨ub, rfl, hub, hbb⟩
    have HUB := hidv hub
    have HBB := hidv hbb
    have sb := hbb.size
    clear hub hbb
    go_wp2_with fail
    have c2 := implVals_any _ xs _ wb HUB.out.row hxl HS.out
    rw [HB.out] at c2
    refine c2.mono ?_
    rintro e w' ⟨rfl, rfl⟩
    clear c2
    go_wp2_with fail
    refine (toStrs_any _ xs w.heap.size wb ((HV.out.below HBA.out).below (HBB.out.mono sa)) (by omega) hxl).mono ?_
    rintro e wc ⟨uc, rfl, huc, hbc⟩
    have HUC := hidv huc
    have HBC := hidv hbc
    have sc := hbc.size
    clear huc hbc
    go_wp2_with fail
    refine (eqStrs_same (HUB.out.row.below HBC.out) HUC.out.row (by omega)).mono ?_
    rintro e wd ⟨rfl, hbd⟩
    go_wp2_with fail
    go_ret
    exact ⟨rfl, ((HBA.out.trans (HBB.out.mono (by omega))).trans (HBC.out.mono (by omega))).trans (hbd.mono (by omega))⟩

end Go.Proofs.Ytebhifhcknbgaab
