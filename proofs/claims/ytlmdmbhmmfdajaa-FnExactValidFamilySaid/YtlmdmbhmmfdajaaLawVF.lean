/-
  The law on ValidFamily, walked.
-/
import Derived.Test.YtlmdmbhmmfdajaaFo
import Derived.Test.YtlmdmbhmmfdajaaOpenF
import Derived.Deep.RegionHeld3
namespace Go.Proofs.Ytlmdmbhmmfdajaa
open Go.RowKit Go
set_option linter.unusedVariables false

set_option maxHeartbeats 1600000 in
theorem law_FnExactValidFamily (v : Value) (ps : List (List Pc)) (w : World) (hv : Fam w w.heap.size v ps) (hs : FamSz ps) :
    Calls Try.prog 3 #[v] w fun e w' => e = .returned (.bool true) ∧ Below w.heap.size w w' := by
  obtain ⟨d, hd⟩ := iffB (FamOk ps)
  have HD := hidv hd
  clear hd
  have HV := hidv hv
  have HS := hidv hs
  have hva : ∃ a, v = .agg #[a] := by obtain ⟨a, hvv, _⟩ := hv; exact ⟨a, hvv⟩
  clear hv hs
  obtain ⟨va, rfl⟩ := hva
  go_enter Try.func3, Try.ntmps3
  go_wp2_with fail
  obtain ⟨wS, hwS⟩ : ∃ W, (w).alloc (.cells #[va] 24) = W := ⟨_, rfl⟩
  have BL0 : Hid (Below w.heap.size w wS) := hidv (by rw [← hwS]; exact (Below.refl _ _).alloc (by simp) _)
  have Hx0 : Hid (Bx wS (w.heap.size) 24 #[va]) := hidv (by
    rw [← hwS]
    have h := Bx.new (w) 24 #[va]
    exact h)
  rw [hwS]
  have hwz : w.heap.size + 1 = wS.heap.size := by rw [← hwS]; simp
  have HV0 := hidv (HV.out.below BL0.out)
  clear hwS
  refine (szFam_any _ ps _ _ HV0.out (by omega) HS.out 1048576 (by omega) (by omega)).mono ?_
  rintro e9 w1 ⟨r, rfl, hr, hrm, hb1⟩
  have s1 := hb1.size
  have BL1 := hidv (below_on BL0.out hb1)
  have Hx1 := hidv (Hx0.out.below hb1)
  have HV1 := hidv (HV0.out.below (hb1.mono (by omega)))
  clear hb1
  have HRR := hidv hr
  clear hr
  by_cases hr0 : r < 0
  · go_wp2_with fail
    go_ret
    exact ⟨rfl, BL1.out⟩
  have hl1 : FamMax ps := by have h := HRR.out (by omega); exact ⟨by omega, h.2⟩
  have x0 := Hx1.out.one
  go_wp2_with fail
  refine (toFam_any _ ps _ _ HV1.out (by omega) hl1).mono ?_
  rintro e9 w2 ⟨uA, rfl, hA, hb2⟩
  obtain ⟨AA, Ac, huu⟩ := hA.form
  subst huu
  have s2 := hb2.size
  have BL2 := hidv (below_on BL1.out hb2)
  have Hx2 := hidv (Hx1.out.below hb2)
  have HV2 := hidv (HV1.out.below (hb2.mono (by omega)))
  have HA2 := hidv (hA)
  clear hb2 hA
  clear x0
  go_wp2_with fail
  refine (specVF_any _ ps _ _ HA2.out (by omega) HS.out d HD.out).mono ?_
  rintro e9 w3 ⟨rfl, hb3⟩
  have s3 := hb3.size
  have BL3 := hidv (below_on BL2.out hb3)
  have Hx3 := hidv (Hx2.out.below hb3)
  have HV3 := hidv (HV2.out.below (hb3.mono (by omega)))
  clear hb3
  have x0 := Hx3.out.one
  go_wp2_with fail
  refine (toFam_any _ ps _ _ HV3.out (by omega) hl1).mono ?_
  rintro e9 w4 ⟨uC, rfl, hC, hb4⟩
  obtain ⟨CA, Cc, huu⟩ := hC.form
  subst huu
  have s4 := hb4.size
  have BL4 := hidv (below_on BL3.out hb4)
  have Hx4 := hidv (Hx3.out.below hb4)
  have HV4 := hidv (HV3.out.below (hb4.mono (by omega)))
  have HC4 := hidv (hC)
  clear hb4 hC
  clear x0
  go_wp2_with fail
  obtain ⟨w5, hw5⟩ : ∃ W, w4.alloc (.cells #[.slice CA ps.length Cc] 29) = W := ⟨_, rfl⟩
  have hb5 : Below w4.heap.size w4 w5 := by rw [← hw5]; exact below_al (Below.refl _ _) _
  have Hc5 : Hid (Bx w5 w4.heap.size 29 #[.slice CA ps.length Cc]) := hidv (by rw [← hw5]; exact Bx.new _ _ _)
  rw [hw5]
  have s5 := hb5.size
  have BL5 := hidv (below_on BL4.out hb5)
  have Hx5 := hidv (Hx4.out.below hb5)
  have HV5 := hidv (HV4.out.below (hb5.mono (by omega)))
  have HC5 := hidv (HC4.out.below (hb5.mono (by omega)))
  clear hb5 hw5
  refine (implVF_any _ ps _ _ HC5.out (by omega) HS.out hl1 d HD.out).mono ?_
  rintro e9 w6 ⟨rfl, hb6⟩
  have s6 := hb6.size
  have BL6 := hidv (below_on BL5.out hb6)
  have Hx6 := hidv (Hx5.out.below hb6)
  have HV6 := hidv (HV5.out.below (hb6.mono (by omega)))
  have HC6 := hidv (HC5.out.below (hb6.mono (by omega)))
  have Hc6 := hidv (Hc5.out.below hb6)
  clear hb6
  have hSv := fun W (hW : Below w6.heap.size w6 W) => (show (W.cell? ⟨w.heap.size, 0, none⟩ = some (va) ∧ W.cell? ⟨w4.heap.size, 0, none⟩ = some (.slice CA ps.length Cc) ∧ Below w6.heap.size w6 W) from ⟨(Hx6.out.below hW).cell 0, (Hc6.out.below hW).cell 0, hW⟩)
  have HSSv := hidv hSv
  clear hSv
  have CTv := hidv (fun W (hW : Below w6.heap.size w6 W) => toFam_any _ ps _ W (HV6.out.below (hW.mono (by omega))) (by have := hW.size; omega) hl1)
  go_wp2_with fail
  have rfv : Below w6.heap.size w6 w6 := Below.refl _ _
  go_region_held3 (fun W => W.cell? ⟨w.heap.size, 0, none⟩ = some (va) ∧ W.cell? ⟨w4.heap.size, 0, none⟩ = some (.slice CA ps.length Cc) ∧ Below w6.heap.size w6 W) (exact HSSv.out _ (by repeat (first | with_reducible assumption | with_reducible exact Below.refl _ _ | with_reducible refine Below.drew ?_ | with_reducible refine below_al ?_ _))) (first | (go_at_call 11; refine (CTv.out _ (by repeat (first | with_reducible assumption | with_reducible exact Below.refl _ _ | with_reducible refine Below.drew ?_ | with_reducible refine below_al ?_ _))).mono ?_; rintro e9 w7 ⟨uEv, rfl, hEv, hbev⟩; have BLev := below_on (show Below w6.heap.size w6 _ from (by repeat (first | with_reducible assumption | with_reducible exact Below.refl _ _ | with_reducible refine Below.drew ?_ | with_reducible refine below_al ?_ _))) hbev; have zev := BLev.size; have hCv := HC6.out.below (BLev.mono (by omega))) | (go_at_call 13; refine (eqFam_same (hCv.more (by omega)) hEv hl1).mono ?_; rintro e9 w8 ⟨rfl, hbqv⟩; have BLqv := below_on BLev hbqv))
  have s8 := BLqv.size
  have BL8 := hidv (below_on BL6.out BLqv)
  have Hx8 := hidv (Hx6.out.below BLqv)
  have HV8 := hidv (HV6.out.below (BLqv.mono (by omega)))
  have HC8 := hidv (HC6.out.below (BLqv.mono (by omega)))
  have Hc8 := hidv (Hc6.out.below BLqv)
  clear BLqv
  go_wp2_with fail
  go_ret
  exact ⟨rfl, BL8.out⟩

end Go.Proofs.Ytlmdmbhmmfdajaa
