/-
  The law on FirstAllowed, walked.
-/
import Derived.Test.YtncjfafailefoaaFs
import Derived.Test.YtncjfafailefoaaFi
import Derived.Test.YtncjfafailefoaaOpenB
import Derived.Deep.RegionHeld3
namespace Go.Proofs.Ytncjfafailefoaa
open Go.RowKit Go
set_option linter.unusedVariables false

set_option maxHeartbeats 1600000 in
theorem law_FnExactFirstAllowed (v : Value) (e : Int) (xs ps : List (List Int)) (k : Int) (w : World) (hv : Bnd w w.heap.size v e xs ps) (hs : BndSz xs ps) (hk : (Lit.int .i64 k).wf = true) :
    Calls Try.prog 7 #[v, .int .i64 k] w fun e w' => e = .returned (.bool true) ∧ Below w.heap.size w w' := by
  obtain ⟨d, c, hR⟩ := firstR_ex e xs ps k
  have HR := hidv hR
  clear hR
  have HV := hidv hv
  have HS := hidv hs
  have hva : ∃ a b, v = .agg #[.int .i64 e, a, b] := by obtain ⟨a, b, hvv, _⟩ := hv; exact ⟨a, b, hvv⟩
  clear hv hs
  obtain ⟨va, vb, rfl⟩ := hva
  go_enter Try.func7, Try.ntmps7
  go_wp2_with fail
  obtain ⟨wS, hwS⟩ : ∃ W, (w).alloc (.cells #[.int .i64 e, va, vb] 24) = W := ⟨_, rfl⟩
  have BL0 : Hid (Below w.heap.size w wS) := hidv (by rw [← hwS]; exact (Below.refl _ _).alloc (by simp) _)
  have Hx0 : Hid (Bx wS (w.heap.size) 24 #[.int .i64 e, va, vb]) := hidv (by
    rw [← hwS]
    have h := Bx.new (w) 24 #[.int .i64 e, va, vb]
    exact h)
  rw [hwS]
  have hwz : w.heap.size + 1 = wS.heap.size := by rw [← hwS]; simp
  have HV0 := hidv (HV.out.below BL0.out)
  clear hwS
  refine (szBnd_any _ e xs ps _ _ HV0.out (by omega) HS.out 1048576 (by omega) (by omega)).mono ?_
  rintro e9 w1 ⟨r, rfl, hr, hrm, hb1⟩
  have s1 := hb1.size
  have BL1 := hidv (below_on BL0.out hb1)
  have Hx1 := hidv (Hx0.out.below hb1)
  have HV1 := hidv (HV0.out.below (hb1.mono (by omega)))
  clear hb1
  have HRR := hidv hr
  clear hr
  by_cases hr0 : r < 0
  · go_wp2_with fail
    go_ret
    exact ⟨rfl, BL1.out⟩
  have hl1 : RowsMax 1048576 xs ∧ RowsMax 1048576 ps := HRR.out (by omega)
  obtain ⟨x0, x1, x2⟩ := Hx1.out.three
  go_wp2_with fail
  refine (toBnd2_any _ e xs ps _ _ HV1.out (by omega) hl1.1 hl1.2).mono ?_
  rintro e9 w2 ⟨uA, rfl, hA, hb2⟩
  obtain ⟨AA, Ac, AP, Ad, huu⟩ := hA.form
  subst huu
  have s2 := hb2.size
  have BL2 := hidv (below_on BL1.out hb2)
  have Hx2 := hidv (Hx1.out.below hb2)
  have HV2 := hidv (HV1.out.below (hb2.mono (by omega)))
  have HA2 := hidv (hA)
  clear hb2 hA
  clear x0 x1 x2
  go_wp2_with fail
  refine (specFirst_any _ e xs ps _ k _ HA2.out (by omega) hl1.1.wide hl1.2.wide d c HR.out).mono ?_
  rintro e9 w3 ⟨rfl, hb3⟩
  have s3 := hb3.size
  have BL3 := hidv (below_on BL2.out hb3)
  have Hx3 := hidv (Hx2.out.below hb3)
  have HV3 := hidv (HV2.out.below (hb3.mono (by omega)))
  clear hb3
  obtain ⟨x0, x1, x2⟩ := Hx3.out.three
  go_wp2_with fail
  refine (toBnd2_any _ e xs ps _ _ HV3.out (by omega) hl1.1 hl1.2).mono ?_
  rintro e9 w4 ⟨uC, rfl, hC, hb4⟩
  obtain ⟨CA, Cc, CP, Cd, huu⟩ := hC.form
  subst huu
  have s4 := hb4.size
  have BL4 := hidv (below_on BL3.out hb4)
  have Hx4 := hidv (Hx3.out.below hb4)
  have HV4 := hidv (HV3.out.below (hb4.mono (by omega)))
  have HC4 := hidv (hC)
  clear hb4 hC
  clear x0 x1 x2
  go_wp2_with fail
  obtain ⟨w5, hw5⟩ : ∃ W, w4.alloc (.cells #[.int .i64 e, .slice CA xs.length Cc, .slice CP ps.length Cd] 27) = W := ⟨_, rfl⟩
  have hb5 : Below w4.heap.size w4 w5 := by rw [← hw5]; exact below_al (Below.refl _ _) _
  have Hc5 : Hid (Bx w5 w4.heap.size 27 #[.int .i64 e, .slice CA xs.length Cc, .slice CP ps.length Cd]) := hidv (by rw [← hw5]; exact Bx.new _ _ _)
  rw [hw5]
  have s5 := hb5.size
  have BL5 := hidv (below_on BL4.out hb5)
  have Hx5 := hidv (Hx4.out.below hb5)
  have HV5 := hidv (HV4.out.below (hb5.mono (by omega)))
  have HC5 := hidv (HC4.out.below (hb5.mono (by omega)))
  clear hb5 hw5
  refine (implFirst_any _ e xs ps _ k _ HC5.out (by omega) hl1.1.wide hl1.2.wide d c HR.out).mono ?_
  rintro e9 w6 ⟨rfl, hb6⟩
  have s6 := hb6.size
  have BL6 := hidv (below_on BL5.out hb6)
  have Hx6 := hidv (Hx5.out.below hb6)
  have HV6 := hidv (HV5.out.below (hb6.mono (by omega)))
  have HC6 := hidv (HC5.out.below (hb6.mono (by omega)))
  have Hc6 := hidv (Hc5.out.below hb6)
  clear hb6
  have hSv := fun W (hW : Below w6.heap.size w6 W) => (show (W.cell? ⟨w.heap.size, 0, none⟩ = some (.int .i64 e) ∧ W.cell? ⟨w.heap.size, 1, none⟩ = some (va) ∧ W.cell? ⟨w.heap.size, 2, none⟩ = some (vb) ∧ W.cell? ⟨w4.heap.size, 0, none⟩ = some (.int .i64 e) ∧ W.cell? ⟨w4.heap.size, 1, none⟩ = some (.slice CA xs.length Cc) ∧ W.cell? ⟨w4.heap.size, 2, none⟩ = some (.slice CP ps.length Cd) ∧ Below w6.heap.size w6 W) from ⟨(Hx6.out.below hW).cell 0, (Hx6.out.below hW).cell 1, (Hx6.out.below hW).cell 2, (Hc6.out.below hW).cell 0, (Hc6.out.below hW).cell 1, (Hc6.out.below hW).cell 2, hW⟩)
  have HSSv := hidv hSv
  clear hSv
  have CTv := hidv (fun W (hW : Below w6.heap.size w6 W) => toBnd2_any _ e xs ps _ W (HV6.out.below (hW.mono (by omega))) (by have := hW.size; omega) hl1.1 hl1.2)
  go_wp2_with fail
  have rfv : Below w6.heap.size w6 w6 := Below.refl _ _
  go_region_held3 (fun W => W.cell? ⟨w.heap.size, 0, none⟩ = some (.int .i64 e) ∧ W.cell? ⟨w.heap.size, 1, none⟩ = some (va) ∧ W.cell? ⟨w.heap.size, 2, none⟩ = some (vb) ∧ W.cell? ⟨w4.heap.size, 0, none⟩ = some (.int .i64 e) ∧ W.cell? ⟨w4.heap.size, 1, none⟩ = some (.slice CA xs.length Cc) ∧ W.cell? ⟨w4.heap.size, 2, none⟩ = some (.slice CP ps.length Cd) ∧ Below w6.heap.size w6 W) (exact HSSv.out _ (by repeat (first | with_reducible assumption | with_reducible exact Below.refl _ _ | with_reducible refine Below.drew ?_ | with_reducible refine below_al ?_ _))) (first | (go_at_call 11; refine (CTv.out _ (by repeat (first | with_reducible assumption | with_reducible exact Below.refl _ _ | with_reducible refine Below.drew ?_ | with_reducible refine below_al ?_ _))).mono ?_; rintro e9 w7 ⟨uEv, rfl, hEv, hbev⟩; have BLev := below_on (show Below w6.heap.size w6 _ from (by repeat (first | with_reducible assumption | with_reducible exact Below.refl _ _ | with_reducible refine Below.drew ?_ | with_reducible refine below_al ?_ _))) hbev; have zev := BLev.size; have hCv := HC6.out.below (BLev.mono (by omega))) | (go_at_call 13; refine (eqBnd_same hCv hEv (by omega) (Nat.le_refl _) hl1.1 hl1.2).mono ?_; rintro e9 w8 ⟨rfl, hbqv⟩; have BLqv := below_on BLev hbqv))
  have s8 := BLqv.size
  have BL8 := hidv (below_on BL6.out BLqv)
  have Hx8 := hidv (Hx6.out.below BLqv)
  have HV8 := hidv (HV6.out.below (BLqv.mono (by omega)))
  have HC8 := hidv (HC6.out.below (BLqv.mono (by omega)))
  have Hc8 := hidv (Hc6.out.below BLqv)
  clear BLqv
  go_wp2_with fail
  go_ret
  exact ⟨rfl, BL8.out⟩

end Go.Proofs.Ytncjfafailefoaa
