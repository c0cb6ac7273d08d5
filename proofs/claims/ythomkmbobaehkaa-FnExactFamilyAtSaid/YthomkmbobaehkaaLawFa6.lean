/-
  The law on FamilyAt, walked.
-/
import Derived.Test.YthomkmbobaehkaaFa6
import Derived.Test.YthomkmbobaehkaaStrA
import Derived.Test.YthomkmbobaehkaaMS
import Derived.Test.YthomkmbobaehkaaQC
import Derived.Test.YthomkmbobaehkaaOpenF
import Derived.Deep.RegionHeld3
namespace Go.Proofs.Ythomkmbobaehkaa
open Go.RowKit Go
set_option linter.unusedVariables false

set_option maxHeartbeats 3200000 in
theorem law_FnExactFamilyAt (v : Value) (ps : List (List Pc)) (k : Int) (w : World) (hv : Fam w w.heap.size v ps) (hs : FamSz ps) (_ : (Lit.int .i64 k).wf = true) :
    Calls Try.prog 5 #[v, .int .i64 k] w fun e w' => e = .returned (.bool true) ∧ Below w.heap.size w w' := by
  obtain ⟨L, c, hR, hLl, hLs⟩ := faR_ex ps k
  have hLm : ∀ s ∈ L, s.size ≤ maxLen := fun s hs => by have := hLs s hs; unfold maxLen; omega
  have HR := hidv hR
  clear hR
  have HV := hidv hv
  have HS := hidv hs
  have hva : ∃ a, v = .agg #[a] := by obtain ⟨a, hvv, _⟩ := hv; exact ⟨a, hvv⟩
  clear hv hs
  obtain ⟨va, rfl⟩ := hva
  go_enter Try.func5, Try.ntmps5
  go_wp2_with fail
  obtain ⟨wS, hwS⟩ : ∃ W, (w).alloc (.cells #[va] 42) = W := ⟨_, rfl⟩
  have BL0 : Hid (Below w.heap.size w wS) := hidv (by rw [← hwS]; exact (Below.refl _ _).alloc (by simp) _)
  have Hx0 : Hid (Bx wS (w.heap.size) 42 #[va]) := hidv (by
    rw [← hwS]
    have h := Bx.new (w) 42 #[va]
    exact h)
  rw [hwS]
  have hwz : w.heap.size + 1 = wS.heap.size := by rw [← hwS]; simp
  have HV0 := hidv (HV.out.below BL0.out)
  clear hwS
  refine (szFam_any _ ps _ _ HV0.out (by omega) HS.out 1048576 (by omega) (by omega)).mono ?_
  rintro e9 w1 ⟨r, rfl, hr, hrm, hb1⟩
  have s1 := hb1.size
  have BL1 := hidv (below_on BL0.out hb1)
  have Hx1 := hidv (Hx0.out.below hb1)
  have HV1 := hidv (HV0.out.below (hb1.mono (by omega)))
  clear hb1
  have HRR := hidv hr
  clear hr
  by_cases hr0 : r < 0
  · go_wp2_with fail
    go_ret
    exact ⟨rfl, BL1.out⟩
  have hl0 : ps.length + qTot ps ≤ 1048576 := by have h := HRR.out (by omega); omega
  have hl1 : FamMax ps := famMax_of hl0
  have x0 := Hx1.out.one
  go_wp2_with fail
  refine (toFam_any _ ps _ _ HV1.out (by omega) hl1).mono ?_
  rintro e9 w2 ⟨uA, rfl, hA, hb2⟩
  obtain ⟨AA, Ac, huu⟩ := hA.form
  subst huu
  have s2 := hb2.size
  have BL2 := hidv (below_on BL1.out hb2)
  have Hx2 := hidv (Hx1.out.below hb2)
  have HV2 := hidv (HV1.out.below (hb2.mono (by omega)))
  have HA2 := hidv (hA)
  clear hb2 hA
  clear x0
  go_wp2_with fail
  refine (specFa_any _ ps _ k _ HA2.out (by omega) HS.out L c HR.out).mono ?_
  rintro e9 w3 ⟨uW, rfl, hW, hb3⟩
  obtain ⟨WA, Wc, huu, _⟩ := hW.row
  rw [List.length_map] at huu
  subst huu
  have s3 := hb3.size
  have BL3 := hidv (below_on BL2.out hb3)
  have Hx3 := hidv (Hx2.out.below hb3)
  have HV3 := hidv (HV2.out.below (hb3.mono (by omega)))
  have HW3 := hidv (hW.row)
  clear hb3
  have x0 := Hx3.out.one
  go_wp2_with fail
  refine (toFam3_any _ ps _ _ HV3.out (by omega) hl1).mono ?_
  rintro e9 w4 ⟨uC, rfl, hC, hb4⟩
  obtain ⟨CA, Cc, huu⟩ := hC.row.form
  subst huu
  have s4 := hb4.size
  have BL4 := hidv (below_on BL3.out hb4)
  have Hx4 := hidv (Hx3.out.below hb4)
  have HV4 := hidv (HV3.out.below (hb4.mono (by omega)))
  have HW4 := hidv (HW3.out.below (hb4.mono (by omega)))
  have HC4 := hidv (hC.row)
  have HCB4 := hidv (hC)
  clear hb4 hC
  clear x0
  go_wp2_with fail
  obtain ⟨w5, hw5⟩ : ∃ W, w4.alloc (.cells #[.slice CA ps.length Cc] 48) = W := ⟨_, rfl⟩
  have hb5 : Below w4.heap.size w4 w5 := by rw [← hw5]; exact below_al (Below.refl _ _) _
  have Hc5 : Hid (Bx w5 w4.heap.size 48 #[.slice CA ps.length Cc]) := hidv (by rw [← hw5]; exact Bx.new _ _ _)
  rw [hw5]
  have s5 := hb5.size
  have BL5 := hidv (below_on BL4.out hb5)
  have Hx5 := hidv (Hx4.out.below hb5)
  have HV5 := hidv (HV4.out.below (hb5.mono (by omega)))
  have HW5 := hidv (HW4.out.below (hb5.mono (by omega)))
  have HC5 := hidv (HC4.out.below (hb5.mono (by omega)))
  have HCB5 := hidv (HCB4.out.below hb5)
  clear hb5 hw5
  refine (implFa_any _ ps _ k _ HC5.out (by omega) HS.out hl1 L c HR.out).mono ?_
  rintro e9 w6 ⟨uG, rfl, hG, hb6⟩
  obtain ⟨GA, Gc, huu, _⟩ := hG.row
  rw [List.length_map] at huu
  subst huu
  have s6 := hb6.size
  have BL6 := hidv (below_on BL5.out hb6)
  have Hx6 := hidv (Hx5.out.below hb6)
  have HV6 := hidv (HV5.out.below (hb6.mono (by omega)))
  have HW6 := hidv (HW5.out.below (hb6.mono (by omega)))
  have HC6 := hidv (HC5.out.below (hb6.mono (by omega)))
  have HCB6 := hidv (HCB5.out.below hb6)
  have Hc6 := hidv (Hc5.out.below hb6)
  have HG6 := hidv (hG)
  clear hb6 hG
  go_wp2_with fail
  refine (eqStrs_same HG6.out.row HW6.out (by omega)).mono ?_
  rintro e9 w7 ⟨rfl, hb7⟩
  have s7 := hb7.size
  have BL7 := hidv (below_on BL6.out hb7)
  have Hx7 := hidv (Hx6.out.below hb7)
  have HV7 := hidv (HV6.out.below (hb7.mono (by omega)))
  have HW7 := hidv (HW6.out.below (hb7.mono (by omega)))
  have HC7 := hidv (HC6.out.below (hb7.mono (by omega)))
  have HCB7 := hidv (HCB6.out.below hb7)
  have Hc7 := hidv (Hc6.out.below hb7)
  have HG7 := hidv (HG6.out.below hb7)
  clear hb7
  have hSv := fun W (hW : Below w7.heap.size w7 W) => (show (W.cell? ⟨w.heap.size, 0, none⟩ = some (va) ∧ W.cell? ⟨w4.heap.size, 0, none⟩ = some (.slice CA ps.length Cc) ∧ Below w7.heap.size w7 W) from ⟨(Hx7.out.below hW).cell 0, (Hc7.out.below hW).cell 0, hW⟩)
  have HSSv := hidv hSv
  clear hSv
  have CTv := hidv (fun W (hW : Below w7.heap.size w7 W) => toFam_any _ ps _ W (HV7.out.below (hW.mono (by omega))) (by have := hW.size; omega) hl1)
  go_wp2_with fail
  have rfv : Below w7.heap.size w7 w7 := Below.refl _ _
  go_region_held3 (fun W => W.cell? ⟨w.heap.size, 0, none⟩ = some (va) ∧ W.cell? ⟨w4.heap.size, 0, none⟩ = some (.slice CA ps.length Cc) ∧ Below w7.heap.size w7 W) (exact HSSv.out _ (by repeat (first | with_reducible assumption | with_reducible exact Below.refl _ _ | with_reducible refine Below.drew ?_ | with_reducible refine below_al ?_ _))) (first | (go_at_call 23; refine (CTv.out _ (by repeat (first | with_reducible assumption | with_reducible exact Below.refl _ _ | with_reducible refine Below.drew ?_ | with_reducible refine below_al ?_ _))).mono ?_; rintro e9 w8 ⟨uEv, rfl, hEv, hbev⟩; have BLev := below_on (show Below w7.heap.size w7 _ from (by repeat (first | with_reducible assumption | with_reducible exact Below.refl _ _ | with_reducible refine Below.drew ?_ | with_reducible refine below_al ?_ _))) hbev; have zev := BLev.size; have hCv := HC7.out.below (BLev.mono (by omega))) | (go_at_call 25; refine (eqFam_same (hCv.more (by omega)) hEv hl1).mono ?_; rintro e9 w9 ⟨rfl, hbqv⟩; have BLqv := below_on BLev hbqv))
  have s9 := BLqv.size
  have BL9 := hidv (below_on BL7.out BLqv)
  have Hx9 := hidv (Hx7.out.below BLqv)
  have HV9 := hidv (HV7.out.below (BLqv.mono (by omega)))
  have HW9 := hidv (HW7.out.below (BLqv.mono (by omega)))
  have HC9 := hidv (HC7.out.below (BLqv.mono (by omega)))
  have HCB9 := hidv (HCB7.out.below BLqv)
  have Hc9 := hidv (Hc7.out.below BLqv)
  have HG9 := hidv (HG7.out.below BLqv)
  clear BLqv
  have c0 := Hc9.out.one
  go_wp2_with fail
  refine (markFam_any _ ps _ _ HCB9.out (by omega) hl0).mono ?_
  rintro e9 w10 ⟨rfl, _, hbm, hkm⟩
  have s10 := hbm.size
  have BL10 := hidv (BL9.out.trans (hbm.mono (by omega)))
  have Hx10 := hidv (hkm.1 _ _ _ (by decide) Hx9.out)
  have HV10 := hidv (HV9.out.below (hbm.mono (by omega)))
  have HW10 := hidv (HW9.out.below (hbm.mono (by omega)))
  have HG10 : Hid (Strs w10 _ _ _) := hidv (hkm.2 _ _ _ _ _ _ (by decide) HG9.out)
  clear hbm hkm c0
  go_wp2_with fail
  refine (eqStrs_same HG10.out.row HW10.out (by omega)).mono ?_
  rintro e9 w11 ⟨rfl, hb11⟩
  have s11 := hb11.size
  have BL11 := hidv (below_on BL10.out hb11)
  have Hx11 := hidv (Hx10.out.below hb11)
  have HV11 := hidv (HV10.out.below (hb11.mono (by omega)))
  have HW11 := hidv (HW10.out.below (hb11.mono (by omega)))
  have HG11 := hidv (HG10.out.below hb11)
  clear hb11
  go_wp2_with fail
  refine (markStrs_any _ _ _ 1 _ HG11.out (by omega) (by omega)).mono ?_
  rintro e9 w12 ⟨rfl, hvm, hgm⟩
  have hbm := below_grown hgm (show _ ≤ w11.heap.size by omega) (fun k hk => (World.ownsRow.lt (show w11.ownsRow _ _ _ _ _ _ from HG11.out) k hk).1)
  have s12 := hbm.size
  have BL12 := hidv (BL11.out.trans (hbm.mono (by omega)))
  have Hx12 := hidv (Hx11.out.belowB hbm (by omega))
  have HV12 := hidv (HV11.out.below (hbm.mono (by omega)))
  have HW12 := hidv (HW11.out.below (hbm.mono (by omega)))
  have HG12 := hidv hvm
  clear hbm hvm
  go_wp2_with fail
  refine (heldStrs_any _ _ _ 1 _ HG12.out.row (by omega) (by omega) (by omega)).mono ?_
  rintro e9 w13 ⟨rfl, hb13⟩
  have s13 := hb13.size
  have BL13 := hidv (below_on BL12.out hb13)
  have Hx13 := hidv (Hx12.out.below hb13)
  have HV13 := hidv (HV12.out.below (hb13.mono (by omega)))
  have HW13 := hidv (HW12.out.below (hb13.mono (by omega)))
  have HG13 := hidv (HG12.out.below hb13)
  clear hb13
  have x0 := Hx13.out.one
  go_wp2_with fail
  refine (toFam_any _ ps _ _ HV13.out (by omega) hl1).mono ?_
  rintro e9 w14 ⟨uE, rfl, hE, hb14⟩
  obtain ⟨EA, Ec, huu⟩ := hE.form
  subst huu
  have s14 := hb14.size
  have BL14 := hidv (below_on BL13.out hb14)
  have Hx14 := hidv (Hx13.out.below hb14)
  have HV14 := hidv (HV13.out.below (hb14.mono (by omega)))
  have HW14 := hidv (HW13.out.below (hb14.mono (by omega)))
  have HG14 := hidv (HG13.out.below hb14)
  have HE14 := hidv (hE)
  clear hb14 hE
  clear x0
  go_wp2_with fail
  refine (implFa_any _ ps _ k _ HE14.out (by omega) HS.out hl1 L c HR.out).mono ?_
  rintro e9 w15 ⟨uK, rfl, hK, hb15⟩
  obtain ⟨KA, Kc, huu, _⟩ := hK.row
  rw [List.length_map] at huu
  subst huu
  have s15 := hb15.size
  have BL15 := hidv (below_on BL14.out hb15)
  have Hx15 := hidv (Hx14.out.below hb15)
  have HV15 := hidv (HV14.out.below (hb15.mono (by omega)))
  have HW15 := hidv (HW14.out.below (hb15.mono (by omega)))
  have HG15 := hidv (HG14.out.below hb15)
  have HE15 := hidv (HE14.out.below (hb15.mono (by omega)))
  have HK15 := hidv (hK)
  clear hb15 hK
  go_wp2_with fail
  refine (eqStrs_same HK15.out.row HW15.out (by omega)).mono ?_
  rintro e9 w16 ⟨rfl, hb16⟩
  have s16 := hb16.size
  have BL16 := hidv (below_on BL15.out hb16)
  have Hx16 := hidv (Hx15.out.below hb16)
  have HV16 := hidv (HV15.out.below (hb16.mono (by omega)))
  have HW16 := hidv (HW15.out.below (hb16.mono (by omega)))
  have HG16 := hidv (HG15.out.below hb16)
  have HE16 := hidv (HE15.out.below (hb16.mono (by omega)))
  have HK16 := hidv (HK15.out.below hb16)
  clear hb16
  go_wp2_with fail
  refine (heldStrs_any _ _ _ 1 _ HG16.out.row (by omega) (by omega) (by omega)).mono ?_
  rintro e9 w17 ⟨rfl, hb17⟩
  have s17 := hb17.size
  have BL17 := hidv (below_on BL16.out hb17)
  have Hx17 := hidv (Hx16.out.below hb17)
  have HV17 := hidv (HV16.out.below (hb17.mono (by omega)))
  have HW17 := hidv (HW16.out.below (hb17.mono (by omega)))
  have HG17 := hidv (HG16.out.below hb17)
  have HE17 := hidv (HE16.out.below (hb17.mono (by omega)))
  have HK17 := hidv (HK16.out.below hb17)
  clear hb17
  go_wp2_with fail
  go_ret
  exact ⟨rfl, BL17.out⟩

end Go.Proofs.Ythomkmbobaehkaa
