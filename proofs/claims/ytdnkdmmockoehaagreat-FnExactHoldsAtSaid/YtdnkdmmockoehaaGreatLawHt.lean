/-
  The law on HoldsAt, walked.
-/
import Derived.Test.YtdnkdmmockoehaaGreatHk
import Derived.Test.YtdnkdmmockoehaaGreatOpenF
import Derived.Deep.RegionHeld3
namespace Go.Proofs.YtdnkdmmockoehaaGreat
open Go.RowKit Go
set_option linter.unusedVariables false

theorem first_below6 {wa wb w' : World} (h : Below wb.heap.size wb w') (e : wa = wb := by rfl) : Below wa.heap.size wa w' := by subst e; exact h

set_option maxHeartbeats 3200000 in
theorem law_FnExactHoldsAt (v : Value) (es : List Eqn) (y : Value) (ps : List (List Pc)) (k : Int) (w : World) (hv : ERow w w.heap.size v es) (hx : es.length ≤ maxLen) (hs : ∀ e ∈ es, e.1.size ≤ maxLen ∧ e.2.size ≤ maxLen) (hy : Fam w w.heap.size y ps) (hf : FamSz ps) (_ : (Lit.int .i64 k).wf = true) :
    Calls Tryz.prog 3 #[v, y, .int .i64 k] w fun e w' => e = .returned (.bool true) ∧ Below w.heap.size w w' := by
  obtain ⟨d, c, hR⟩ := htR_ex es ps k
  have HR := hidv hR
  clear hR
  have HV := hidv hy
  have HF := hidv hf
  have HE := hidv hv
  have HX := hidv hx
  have HS := hidv hs
  have hva : ∃ a, y = .agg #[a] := by obtain ⟨a, hvv, _⟩ := hy; exact ⟨a, hvv⟩
  clear hv hx hs hy hf
  obtain ⟨va, rfl⟩ := hva
  go_enter Tryz.func3, Tryz.ntmps3
  go_wp2_with fail
  obtain ⟨wS, hwS⟩ : ∃ W, (w).alloc (.cells #[va] 25) = W := ⟨_, rfl⟩
  have BL0 : Hid (Below w.heap.size w wS) := hidv (by rw [← hwS]; exact (Below.refl _ _).alloc (by simp) _)
  have Hx0 : Hid (Bx wS (w.heap.size) 25 #[va]) := hidv (by
    rw [← hwS]
    have h := Bx.new (w) 25 #[va]
    exact h)
  rw [hwS]
  have hwz : w.heap.size + 1 = wS.heap.size := by rw [← hwS]; simp
  have HV0 := hidv (HV.out.below BL0.out)
  have HE0 := hidv (HE.out.below BL0.out)
  clear hwS
  refine (szEqns_any v es w.heap.size _ HE0.out (by omega) HX.out HS.out 1048576 (by omega) (by omega)).mono ?_
  rintro e9 w1 ⟨r, rfl, hr, hrm, hb1⟩
  have s1 := hb1.size
  have BL1 := hidv (below_on BL0.out hb1)
  have Hx1 := hidv (Hx0.out.below hb1)
  have HV1 := hidv (HV0.out.below (hb1.mono (by omega)))
  have HE1 := hidv (HE0.out.below (hb1.mono (by omega)))
  clear hb1
  have HRR := hidv hr
  clear hr
  by_cases hr0 : r < 0
  · go_wp2_with fail
    go_ret
    exact ⟨rfl, BL1.out⟩
  have hxl : es.length ≤ 1048576 := by have := HRR.out (by omega); omega
  have x0 := Hx1.out.one
  go_wp2_with fail
  refine (szFam_any _ ps _ _ HV1.out (by omega) HF.out r (by omega) hrm).mono ?_
  rintro e9 w2 ⟨q, rfl, hq, hqm, hb2⟩
  have s2 := hb2.size
  have BL2 := hidv (below_on BL1.out hb2)
  have Hx2 := hidv (Hx1.out.below hb2)
  have HV2 := hidv (HV1.out.below (hb2.mono (by omega)))
  have HE2 := hidv (HE1.out.below (hb2.mono (by omega)))
  clear hb2
  clear x0
  have HQQ := hidv hq
  clear hq
  by_cases hq0 : q < 0
  · go_wp2_with fail
    go_ret
    exact ⟨rfl, BL2.out⟩
  have hl1 : FamMax ps := famMax_of (by have := HQQ.out (by omega); omega)
  have hSr := fun W (hW : Below w2.heap.size w2 W) => (show (W.cell? ⟨w.heap.size, 0, none⟩ = some va ∧ Below w2.heap.size w2 W) from ⟨(Hx2.out.below hW).cell 0, hW⟩)
  have HSr := hidv hSr
  clear hSr
  have CE1 := hidv (fun W (hW : Below w2.heap.size w2 W) => toEqns_any _ es w.heap.size W (HE2.out.below (hW.mono (by omega))) (by have := hW.size; omega) hxl)
  have CB1 := hidv (fun W (hW : Below w2.heap.size w2 W) => toFam_any _ ps _ W (HV2.out.below (hW.mono (by omega))) (by have := hW.size; omega) hl1)
  go_wp2_with fail
  have rfr : Below w2.heap.size w2 w2 := Below.refl _ _
  go_region_held3 (fun W => W.cell? ⟨w.heap.size, 0, none⟩ = some va ∧ Below w2.heap.size w2 W) (exact HSr.out _ (by repeat (first | with_reducible assumption | with_reducible exact Below.refl _ _ | with_reducible refine Below.drew ?_ | with_reducible refine below_al ?_ _))) (first | (go_at_call 8; refine (CE1.out _ (by repeat (first | with_reducible assumption | with_reducible exact Below.refl _ _ | with_reducible refine Below.drew ?_ | with_reducible refine below_al ?_ _))).mono ?_; rintro e9 wA ⟨uA, rfl, hA, hba⟩; have BLa := below_on (show Below w2.heap.size w2 _ from (by repeat (first | with_reducible assumption | with_reducible exact Below.refl _ _ | with_reducible refine Below.drew ?_ | with_reducible refine below_al ?_ _))) hba) | (go_at_call 9; refine (CB1.out _ (by repeat (first | with_reducible assumption | with_reducible exact Below.refl _ _ | with_reducible refine Below.drew ?_ | with_reducible refine below_al ?_ _))).mono ?_; rintro e9 wB ⟨uB, rfl, hB, hbb⟩; have BLb := below_on (show Below w2.heap.size w2 _ from (by repeat (first | with_reducible assumption | with_reducible exact Below.refl _ _ | with_reducible refine Below.drew ?_ | with_reducible refine below_al ?_ _))) hbb; have hA1 := hA.below (first_below6 hbb)) | (go_at_call 7; refine (specHt_any _ _ es ps _ _ k _ hA1.row (Nat.le_refl _) hxl HS.out hB (Nat.le_refl _) HF.out d c HR.out).mono ?_; rintro e9 wD ⟨rfl, hbd⟩; have BLd := below_on BLb hbd))
  obtain ⟨wq3, hwq⟩ : ∃ W, wD = W := ⟨_, rfl⟩
  rw [hwq] at BLd ⊢
  clear hwq
  have s3 := BLd.size
  have BL3 := hidv (below_on BL2.out BLd)
  have Hx3 := hidv (Hx2.out.below BLd)
  have HV3 := hidv (HV2.out.below (BLd.mono (by omega)))
  have HE3 := hidv (HE2.out.below (BLd.mono (by omega)))
  clear BLd
  go_wp2_with fail
  refine (toEqns_any _ es w.heap.size _ HE3.out (by omega) hxl).mono ?_
  rintro e9 w4 ⟨uD, rfl, hD, hb4⟩
  have s4 := hb4.size
  have BL4 := hidv (below_on BL3.out hb4)
  have Hx4 := hidv (Hx3.out.below hb4)
  have HV4 := hidv (HV3.out.below (hb4.mono (by omega)))
  have HE4 := hidv (HE3.out.below (hb4.mono (by omega)))
  have HD4 := hidv (hD)
  clear hb4 hD
  have x0 := Hx4.out.one
  go_wp2_with fail
  refine (toFam_any _ ps _ _ HV4.out (by omega) hl1).mono ?_
  rintro e9 w5 ⟨uC, rfl, hC, hb5⟩
  obtain ⟨CA, Cc, huu⟩ := hC.form
  subst huu
  have s5 := hb5.size
  have BL5 := hidv (below_on BL4.out hb5)
  have Hx5 := hidv (Hx4.out.below hb5)
  have HV5 := hidv (HV4.out.below (hb5.mono (by omega)))
  have HE5 := hidv (HE4.out.below (hb5.mono (by omega)))
  have HD5 := hidv (HD4.out.below hb5)
  have HC5 := hidv (hC)
  clear hb5 hC
  clear x0
  go_wp2_with fail
  obtain ⟨w6, hw6⟩ : ∃ W, w5.alloc (.cells #[.slice CA ps.length Cc] 34) = W := ⟨_, rfl⟩
  have hb6 : Below w5.heap.size w5 w6 := by rw [← hw6]; exact below_al (Below.refl _ _) _
  have Hc6 : Hid (Bx w6 w5.heap.size 34 #[.slice CA ps.length Cc]) := hidv (by rw [← hw6]; exact Bx.new _ _ _)
  rw [hw6]
  have s6 := hb6.size
  have BL6 := hidv (below_on BL5.out hb6)
  have Hx6 := hidv (Hx5.out.below hb6)
  have HV6 := hidv (HV5.out.below (hb6.mono (by omega)))
  have HE6 := hidv (HE5.out.below (hb6.mono (by omega)))
  have HD6 := hidv (HD5.out.below hb6)
  have HC6 := hidv (HC5.out.below (hb6.mono (by omega)))
  clear hb6 hw6
  refine (implHt_any _ _ es ps _ _ k _ HD6.out.row (Nat.le_refl _) hxl HS.out HC6.out (by omega) HF.out hl1 d c HR.out).mono ?_
  rintro e9 w7 ⟨rfl, hb7⟩
  have s7 := hb7.size
  have BL7 := hidv (below_on BL6.out hb7)
  have Hx7 := hidv (Hx6.out.below hb7)
  have HV7 := hidv (HV6.out.below (hb7.mono (by omega)))
  have HE7 := hidv (HE6.out.below (hb7.mono (by omega)))
  have HD7 := hidv (HD6.out.below hb7)
  have HC7 := hidv (HC6.out.below (hb7.mono (by omega)))
  have Hc7 := hidv (Hc6.out.below hb7)
  clear hb7
  go_wp2_with fail
  refine (toEqns_any _ es w.heap.size _ HE7.out (by omega) hxl).mono ?_
  rintro e9 w8 ⟨uG, rfl, hG, hb8⟩
  have s8 := hb8.size
  have BL8 := hidv (below_on BL7.out hb8)
  have Hx8 := hidv (Hx7.out.below hb8)
  have HV8 := hidv (HV7.out.below (hb8.mono (by omega)))
  have HE8 := hidv (HE7.out.below (hb8.mono (by omega)))
  have HD8 := hidv (HD7.out.below hb8)
  have HC8 := hidv (HC7.out.below (hb8.mono (by omega)))
  have Hc8 := hidv (Hc7.out.below hb8)
  have HG8 := hidv (hG)
  clear hb8 hG
  go_wp2_with fail
  refine (eqEqns_same HD8.out.row HG8.out.row (Nat.le_refl _) (Nat.le_refl _) (by omega)).mono ?_
  rintro e9 w9 ⟨rfl, hb9⟩
  have s9 := hb9.size
  have BL9 := hidv (below_on BL8.out hb9)
  have Hx9 := hidv (Hx8.out.below hb9)
  have HV9 := hidv (HV8.out.below (hb9.mono (by omega)))
  have HE9 := hidv (HE8.out.below (hb9.mono (by omega)))
  have HD9 := hidv (HD8.out.below hb9)
  have HC9 := hidv (HC8.out.below (hb9.mono (by omega)))
  have Hc9 := hidv (Hc8.out.below hb9)
  have HG9 := hidv (HG8.out.below hb9)
  clear hb9
  have hSv := fun W (hW : Below w9.heap.size w9 W) => (show (W.cell? ⟨w.heap.size, 0, none⟩ = some (va) ∧ W.cell? ⟨w5.heap.size, 0, none⟩ = some (.slice CA ps.length Cc) ∧ Below w9.heap.size w9 W) from ⟨(Hx9.out.below hW).cell 0, (Hc9.out.below hW).cell 0, hW⟩)
  have HSSv := hidv hSv
  clear hSv
  have CTv := hidv (fun W (hW : Below w9.heap.size w9 W) => toFam_any _ ps _ W (HV9.out.below (hW.mono (by omega))) (by have := hW.size; omega) hl1)
  go_wp2_with fail
  have rfv : Below w9.heap.size w9 w9 := Below.refl _ _
  go_region_held3 (fun W => W.cell? ⟨w.heap.size, 0, none⟩ = some (va) ∧ W.cell? ⟨w5.heap.size, 0, none⟩ = some (.slice CA ps.length Cc) ∧ Below w9.heap.size w9 W) (exact HSSv.out _ (by repeat (first | with_reducible assumption | with_reducible exact Below.refl _ _ | with_reducible refine Below.drew ?_ | with_reducible refine below_al ?_ _))) (first | (go_at_call 9; refine (CTv.out _ (by repeat (first | with_reducible assumption | with_reducible exact Below.refl _ _ | with_reducible refine Below.drew ?_ | with_reducible refine below_al ?_ _))).mono ?_; rintro e9 w10 ⟨uEv, rfl, hEv, hbev⟩; have BLev := below_on (show Below w9.heap.size w9 _ from (by repeat (first | with_reducible assumption | with_reducible exact Below.refl _ _ | with_reducible refine Below.drew ?_ | with_reducible refine below_al ?_ _))) hbev; have zev := BLev.size; have hCv := HC9.out.below (BLev.mono (by omega))) | (go_at_call 12; refine (eqFam_same (hCv.more (by omega)) hEv hl1).mono ?_; rintro e9 w11 ⟨rfl, hbqv⟩; have BLqv := below_on BLev hbqv))
  have s11 := BLqv.size
  have BL11 := hidv (below_on BL9.out BLqv)
  have Hx11 := hidv (Hx9.out.below BLqv)
  have HV11 := hidv (HV9.out.below (BLqv.mono (by omega)))
  have HE11 := hidv (HE9.out.below (BLqv.mono (by omega)))
  have HD11 := hidv (HD9.out.below BLqv)
  have HC11 := hidv (HC9.out.below (BLqv.mono (by omega)))
  have Hc11 := hidv (Hc9.out.below BLqv)
  have HG11 := hidv (HG9.out.below BLqv)
  clear BLqv
  go_wp2_with fail
  go_ret
  exact ⟨rfl, BL11.out⟩

end Go.Proofs.YtdnkdmmockoehaaGreat
