/-
  The law on SameFamily, walked.
-/
import Derived.Test.YtlmdmbhmmfdajaaSf
import Derived.Test.YtlmdmbhmmfdajaaOpenF
import Derived.Deep.RegionHeld3
namespace Go.Proofs.Ytlmdmbhmmfdajaa
open Go.RowKit Go
set_option linter.unusedVariables false

theorem first_below {w w' : World} (h : Below w.heap.size w w') : Below w.heap.size w w' := h
theorem specS_any {v u : Value} {rs ss : List (List Pc)} {B C : Nat} {w : World} {d : Bool} (hv : Fam w B v rs) (hu : Fam w C u ss) (hB : B ≤ w.heap.size ∧ C ≤ w.heap.size) (hx : FamMax rs) (hy : FamMax ss) (hd : decide (rs = ss) = d) :
    Calls Try.prog 14 #[v, u] w fun e w' => e = .returned (.bool d) ∧ Below w.heap.size w w' := by
  subst hd
  exact specSF_any v u rs ss w (hv.more hB.1) (hu.more hB.2) hx hy
theorem implS_any {v u : Value} {rs ss : List (List Pc)} {B C : Nat} {w : World} {d : Bool} (hv : Fam w B v rs) (hu : Fam w C u ss) (hB : B ≤ w.heap.size) (hC : C ≤ w.heap.size) (hx : FamMax rs) (hy : FamMax ss) (hd : decide (rs = ss) = d) :
    Calls Try.prog 15 #[v, u] w fun e w' => e = .returned (.bool d) ∧ Below w.heap.size w w' := by
  subst hd
  exact implSF_any v u rs ss w (hv.more hB) (hu.more hC) hx hy

set_option maxHeartbeats 1600000 in
theorem law_FnExactSameFamily (v : Value) (ps : List (List Pc)) (u : Value) (qs : List (List Pc)) (w : World) (hv : Fam w w.heap.size v ps) (hs : FamSz ps) (hu : Fam w w.heap.size u qs) (ht : FamSz qs) :
    Calls Try.prog 4 #[v, u] w fun e w' => e = .returned (.bool true) ∧ Below w.heap.size w w' := by
  obtain ⟨d, hd⟩ : ∃ d, decide (ps = qs) = d := ⟨_, rfl⟩
  have HD := hidv hd
  have HV := hidv hv
  have HS := hidv hs
  have HU := hidv hu
  have HT := hidv ht
  have hva : ∃ a, v = .agg #[a] := by obtain ⟨a, hvv, _⟩ := hv; exact ⟨a, hvv⟩
  have hua : ∃ a, u = .agg #[a] := by obtain ⟨a, hvv, _⟩ := hu; exact ⟨a, hvv⟩
  clear hd hv hs hu ht
  obtain ⟨va, rfl⟩ := hva
  obtain ⟨ua, rfl⟩ := hua
  go_enter Try.func4, Try.ntmps4
  go_wp2_with fail
  obtain ⟨wS, hwS⟩ : ∃ W, ((w).alloc (.cells #[va] 24)).alloc (.cells #[ua] 24) = W := ⟨_, rfl⟩
  have BL0 : Hid (Below w.heap.size w wS) := hidv (by rw [← hwS]; exact ((Below.refl _ _).alloc (by simp) _).alloc (by simp) _)
  have Hx0 : Hid (Bx wS (w.heap.size) 24 #[va]) := hidv (by
    rw [← hwS]
    have h := Bx.new (w) 24 #[va]
    exact h.alloc _)
  have Hy0 : Hid (Bx wS (w.heap.size + 1) 24 #[ua]) := hidv (by
    rw [← hwS]
    have h := Bx.new ((w).alloc (.cells #[va] 24)) 24 #[ua]
    rw [World.size_alloc] at h
    exact h)
  rw [hwS]
  have hwz : w.heap.size + 2 = wS.heap.size := by rw [← hwS]; simp
  have HV0 := hidv (HV.out.below BL0.out)
  have HU0 := hidv (HU.out.below BL0.out)
  clear hwS
  refine (szFam_any _ ps _ _ HV0.out (by omega) HS.out 1048576 (by omega) (by omega)).mono ?_
  rintro e w1 ⟨r, rfl, hr, hrm, hb1⟩
  have s1 := hb1.size
  have BL1 := hidv (below_on BL0.out hb1)
  have Hx1 := hidv (Hx0.out.below hb1)
  have Hy1 := hidv (Hy0.out.below hb1)
  have HV1 := hidv (HV0.out.below (hb1.mono (by omega)))
  have HU1 := hidv (HU0.out.below (hb1.mono (by omega)))
  clear hb1
  have HRR := hidv hr
  clear hr
  by_cases hr0 : r < 0
  · go_wp2_with fail
    go_ret
    exact ⟨rfl, BL1.out⟩
  have hl1 : FamMax ps := by have h := HRR.out (by omega); exact ⟨by omega, h.2⟩
  have y0 := Hy1.out.one
  go_wp2_with fail
  refine (szFam_any _ qs _ _ HU1.out (by omega) HT.out r (by omega) hrm).mono ?_
  rintro e w2 ⟨q, rfl, hq, hqm, hb2⟩
  have s2 := hb2.size
  have BL2 := hidv (below_on BL1.out hb2)
  have Hx2 := hidv (Hx1.out.below hb2)
  have Hy2 := hidv (Hy1.out.below hb2)
  have HV2 := hidv (HV1.out.below (hb2.mono (by omega)))
  have HU2 := hidv (HU1.out.below (hb2.mono (by omega)))
  clear hb2
  clear y0
  have HQQ := hidv hq
  clear hq
  by_cases hq0 : q < 0
  · go_wp2_with fail
    go_ret
    exact ⟨rfl, BL2.out⟩
  have hl2 : FamMax qs := by have h := HQQ.out (by omega); exact ⟨by omega, h.2⟩
  have hS1 := fun W (hW : Below w2.heap.size w2 W) => (show (W.cell? ⟨w.heap.size, 0, none⟩ = some va ∧ W.cell? ⟨w.heap.size + 1, 0, none⟩ = some ua ∧ Below w2.heap.size w2 W) from ⟨(Hx2.out.below hW).cell 0, (Hy2.out.below hW).cell 0, hW⟩)
  have HSS1 := hidv hS1
  clear hS1
  have CX1 := hidv (fun W (hW : Below w2.heap.size w2 W) => toFam_any _ ps _ W (HV2.out.below (hW.mono (by omega))) (by have := hW.size; omega) hl1)
  have CY1 := hidv (fun W (hW : Below w2.heap.size w2 W) => toFam_any _ qs _ W (HU2.out.below (hW.mono (by omega))) (by have := hW.size; omega) hl2)
  go_wp2_with fail
  have rf1 : Below w2.heap.size w2 w2 := Below.refl _ _
  go_region_held3 (fun W => W.cell? ⟨w.heap.size, 0, none⟩ = some va ∧ W.cell? ⟨w.heap.size + 1, 0, none⟩ = some ua ∧ Below w2.heap.size w2 W) (exact HSS1.out _ (by repeat (first | with_reducible assumption | with_reducible exact Below.refl _ _ | with_reducible refine Below.drew ?_ | with_reducible refine below_al ?_ _))) (first | (go_at_call 11; (first | (with_reducible refine (CX1.out _ (by repeat (first | with_reducible assumption | with_reducible exact Below.refl _ _ | with_reducible refine Below.drew ?_ | with_reducible refine below_al ?_ _))).mono ?_; rintro e w3 ⟨uA1, rfl, hA1, hba1⟩; have BLa1 := below_on (show Below w2.heap.size w2 _ from (by repeat (first | with_reducible assumption | with_reducible exact Below.refl _ _ | with_reducible refine Below.drew ?_ | with_reducible refine below_al ?_ _))) hba1) | (with_reducible refine (CY1.out _ (by repeat (first | with_reducible assumption | with_reducible exact Below.refl _ _ | with_reducible refine Below.drew ?_ | with_reducible refine below_al ?_ _))).mono ?_; rintro e w4 ⟨uB1, rfl, hB1, hbb1⟩; have BLb1 := below_on (show Below w2.heap.size w2 _ from (by repeat (first | with_reducible assumption | with_reducible exact Below.refl _ _ | with_reducible refine Below.drew ?_ | with_reducible refine below_al ?_ _))) hbb1; have zb1 := hbb1.size; have hA1' := hA1.below (first_below hbb1))))  | (go_at_call 14; refine (specS_any hA1' hB1 (by omega) hl1 hl2 HD.out).mono ?_; rintro e w5 ⟨rfl, hbc1⟩; have BLc1 := below_on BLb1 hbc1))
  have s5 := BLc1.size
  have BL5 := hidv (below_on BL2.out BLc1)
  have Hx5 := hidv (Hx2.out.below BLc1)
  have Hy5 := hidv (Hy2.out.below BLc1)
  have HV5 := hidv (HV2.out.below (BLc1.mono (by omega)))
  have HU5 := hidv (HU2.out.below (BLc1.mono (by omega)))
  clear BLc1
  have x0 := Hx5.out.one
  go_wp2_with fail
  refine (toFam_any _ ps _ _ HV5.out (by omega) hl1).mono ?_
  rintro e w6 ⟨uC, rfl, hC, hb6⟩
  obtain ⟨CA, Cc, huu⟩ := hC.form
  subst huu
  have s6 := hb6.size
  have BL6 := hidv (below_on BL5.out hb6)
  have Hx6 := hidv (Hx5.out.below hb6)
  have Hy6 := hidv (Hy5.out.below hb6)
  have HV6 := hidv (HV5.out.below (hb6.mono (by omega)))
  have HU6 := hidv (HU5.out.below (hb6.mono (by omega)))
  have HC6 := hidv (hC)
  clear hb6 hC
  clear x0
  have y0 := Hy6.out.one
  have ylt := Hy6.out.lt
  go_wp2_with fail
  obtain ⟨w7, hw7⟩ : ∃ W, w6.alloc (.cells #[.slice CA ps.length Cc] 29) = W := ⟨_, rfl⟩
  have hb7 : Below w6.heap.size w6 w7 := by rw [← hw7]; exact below_al (Below.refl _ _) _
  have Hc7 : Hid (Bx w7 w6.heap.size 29 #[.slice CA ps.length Cc]) := hidv (by rw [← hw7]; exact Bx.new _ _ _)
  rw [hw7]
  have s7 := hb7.size
  have BL7 := hidv (below_on BL6.out hb7)
  have Hx7 := hidv (Hx6.out.below hb7)
  have Hy7 := hidv (Hy6.out.below hb7)
  have HV7 := hidv (HV6.out.below (hb7.mono (by omega)))
  have HU7 := hidv (HU6.out.below (hb7.mono (by omega)))
  have HC7 := hidv (HC6.out.below (hb7.mono (by omega)))
  clear hb7 hw7
  clear y0 ylt
  refine (toFam_any _ qs _ _ HU7.out (by omega) hl2).mono ?_
  rintro e w8 ⟨uD, rfl, hD, hb8⟩
  obtain ⟨DA, Dc, huu⟩ := hD.form
  subst huu
  have s8 := hb8.size
  have BL8 := hidv (below_on BL7.out hb8)
  have Hx8 := hidv (Hx7.out.below hb8)
  have Hy8 := hidv (Hy7.out.below hb8)
  have HV8 := hidv (HV7.out.below (hb8.mono (by omega)))
  have HU8 := hidv (HU7.out.below (hb8.mono (by omega)))
  have HC8 := hidv (HC7.out.below (hb8.mono (by omega)))
  have Hc8 := hidv (Hc7.out.below hb8)
  have HD8 := hidv (hD)
  clear hb8 hD
  have c0 := Hc8.out.one
  have clt := Hc8.out.lt
  go_wp2_with fail
  obtain ⟨w9, hw9⟩ : ∃ W, w8.alloc (.cells #[.slice DA qs.length Dc] 29) = W := ⟨_, rfl⟩
  have hb9 : Below w8.heap.size w8 w9 := by rw [← hw9]; exact below_al (Below.refl _ _) _
  have Hd9 : Hid (Bx w9 w8.heap.size 29 #[.slice DA qs.length Dc]) := hidv (by rw [← hw9]; exact Bx.new _ _ _)
  rw [hw9]
  have s9 := hb9.size
  have BL9 := hidv (below_on BL8.out hb9)
  have Hx9 := hidv (Hx8.out.below hb9)
  have Hy9 := hidv (Hy8.out.below hb9)
  have HV9 := hidv (HV8.out.below (hb9.mono (by omega)))
  have HU9 := hidv (HU8.out.below (hb9.mono (by omega)))
  have HC9 := hidv (HC8.out.below (hb9.mono (by omega)))
  have Hc9 := hidv (Hc8.out.below hb9)
  have HD9 := hidv (HD8.out.below (hb9.mono (by omega)))
  clear hb9 hw9
  clear c0 clt
  refine (implS_any HC9.out HD9.out (by omega) (by omega) hl1 hl2 HD.out).mono ?_
  rintro e w10 ⟨rfl, hb10⟩
  have s10 := hb10.size
  have BL10 := hidv (below_on BL9.out hb10)
  have Hx10 := hidv (Hx9.out.below hb10)
  have Hy10 := hidv (Hy9.out.below hb10)
  have HV10 := hidv (HV9.out.below (hb10.mono (by omega)))
  have HU10 := hidv (HU9.out.below (hb10.mono (by omega)))
  have HC10 := hidv (HC9.out.below (hb10.mono (by omega)))
  have Hc10 := hidv (Hc9.out.below hb10)
  have HD10 := hidv (HD9.out.below (hb10.mono (by omega)))
  have Hd10 := hidv (Hd9.out.below hb10)
  clear hb10
  have hSv := fun W (hW : Below w10.heap.size w10 W) => (show (W.cell? ⟨w.heap.size, 0, none⟩ = some (va) ∧ W.cell? ⟨w6.heap.size, 0, none⟩ = some (.slice CA ps.length Cc) ∧ Below w10.heap.size w10 W) from ⟨(Hx10.out.below hW).cell 0, (Hc10.out.below hW).cell 0, hW⟩)
  have HSSv := hidv hSv
  clear hSv
  have CTv := hidv (fun W (hW : Below w10.heap.size w10 W) => toFam_any _ ps _ W (HV10.out.below (hW.mono (by omega))) (by have := hW.size; omega) hl1)
  go_wp2_with fail
  have rfv : Below w10.heap.size w10 w10 := Below.refl _ _
  go_region_held3 (fun W => W.cell? ⟨w.heap.size, 0, none⟩ = some (va) ∧ W.cell? ⟨w6.heap.size, 0, none⟩ = some (.slice CA ps.length Cc) ∧ Below w10.heap.size w10 W) (exact HSSv.out _ (by repeat (first | with_reducible assumption | with_reducible exact Below.refl _ _ | with_reducible refine Below.drew ?_ | with_reducible refine below_al ?_ _))) (first | (go_at_call 11; refine (CTv.out _ (by repeat (first | with_reducible assumption | with_reducible exact Below.refl _ _ | with_reducible refine Below.drew ?_ | with_reducible refine below_al ?_ _))).mono ?_; rintro e w11 ⟨uEv, rfl, hEv, hbev⟩; have BLev := below_on (show Below w10.heap.size w10 _ from (by repeat (first | with_reducible assumption | with_reducible exact Below.refl _ _ | with_reducible refine Below.drew ?_ | with_reducible refine below_al ?_ _))) hbev; have zev := BLev.size; have hCv := HC10.out.below (BLev.mono (by omega))) | (go_at_call 13; refine (eqFam_same (hCv.more (by omega)) hEv hl1).mono ?_; rintro e w12 ⟨rfl, hbqv⟩; have BLqv := below_on BLev hbqv))
  have s12 := BLqv.size
  have BL12 := hidv (below_on BL10.out BLqv)
  have Hx12 := hidv (Hx10.out.below BLqv)
  have Hy12 := hidv (Hy10.out.below BLqv)
  have HV12 := hidv (HV10.out.below (BLqv.mono (by omega)))
  have HU12 := hidv (HU10.out.below (BLqv.mono (by omega)))
  have HC12 := hidv (HC10.out.below (BLqv.mono (by omega)))
  have Hc12 := hidv (Hc10.out.below BLqv)
  have HD12 := hidv (HD10.out.below (BLqv.mono (by omega)))
  have Hd12 := hidv (Hd10.out.below BLqv)
  clear BLqv
  have hSu := fun W (hW : Below w12.heap.size w12 W) => (show (W.cell? ⟨w.heap.size + 1, 0, none⟩ = some (ua) ∧ W.cell? ⟨w8.heap.size, 0, none⟩ = some (.slice DA qs.length Dc) ∧ Below w12.heap.size w12 W) from ⟨(Hy12.out.below hW).cell 0, (Hd12.out.below hW).cell 0, hW⟩)
  have HSSu := hidv hSu
  clear hSu
  have CTu := hidv (fun W (hW : Below w12.heap.size w12 W) => toFam_any _ qs _ W (HU12.out.below (hW.mono (by omega))) (by have := hW.size; omega) hl2)
  go_wp2_with fail
  have rfu : Below w12.heap.size w12 w12 := Below.refl _ _
  go_region_held3 (fun W => W.cell? ⟨w.heap.size + 1, 0, none⟩ = some (ua) ∧ W.cell? ⟨w8.heap.size, 0, none⟩ = some (.slice DA qs.length Dc) ∧ Below w12.heap.size w12 W) (exact HSSu.out _ (by repeat (first | with_reducible assumption | with_reducible exact Below.refl _ _ | with_reducible refine Below.drew ?_ | with_reducible refine below_al ?_ _))) (first | (go_at_call 11; refine (CTu.out _ (by repeat (first | with_reducible assumption | with_reducible exact Below.refl _ _ | with_reducible refine Below.drew ?_ | with_reducible refine below_al ?_ _))).mono ?_; rintro e w13 ⟨uEu, rfl, hEu, hbeu⟩; have BLeu := below_on (show Below w12.heap.size w12 _ from (by repeat (first | with_reducible assumption | with_reducible exact Below.refl _ _ | with_reducible refine Below.drew ?_ | with_reducible refine below_al ?_ _))) hbeu; have zeu := BLeu.size; have hCu := HD12.out.below (BLeu.mono (by omega))) | (go_at_call 13; refine (eqFam_same (hCu.more (by omega)) hEu hl2).mono ?_; rintro e w14 ⟨rfl, hbqu⟩; have BLqu := below_on BLeu hbqu))
  have s14 := BLqu.size
  have BL14 := hidv (below_on BL12.out BLqu)
  have Hx14 := hidv (Hx12.out.below BLqu)
  have Hy14 := hidv (Hy12.out.below BLqu)
  have HV14 := hidv (HV12.out.below (BLqu.mono (by omega)))
  have HU14 := hidv (HU12.out.below (BLqu.mono (by omega)))
  have HC14 := hidv (HC12.out.below (BLqu.mono (by omega)))
  have Hc14 := hidv (Hc12.out.below BLqu)
  have HD14 := hidv (HD12.out.below (BLqu.mono (by omega)))
  have Hd14 := hidv (Hd12.out.below BLqu)
  clear BLqu
  go_wp2_with fail
  go_ret
  exact ⟨rfl, BL14.out⟩

end Go.Proofs.Ytlmdmbhmmfdajaa
