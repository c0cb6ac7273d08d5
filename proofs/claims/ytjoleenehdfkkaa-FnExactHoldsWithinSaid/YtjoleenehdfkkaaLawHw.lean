/-
  The law on HoldsWithin, walked.
-/
import Derived.Test.YtjoleenehdfkkaaHv
import Derived.Test.YtjoleenehdfkkaaOpenB
import Derived.Test.YtjoleenehdfkkaaStrA
import Derived.Deep.RegionHeld3
namespace Go.Proofs.Ytjoleenehdfkkaa
open Go.RowKit Go
set_option linter.unusedVariables false

theorem first_below5 {wa wb w' : World} (h : Below wb.heap.size wb w') (e : wa = wb := by rfl) : Below wa.heap.size wa w' := by subst e; exact h

set_option maxHeartbeats 3200000 in
theorem law_FnExactHoldsWithin (v : Value) (es : List Eqn) (y : Value) (e : Int) (ns ps : List (List Int)) (u : Value) (xs : List ByteArray) (w : World) (hv : ERow w w.heap.size v es) (hx : es.length ≤ maxLen) (hs : ∀ e ∈ es, e.1.size ≤ maxLen ∧ e.2.size ≤ maxLen) (hy : Bnd w w.heap.size y e ns ps) (hb : BndSz ns ps) (hu : Row w w.heap.size u (xs.map Value.string)) (hyu : xs.length ≤ maxLen) (htu : ∀ s ∈ xs, s.size ≤ maxLen) :
    Calls Try.prog 3 #[v, y, u] w fun e w' => e = .returned (.bool true) ∧ Below w.heap.size w w' := by
  obtain ⟨d, c, hR⟩ := withinR_ex es e ns ps xs
  have HR := hidv hR
  have HV := hidv hy
  have HB := hidv hb
  have HE := hidv hv
  have HX := hidv hx
  have HS := hidv hs
  have HU := hidv hu
  have HYU := hidv hyu
  have HTU := hidv htu
  have hva : ∃ a b, y = .agg #[.int .i64 e, a, b] := by obtain ⟨a, b, hvv, _⟩ := hy; exact ⟨a, b, hvv⟩
  clear hv hx hs hy hb hu hyu htu hR
  obtain ⟨va, vb, rfl⟩ := hva
  go_enter Try.func3, Try.ntmps3
  go_wp2_with fail
  obtain ⟨wS, hwS⟩ : ∃ W, (w).alloc (.cells #[.int .i64 e, va, vb] 25) = W := ⟨_, rfl⟩
  have BL0 : Hid (Below w.heap.size w wS) := hidv (by rw [← hwS]; exact (Below.refl _ _).alloc (by simp) _)
  have Hx0 : Hid (Bx wS (w.heap.size) 25 #[.int .i64 e, va, vb]) := hidv (by
    rw [← hwS]
    have h := Bx.new (w) 25 #[.int .i64 e, va, vb]
    exact h)
  rw [hwS]
  have hwz : w.heap.size + 1 = wS.heap.size := by rw [← hwS]; simp
  have HV0 := hidv (HV.out.below BL0.out)
  have HE0 := hidv (HE.out.below BL0.out)
  have HU0 := hidv (HU.out.below BL0.out)
  clear hwS
  refine (szEqns_any v es w.heap.size _ HE0.out (by omega) HX.out HS.out 1048576 (by omega) (by omega)).mono ?_
  rintro e9 w1 ⟨r, rfl, hr, hrm, hb1⟩
  have s1 := hb1.size
  have BL1 := hidv (below_on BL0.out hb1)
  have Hx1 := hidv (Hx0.out.below hb1)
  have HV1 := hidv (HV0.out.below (hb1.mono (by omega)))
  have HE1 := hidv (HE0.out.below (hb1.mono (by omega)))
  have HU1 := hidv (HU0.out.below (hb1.mono (by omega)))
  clear hb1
  have HRR := hidv hr
  clear hr
  by_cases hr0 : r < 0
  · go_wp2_with fail
    go_ret
    exact ⟨rfl, BL1.out⟩
  have hxl : es.length ≤ 1048576 := by have := HRR.out (by omega); omega
  obtain ⟨x0, x1, x2⟩ := Hx1.out.three
  go_wp2_with fail
  refine (szBnd_any _ e ns ps _ _ HV1.out (by omega) HB.out r (by omega) hrm).mono ?_
  rintro e9 w2 ⟨q, rfl, hq, hqm, hb2⟩
  have s2 := hb2.size
  have BL2 := hidv (below_on BL1.out hb2)
  have Hx2 := hidv (Hx1.out.below hb2)
  have HV2 := hidv (HV1.out.below (hb2.mono (by omega)))
  have HE2 := hidv (HE1.out.below (hb2.mono (by omega)))
  have HU2 := hidv (HU1.out.below (hb2.mono (by omega)))
  clear hb2
  clear x0 x1 x2
  have HQQ := hidv hq
  clear hq
  by_cases hq0 : q < 0
  · go_wp2_with fail
    go_ret
    exact ⟨rfl, BL2.out⟩
  have hl1 : RowsMax 1048576 ns ∧ RowsMax 1048576 ps := HQQ.out (by omega)
  go_wp2_with fail
  refine (szStrs_any u xs w.heap.size _ HU2.out HYU.out HTU.out q (by omega) (by omega)).mono ?_
  rintro e9 wz ⟨p, rfl, hp, hwz2⟩
  obtain rfl : w2 = wz := hwz2
  have HPP : Hid (SzOk xs.length q p) := hp
  clear hp
  by_cases hp0 : p < 0
  · go_wp2_with fail
    go_ret
    exact ⟨rfl, BL2.out⟩
  have hyl : xs.length ≤ 1048576 := by have := HPP.out (by omega); omega
  have hSr := fun W (hW : Below w2.heap.size w2 W) => (show (W.cell? ⟨w.heap.size, 0, none⟩ = some (.int .i64 e) ∧ W.cell? ⟨w.heap.size, 1, none⟩ = some va ∧ W.cell? ⟨w.heap.size, 2, none⟩ = some vb ∧ Below w2.heap.size w2 W) from ⟨(Hx2.out.below hW).cell 0, (Hx2.out.below hW).cell 1, (Hx2.out.below hW).cell 2, hW⟩)
  have HSr := hidv hSr
  clear hSr
  have CE1 := hidv (fun W (hW : Below w2.heap.size w2 W) => toEqns_any _ es w.heap.size W (HE2.out.below (hW.mono (by omega))) (by have := hW.size; omega) hxl)
  have CB1 := hidv (fun W (hW : Below w2.heap.size w2 W) => toBnd2_any _ e ns ps _ W (HV2.out.below (hW.mono (by omega))) (by have := hW.size; omega) hl1.1 hl1.2)
  have CU1 := hidv (fun W (hW : Below w2.heap.size w2 W) => toStrs_any _ xs w.heap.size W (HU2.out.below (hW.mono (by omega))) (by have := hW.size; omega) hyl)
  go_wp2_with fail
  have rfr : Below w2.heap.size w2 w2 := Below.refl _ _
  go_region_held3 (fun W => W.cell? ⟨w.heap.size, 0, none⟩ = some (.int .i64 e) ∧ W.cell? ⟨w.heap.size, 1, none⟩ = some va ∧ W.cell? ⟨w.heap.size, 2, none⟩ = some vb ∧ Below w2.heap.size w2 W) (exact HSr.out _ (by repeat (first | with_reducible assumption | with_reducible exact Below.refl _ _ | with_reducible refine Below.drew ?_ | with_reducible refine below_al ?_ _))) (first | (go_at_call 9; refine (CE1.out _ (by repeat (first | with_reducible assumption | with_reducible exact Below.refl _ _ | with_reducible refine Below.drew ?_ | with_reducible refine below_al ?_ _))).mono ?_; rintro e9 wA ⟨uA, rfl, hA, hba⟩; have BLa := below_on (show Below w2.heap.size w2 _ from (by repeat (first | with_reducible assumption | with_reducible exact Below.refl _ _ | with_reducible refine Below.drew ?_ | with_reducible refine below_al ?_ _))) hba) | (go_at_call 10; refine (CB1.out _ (by repeat (first | with_reducible assumption | with_reducible exact Below.refl _ _ | with_reducible refine Below.drew ?_ | with_reducible refine below_al ?_ _))).mono ?_; rintro e9 wB ⟨uB, rfl, hB, hbb⟩; have BLb := below_on (show Below w2.heap.size w2 _ from (by repeat (first | with_reducible assumption | with_reducible exact Below.refl _ _ | with_reducible refine Below.drew ?_ | with_reducible refine below_al ?_ _))) hbb; have hA1 := hA.below (first_below5 hbb)) | (go_at_call 11; refine (CU1.out _ (by repeat (first | with_reducible assumption | with_reducible exact Below.refl _ _ | with_reducible refine Below.drew ?_ | with_reducible refine below_al ?_ _))).mono ?_; rintro e9 wC ⟨uC, rfl, hC, hbc⟩; have BLc := below_on (show Below w2.heap.size w2 _ from (by repeat (first | with_reducible assumption | with_reducible exact Below.refl _ _ | with_reducible refine Below.drew ?_ | with_reducible refine below_al ?_ _))) hbc; have hA2 := hA1.below (first_below5 hbc); have hB1 := hB.below (first_below5 hbc)) | (go_at_call 8; refine (specWithin_any _ _ _ es e ns ps xs _ _ _ _ hA2.row (Nat.le_refl _) hxl HS.out hB1 (by have := hbc.size; omega) hl1.1.wide hl1.2.wide hC.row (Nat.le_refl _) hyl HTU.out d c HR.out).mono ?_; rintro e9 wD ⟨rfl, hbd⟩; have BLd := below_on BLc hbd))
  obtain ⟨wq3, hwq⟩ : ∃ W, wD = W := ⟨_, rfl⟩
  rw [hwq] at BLd ⊢
  clear hwq
  have s3 := BLd.size
  have BL3 := hidv (below_on BL2.out BLd)
  have Hx3 := hidv (Hx2.out.below BLd)
  have HV3 := hidv (HV2.out.below (BLd.mono (by omega)))
  have HE3 := hidv (HE2.out.below (BLd.mono (by omega)))
  have HU3 := hidv (HU2.out.below (BLd.mono (by omega)))
  clear BLd
  go_wp2_with fail
  refine (toEqns_any _ es w.heap.size _ HE3.out (by omega) hxl).mono ?_
  rintro e9 w4 ⟨uD, rfl, hD, hb4⟩
  have s4 := hb4.size
  have BL4 := hidv (below_on BL3.out hb4)
  have Hx4 := hidv (Hx3.out.below hb4)
  have HV4 := hidv (HV3.out.below (hb4.mono (by omega)))
  have HE4 := hidv (HE3.out.below (hb4.mono (by omega)))
  have HU4 := hidv (HU3.out.below (hb4.mono (by omega)))
  have HD4 := hidv (hD)
  clear hb4 hD
  obtain ⟨x0, x1, x2⟩ := Hx4.out.three
  go_wp2_with fail
  refine (toBnd2_any _ e ns ps _ _ HV4.out (by omega) hl1.1 hl1.2).mono ?_
  rintro e9 w5 ⟨uC, rfl, hC, hb5⟩
  obtain ⟨CA, Cc, CP, Cd, huu⟩ := hC.form
  subst huu
  have s5 := hb5.size
  have BL5 := hidv (below_on BL4.out hb5)
  have Hx5 := hidv (Hx4.out.below hb5)
  have HV5 := hidv (HV4.out.below (hb5.mono (by omega)))
  have HE5 := hidv (HE4.out.below (hb5.mono (by omega)))
  have HU5 := hidv (HU4.out.below (hb5.mono (by omega)))
  have HD5 := hidv (HD4.out.below hb5)
  have HC5 := hidv (hC)
  clear hb5 hC
  clear x0 x1 x2
  go_wp2_with fail
  obtain ⟨w6, hw6⟩ : ∃ W, w5.alloc (.cells #[.int .i64 e, .slice CA ns.length Cc, .slice CP ps.length Cd] 34) = W := ⟨_, rfl⟩
  have hb6 : Below w5.heap.size w5 w6 := by rw [← hw6]; exact below_al (Below.refl _ _) _
  have Hc6 : Hid (Bx w6 w5.heap.size 34 #[.int .i64 e, .slice CA ns.length Cc, .slice CP ps.length Cd]) := hidv (by rw [← hw6]; exact Bx.new _ _ _)
  rw [hw6]
  have s6 := hb6.size
  have BL6 := hidv (below_on BL5.out hb6)
  have Hx6 := hidv (Hx5.out.below hb6)
  have HV6 := hidv (HV5.out.below (hb6.mono (by omega)))
  have HE6 := hidv (HE5.out.below (hb6.mono (by omega)))
  have HU6 := hidv (HU5.out.below (hb6.mono (by omega)))
  have HD6 := hidv (HD5.out.below hb6)
  have HC6 := hidv (HC5.out.below (hb6.mono (by omega)))
  clear hb6 hw6
  refine (toStrs_any _ xs w.heap.size _ HU6.out (by omega) hyl).mono ?_
  rintro e9 w7 ⟨uF, rfl, hF, hb7⟩
  have s7 := hb7.size
  have BL7 := hidv (below_on BL6.out hb7)
  have Hx7 := hidv (Hx6.out.below hb7)
  have HV7 := hidv (HV6.out.below (hb7.mono (by omega)))
  have HE7 := hidv (HE6.out.below (hb7.mono (by omega)))
  have HU7 := hidv (HU6.out.below (hb7.mono (by omega)))
  have HD7 := hidv (HD6.out.below hb7)
  have HC7 := hidv (HC6.out.below (hb7.mono (by omega)))
  have Hc7 := hidv (Hc6.out.below hb7)
  have HF7 := hidv (hF)
  clear hb7 hF
  obtain ⟨c0, c1, c2⟩ := Hc7.out.three
  go_wp2_with fail
  refine (implWithin_any _ _ _ es e ns ps xs _ _ _ _ HD7.out.row (Nat.le_refl _) hxl HS.out HC7.out (by omega) hl1.1.wide hl1.2.wide HF7.out.row (Nat.le_refl _) hyl HTU.out d c HR.out).mono ?_
  rintro e9 w8 ⟨rfl, hb8⟩
  have s8 := hb8.size
  have BL8 := hidv (below_on BL7.out hb8)
  have Hx8 := hidv (Hx7.out.below hb8)
  have HV8 := hidv (HV7.out.below (hb8.mono (by omega)))
  have HE8 := hidv (HE7.out.below (hb8.mono (by omega)))
  have HU8 := hidv (HU7.out.below (hb8.mono (by omega)))
  have HD8 := hidv (HD7.out.below hb8)
  have HC8 := hidv (HC7.out.below (hb8.mono (by omega)))
  have Hc8 := hidv (Hc7.out.below hb8)
  have HF8 := hidv (HF7.out.below hb8)
  clear hb8
  clear c0 c1 c2
  go_wp2_with fail
  refine (toEqns_any _ es w.heap.size _ HE8.out (by omega) hxl).mono ?_
  rintro e9 w9 ⟨uG, rfl, hG, hb9⟩
  have s9 := hb9.size
  have BL9 := hidv (below_on BL8.out hb9)
  have Hx9 := hidv (Hx8.out.below hb9)
  have HV9 := hidv (HV8.out.below (hb9.mono (by omega)))
  have HE9 := hidv (HE8.out.below (hb9.mono (by omega)))
  have HU9 := hidv (HU8.out.below (hb9.mono (by omega)))
  have HD9 := hidv (HD8.out.below hb9)
  have HC9 := hidv (HC8.out.below (hb9.mono (by omega)))
  have Hc9 := hidv (Hc8.out.below hb9)
  have HF9 := hidv (HF8.out.below hb9)
  have HG9 := hidv (hG)
  clear hb9 hG
  go_wp2_with fail
  refine (eqEqns_same HD9.out.row HG9.out.row (Nat.le_refl _) (Nat.le_refl _) (by omega)).mono ?_
  rintro e9 w10 ⟨rfl, hb10⟩
  have s10 := hb10.size
  have BL10 := hidv (below_on BL9.out hb10)
  have Hx10 := hidv (Hx9.out.below hb10)
  have HV10 := hidv (HV9.out.below (hb10.mono (by omega)))
  have HE10 := hidv (HE9.out.below (hb10.mono (by omega)))
  have HU10 := hidv (HU9.out.below (hb10.mono (by omega)))
  have HD10 := hidv (HD9.out.below hb10)
  have HC10 := hidv (HC9.out.below (hb10.mono (by omega)))
  have Hc10 := hidv (Hc9.out.below hb10)
  have HF10 := hidv (HF9.out.below hb10)
  have HG10 := hidv (HG9.out.below hb10)
  clear hb10
  have hSv := fun W (hW : Below w10.heap.size w10 W) => (show (W.cell? ⟨w.heap.size, 0, none⟩ = some (.int .i64 e) ∧ W.cell? ⟨w.heap.size, 1, none⟩ = some (va) ∧ W.cell? ⟨w.heap.size, 2, none⟩ = some (vb) ∧ W.cell? ⟨w5.heap.size, 0, none⟩ = some (.int .i64 e) ∧ W.cell? ⟨w5.heap.size, 1, none⟩ = some (.slice CA ns.length Cc) ∧ W.cell? ⟨w5.heap.size, 2, none⟩ = some (.slice CP ps.length Cd) ∧ Below w10.heap.size w10 W) from ⟨(Hx10.out.below hW).cell 0, (Hx10.out.below hW).cell 1, (Hx10.out.below hW).cell 2, (Hc10.out.below hW).cell 0, (Hc10.out.below hW).cell 1, (Hc10.out.below hW).cell 2, hW⟩)
  have HSSv := hidv hSv
  clear hSv
  have CTv := hidv (fun W (hW : Below w10.heap.size w10 W) => toBnd2_any _ e ns ps _ W (HV10.out.below (hW.mono (by omega))) (by have := hW.size; omega) hl1.1 hl1.2)
  go_wp2_with fail
  have rfv : Below w10.heap.size w10 w10 := Below.refl _ _
  go_region_held3 (fun W => W.cell? ⟨w.heap.size, 0, none⟩ = some (.int .i64 e) ∧ W.cell? ⟨w.heap.size, 1, none⟩ = some (va) ∧ W.cell? ⟨w.heap.size, 2, none⟩ = some (vb) ∧ W.cell? ⟨w5.heap.size, 0, none⟩ = some (.int .i64 e) ∧ W.cell? ⟨w5.heap.size, 1, none⟩ = some (.slice CA ns.length Cc) ∧ W.cell? ⟨w5.heap.size, 2, none⟩ = some (.slice CP ps.length Cd) ∧ Below w10.heap.size w10 W) (exact HSSv.out _ (by repeat (first | with_reducible assumption | with_reducible exact Below.refl _ _ | with_reducible refine Below.drew ?_ | with_reducible refine below_al ?_ _))) (first | (go_at_call 10; refine (CTv.out _ (by repeat (first | with_reducible assumption | with_reducible exact Below.refl _ _ | with_reducible refine Below.drew ?_ | with_reducible refine below_al ?_ _))).mono ?_; rintro e9 w11 ⟨uEv, rfl, hEv, hbev⟩; have BLev := below_on (show Below w10.heap.size w10 _ from (by repeat (first | with_reducible assumption | with_reducible exact Below.refl _ _ | with_reducible refine Below.drew ?_ | with_reducible refine below_al ?_ _))) hbev; have zev := BLev.size; have hCv := HC10.out.below (BLev.mono (by omega))) | (go_at_call 14; refine (eqBnd_same hCv hEv (by omega) (Nat.le_refl _) hl1.1 hl1.2).mono ?_; rintro e9 w12 ⟨rfl, hbqv⟩; have BLqv := below_on BLev hbqv))
  have s12 := BLqv.size
  have BL12 := hidv (below_on BL10.out BLqv)
  have Hx12 := hidv (Hx10.out.below BLqv)
  have HV12 := hidv (HV10.out.below (BLqv.mono (by omega)))
  have HE12 := hidv (HE10.out.below (BLqv.mono (by omega)))
  have HU12 := hidv (HU10.out.below (BLqv.mono (by omega)))
  have HD12 := hidv (HD10.out.below BLqv)
  have HC12 := hidv (HC10.out.below (BLqv.mono (by omega)))
  have Hc12 := hidv (Hc10.out.below BLqv)
  have HF12 := hidv (HF10.out.below BLqv)
  have HG12 := hidv (HG10.out.below BLqv)
  clear BLqv
  go_wp2_with fail
  refine (toStrs_any _ xs w.heap.size _ HU12.out (by omega) hyl).mono ?_
  rintro e9 w13 ⟨uI, rfl, hI, hb13⟩
  have s13 := hb13.size
  have BL13 := hidv (below_on BL12.out hb13)
  have Hx13 := hidv (Hx12.out.below hb13)
  have HV13 := hidv (HV12.out.below (hb13.mono (by omega)))
  have HE13 := hidv (HE12.out.below (hb13.mono (by omega)))
  have HU13 := hidv (HU12.out.below (hb13.mono (by omega)))
  have HD13 := hidv (HD12.out.below hb13)
  have HC13 := hidv (HC12.out.below (hb13.mono (by omega)))
  have Hc13 := hidv (Hc12.out.below hb13)
  have HF13 := hidv (HF12.out.below hb13)
  have HG13 := hidv (HG12.out.below hb13)
  have HI13 := hidv (hI)
  clear hb13 hI
  go_wp2_with fail
  refine (eqStrs_same HF13.out.row HI13.out.row (by omega)).mono ?_
  rintro e9 w14 ⟨rfl, hb14⟩
  have s14 := hb14.size
  have BL14 := hidv (below_on BL13.out hb14)
  have Hx14 := hidv (Hx13.out.below hb14)
  have HV14 := hidv (HV13.out.below (hb14.mono (by omega)))
  have HE14 := hidv (HE13.out.below (hb14.mono (by omega)))
  have HU14 := hidv (HU13.out.below (hb14.mono (by omega)))
  have HD14 := hidv (HD13.out.below hb14)
  have HC14 := hidv (HC13.out.below (hb14.mono (by omega)))
  have Hc14 := hidv (Hc13.out.below hb14)
  have HF14 := hidv (HF13.out.below hb14)
  have HG14 := hidv (HG13.out.below hb14)
  have HI14 := hidv (HI13.out.below hb14)
  clear hb14
  go_wp2_with fail
  go_ret
  exact ⟨rfl, BL14.out⟩

end Go.Proofs.Ytjoleenehdfkkaa
