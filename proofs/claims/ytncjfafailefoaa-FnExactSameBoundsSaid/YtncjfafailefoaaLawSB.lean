/-
  The law on SameBounds, walked.
-/
import Derived.Test.YtncjfafailefoaaSmB
import Derived.Test.YtncjfafailefoaaOpenB
namespace Go.Proofs.Ytncjfafailefoaa
open Go.RowKit Go
set_option linter.unusedVariables false

theorem first_below {wa wb w' : World} (h : Below wb.heap.size wb w') (e : wa = wb := by rfl) : Below wa.heap.size wa w' := by subst e; exact h

set_option maxHeartbeats 1600000 in
theorem law_FnExactSameBounds (v : Value) (e : Int) (xs ps : List (List Int)) (u : Value) (f : Int) (ys qs : List (List Int)) (w : World) (hv : Bnd w w.heap.size v e xs ps) (hs : BndSz xs ps) (hu : Bnd w w.heap.size u f ys qs) (ht : BndSz ys qs) :
    Calls Try.prog 4 #[v, u] w fun e w' => e = .returned (.bool true) ∧ Below w.heap.size w w' := by
  have HV := hidv hv
  have HU := hidv hu
  have HS := hidv hs
  have HT := hidv ht
  obtain ⟨d, hd⟩ : ∃ d, (decide (e = f) && decide (xs = ys) && decide (ps = qs)) = d := ⟨_, rfl⟩
  have HD := hidv hd
  have hva : ∃ a b, v = .agg #[.int .i64 e, a, b] := by obtain ⟨a, b, hvv, _⟩ := hv; exact ⟨a, b, hvv⟩
  have hub : ∃ a b, u = .agg #[.int .i64 f, a, b] := by obtain ⟨a, b, hvv, _⟩ := hu; exact ⟨a, b, hvv⟩
  clear hv hu hs ht hd
  obtain ⟨va, vb, rfl⟩ := hva
  obtain ⟨ua, ub, rfl⟩ := hub
  go_enter Try.func4, Try.ntmps4
  go_wp2_with fail
  obtain ⟨wS, hwS⟩ : ∃ W, ((w).alloc (.cells #[.int .i64 e, va, vb] 24)).alloc (.cells #[.int .i64 f, ua, ub] 24) = W := ⟨_, rfl⟩
  have BL0 : Hid (Below w.heap.size w wS) := hidv (by rw [← hwS]; exact ((Below.refl _ _).alloc (by simp) _).alloc (by simp) _)
  have Hx0 : Hid (Bx wS (w.heap.size) 24 #[.int .i64 e, va, vb]) := hidv (by
    rw [← hwS]
    have h := Bx.new (w) 24 #[.int .i64 e, va, vb]
    exact h.alloc _)
  have Hy0 : Hid (Bx wS (w.heap.size + 1) 24 #[.int .i64 f, ua, ub]) := hidv (by
    rw [← hwS]
    have h := Bx.new ((w).alloc (.cells #[.int .i64 e, va, vb] 24)) 24 #[.int .i64 f, ua, ub]
    rw [World.size_alloc] at h
    exact h)
  rw [hwS]
  have hwz : w.heap.size + 2 = wS.heap.size := by rw [← hwS]; simp
  have HV0 := hidv (HV.out.below BL0.out)
  have HU0 := hidv (HU.out.below BL0.out)
  clear hwS
  refine (szBnd_any _ e xs ps _ _ HV0.out (by omega) HS.out 1048576 (by omega) (by omega)).mono ?_
  rintro e w1 ⟨r, rfl, hr, hrm, hb1⟩
  have s1 := hb1.size
  have BL1 := hidv (below_on BL0.out hb1)
  have Hx1 := hidv (Hx0.out.below hb1)
  have Hy1 := hidv (Hy0.out.below hb1)
  have HV1 := hidv (HV0.out.below (hb1.mono (by omega)))
  have HU1 := hidv (HU0.out.below (hb1.mono (by omega)))
  clear hb1
  have HRR := hidv hr
  clear hr
  by_cases hr0 : r < 0
  · go_wp2_with fail
    go_ret
    exact ⟨rfl, BL1.out⟩
  have hl1 : RowsMax 1048576 xs ∧ RowsMax 1048576 ps := HRR.out (by omega)
  obtain ⟨y0, y1, y2⟩ := Hy1.out.three
  go_wp2_with fail
  refine (szBnd_any _ f ys qs _ _ HU1.out (by omega) HT.out r (by omega) hrm).mono ?_
  rintro e w2 ⟨q, rfl, hq, hqm, hb2⟩
  have s2 := hb2.size
  have BL2 := hidv (below_on BL1.out hb2)
  have Hx2 := hidv (Hx1.out.below hb2)
  have Hy2 := hidv (Hy1.out.below hb2)
  have HV2 := hidv (HV1.out.below (hb2.mono (by omega)))
  have HU2 := hidv (HU1.out.below (hb2.mono (by omega)))
  clear hb2
  clear y0 y1 y2
  have HQQ := hidv hq
  clear hq
  by_cases hq0 : q < 0
  · go_wp2_with fail
    go_ret
    exact ⟨rfl, BL2.out⟩
  have hl2 : RowsMax 1048576 ys ∧ RowsMax 1048576 qs := HQQ.out (by omega)
  have hS1 := fun W (hW : Below w2.heap.size w2 W) => (show (W.cell? ⟨w.heap.size, 0, none⟩ = some (.int .i64 e) ∧ W.cell? ⟨w.heap.size, 1, none⟩ = some va ∧ W.cell? ⟨w.heap.size, 2, none⟩ = some vb ∧ W.cell? ⟨w.heap.size + 1, 0, none⟩ = some (.int .i64 f) ∧ W.cell? ⟨w.heap.size + 1, 1, none⟩ = some ua ∧ W.cell? ⟨w.heap.size + 1, 2, none⟩ = some ub ∧ Below w2.heap.size w2 W) from ⟨(Hx2.out.below hW).cell 0, (Hx2.out.below hW).cell 1, (Hx2.out.below hW).cell 2, (Hy2.out.below hW).cell 0, (Hy2.out.below hW).cell 1, (Hy2.out.below hW).cell 2, hW⟩)
  have HSS1 := hidv hS1
  clear hS1
  have CX1 := hidv (fun W (hW : Below w2.heap.size w2 W) => toBnd2_any _ e xs ps _ W (HV2.out.below (hW.mono (by omega))) (by have := hW.size; omega) hl1.1 hl1.2)
  have CY1 := hidv (fun W (hW : Below w2.heap.size w2 W) => toBnd2_any _ f ys qs _ W (HU2.out.below (hW.mono (by omega))) (by have := hW.size; omega) hl2.1 hl2.2)
  go_wp2_with fail
  have rf1 : Below w2.heap.size w2 w2 := Below.refl _ _
  go_region_held3 (fun W => W.cell? ⟨w.heap.size, 0, none⟩ = some (.int .i64 e) ∧ W.cell? ⟨w.heap.size, 1, none⟩ = some va ∧ W.cell? ⟨w.heap.size, 2, none⟩ = some vb ∧ W.cell? ⟨w.heap.size + 1, 0, none⟩ = some (.int .i64 f) ∧ W.cell? ⟨w.heap.size + 1, 1, none⟩ = some ua ∧ W.cell? ⟨w.heap.size + 1, 2, none⟩ = some ub ∧ Below w2.heap.size w2 W) (exact HSS1.out _ (by repeat (first | with_reducible assumption | with_reducible exact Below.refl _ _ | with_reducible refine Below.drew ?_ | with_reducible refine below_al ?_ _))) (first | (go_at_call 11; (first | (with_reducible refine (CX1.out _ (by repeat (first | with_reducible assumption | with_reducible exact Below.refl _ _ | with_reducible refine Below.drew ?_ | with_reducible refine below_al ?_ _))).mono ?_; rintro e w3 ⟨uA1, rfl, hA1, hba1⟩; have BLa1 := below_on (show Below w2.heap.size w2 _ from (by repeat (first | with_reducible assumption | with_reducible exact Below.refl _ _ | with_reducible refine Below.drew ?_ | with_reducible refine below_al ?_ _))) hba1) | (with_reducible refine (CY1.out _ (by repeat (first | with_reducible assumption | with_reducible exact Below.refl _ _ | with_reducible refine Below.drew ?_ | with_reducible refine below_al ?_ _))).mono ?_; rintro e w4 ⟨uB1, rfl, hB1, hbb1⟩; have BLb1 := below_on (show Below w2.heap.size w2 _ from (by repeat (first | with_reducible assumption | with_reducible exact Below.refl _ _ | with_reducible refine Below.drew ?_ | with_reducible refine below_al ?_ _))) hbb1; have zb1 := hbb1.size; have hA1' := hA1.below (first_below hbb1))))  | (go_at_call 14; refine (specSmB_any _ _ e f xs ys ps qs _ _ _ hA1' hB1 (by omega) (by omega) hl1.1 hl2.1 hl1.2 hl2.2 d HD.out).mono ?_; rintro e w5 ⟨rfl, hbc1⟩; have BLc1 := below_on BLb1 hbc1))
  have s5 := BLc1.size
  have BL5 := hidv (below_on BL2.out BLc1)
  have Hx5 := hidv (Hx2.out.below BLc1)
  have Hy5 := hidv (Hy2.out.below BLc1)
  have HV5 := hidv (HV2.out.below (BLc1.mono (by omega)))
  have HU5 := hidv (HU2.out.below (BLc1.mono (by omega)))
  clear BLc1
  obtain ⟨x0, x1, x2⟩ := Hx5.out.three
  go_wp2_with fail
  refine (toBnd2_any _ e xs ps _ _ HV5.out (by omega) hl1.1 hl1.2).mono ?_
  rintro e w6 ⟨uC, rfl, hC, hb6⟩
  obtain ⟨CA, Cc, CP, Cd, huu⟩ := hC.form
  subst huu
  have s6 := hb6.size
  have BL6 := hidv (below_on BL5.out hb6)
  have Hx6 := hidv (Hx5.out.below hb6)
  have Hy6 := hidv (Hy5.out.below hb6)
  have HV6 := hidv (HV5.out.below (hb6.mono (by omega)))
  have HU6 := hidv (HU5.out.below (hb6.mono (by omega)))
  have HC6 := hidv (hC)
  clear hb6 hC
  clear x0 x1 x2
  obtain ⟨y0, y1, y2⟩ := Hy6.out.three
  have ylt := Hy6.out.lt
  go_wp2_with fail
  obtain ⟨w7, hw7⟩ : ∃ W, w6.alloc (.cells #[.int .i64 e, .slice CA xs.length Cc, .slice CP ps.length Cd] 27) = W := ⟨_, rfl⟩
  have hb7 : Below w6.heap.size w6 w7 := by rw [← hw7]; exact below_al (Below.refl _ _) _
  have Hc7 : Hid (Bx w7 w6.heap.size 27 #[.int .i64 e, .slice CA xs.length Cc, .slice CP ps.length Cd]) := hidv (by rw [← hw7]; exact Bx.new _ _ _)
  rw [hw7]
  have s7 := hb7.size
  have BL7 := hidv (below_on BL6.out hb7)
  have Hx7 := hidv (Hx6.out.below hb7)
  have Hy7 := hidv (Hy6.out.below hb7)
  have HV7 := hidv (HV6.out.below (hb7.mono (by omega)))
  have HU7 := hidv (HU6.out.below (hb7.mono (by omega)))
  have HC7 := hidv (HC6.out.below (hb7.mono (by omega)))
  clear hb7 hw7
  clear y0 y1 y2 ylt
  refine (toBnd2_any _ f ys qs _ _ HU7.out (by omega) hl2.1 hl2.2).mono ?_
  rintro e w8 ⟨uD, rfl, hD, hb8⟩
  obtain ⟨DA, Dc, DP, Dd, huu⟩ := hD.form
  subst huu
  have s8 := hb8.size
  have BL8 := hidv (below_on BL7.out hb8)
  have Hx8 := hidv (Hx7.out.below hb8)
  have Hy8 := hidv (Hy7.out.below hb8)
  have HV8 := hidv (HV7.out.below (hb8.mono (by omega)))
  have HU8 := hidv (HU7.out.below (hb8.mono (by omega)))
  have HC8 := hidv (HC7.out.below (hb8.mono (by omega)))
  have Hc8 := hidv (Hc7.out.below hb8)
  have HD8 := hidv (hD)
  clear hb8 hD
  obtain ⟨c0, c1, c2⟩ := Hc8.out.three
  have clt := Hc8.out.lt
  go_wp2_with fail
  obtain ⟨w9, hw9⟩ : ∃ W, w8.alloc (.cells #[.int .i64 f, .slice DA ys.length Dc, .slice DP qs.length Dd] 27) = W := ⟨_, rfl⟩
  have hb9 : Below w8.heap.size w8 w9 := by rw [← hw9]; exact below_al (Below.refl _ _) _
  have Hd9 : Hid (Bx w9 w8.heap.size 27 #[.int .i64 f, .slice DA ys.length Dc, .slice DP qs.length Dd]) := hidv (by rw [← hw9]; exact Bx.new _ _ _)
  rw [hw9]
  have s9 := hb9.size
  have BL9 := hidv (below_on BL8.out hb9)
  have Hx9 := hidv (Hx8.out.below hb9)
  have Hy9 := hidv (Hy8.out.below hb9)
  have HV9 := hidv (HV8.out.below (hb9.mono (by omega)))
  have HU9 := hidv (HU8.out.below (hb9.mono (by omega)))
  have HC9 := hidv (HC8.out.below (hb9.mono (by omega)))
  have Hc9 := hidv (Hc8.out.below hb9)
  have HD9 := hidv (HD8.out.below (hb9.mono (by omega)))
  clear hb9 hw9
  clear c0 c1 c2 clt
  refine (implSmB_any _ _ e f xs ys ps qs _ _ _ HC9.out HD9.out (by omega) (by omega) hl1.1 hl2.1 hl1.2 hl2.2 d HD.out).mono ?_
  rintro e w10 ⟨rfl, hb10⟩
  have s10 := hb10.size
  have BL10 := hidv (below_on BL9.out hb10)
  have Hx10 := hidv (Hx9.out.below hb10)
  have Hy10 := hidv (Hy9.out.below hb10)
  have HV10 := hidv (HV9.out.below (hb10.mono (by omega)))
  have HU10 := hidv (HU9.out.below (hb10.mono (by omega)))
  have HC10 := hidv (HC9.out.below (hb10.mono (by omega)))
  have Hc10 := hidv (Hc9.out.below hb10)
  have HD10 := hidv (HD9.out.below (hb10.mono (by omega)))
  have Hd10 := hidv (Hd9.out.below hb10)
  clear hb10
  have hSv := fun W (hW : Below w10.heap.size w10 W) => (show (W.cell? ⟨w.heap.size, 0, none⟩ = some (.int .i64 e) ∧ W.cell? ⟨w.heap.size, 1, none⟩ = some (va) ∧ W.cell? ⟨w.heap.size, 2, none⟩ = some (vb) ∧ W.cell? ⟨w6.heap.size, 0, none⟩ = some (.int .i64 e) ∧ W.cell? ⟨w6.heap.size, 1, none⟩ = some (.slice CA xs.length Cc) ∧ W.cell? ⟨w6.heap.size, 2, none⟩ = some (.slice CP ps.length Cd) ∧ Below w10.heap.size w10 W) from ⟨(Hx10.out.below hW).cell 0, (Hx10.out.below hW).cell 1, (Hx10.out.below hW).cell 2, (Hc10.out.below hW).cell 0, (Hc10.out.below hW).cell 1, (Hc10.out.below hW).cell 2, hW⟩)
  have HSSv := hidv hSv
  clear hSv
  have CTv := hidv (fun W (hW : Below w10.heap.size w10 W) => toBnd2_any _ e xs ps _ W (HV10.out.below (hW.mono (by omega))) (by have := hW.size; omega) hl1.1 hl1.2)
  go_wp2_with fail
  have rfv : Below w10.heap.size w10 w10 := Below.refl _ _
  go_region_held3 (fun W => W.cell? ⟨w.heap.size, 0, none⟩ = some (.int .i64 e) ∧ W.cell? ⟨w.heap.size, 1, none⟩ = some (va) ∧ W.cell? ⟨w.heap.size, 2, none⟩ = some (vb) ∧ W.cell? ⟨w6.heap.size, 0, none⟩ = some (.int .i64 e) ∧ W.cell? ⟨w6.heap.size, 1, none⟩ = some (.slice CA xs.length Cc) ∧ W.cell? ⟨w6.heap.size, 2, none⟩ = some (.slice CP ps.length Cd) ∧ Below w10.heap.size w10 W) (exact HSSv.out _ (by repeat (first | with_reducible assumption | with_reducible exact Below.refl _ _ | with_reducible refine Below.drew ?_ | with_reducible refine below_al ?_ _))) (first | (go_at_call 11; refine (CTv.out _ (by repeat (first | with_reducible assumption | with_reducible exact Below.refl _ _ | with_reducible refine Below.drew ?_ | with_reducible refine below_al ?_ _))).mono ?_; rintro e w11 ⟨uEv, rfl, hEv, hbev⟩; have BLev := below_on (show Below w10.heap.size w10 _ from (by repeat (first | with_reducible assumption | with_reducible exact Below.refl _ _ | with_reducible refine Below.drew ?_ | with_reducible refine below_al ?_ _))) hbev; have zev := BLev.size; have hCv := HC10.out.below (BLev.mono (by omega))) | (go_at_call 13; refine (eqBnd_same hCv hEv (by omega) (Nat.le_refl _) hl1.1 hl1.2).mono ?_; rintro e w12 ⟨rfl, hbqv⟩; have BLqv := below_on BLev hbqv))
  have s12 := BLqv.size
  have BL12 := hidv (below_on BL10.out BLqv)
  have Hx12 := hidv (Hx10.out.below BLqv)
  have Hy12 := hidv (Hy10.out.below BLqv)
  have HV12 := hidv (HV10.out.below (BLqv.mono (by omega)))
  have HU12 := hidv (HU10.out.below (BLqv.mono (by omega)))
  have HC12 := hidv (HC10.out.below (BLqv.mono (by omega)))
  have Hc12 := hidv (Hc10.out.below BLqv)
  have HD12 := hidv (HD10.out.below (BLqv.mono (by omega)))
  have Hd12 := hidv (Hd10.out.below BLqv)
  clear BLqv
  have hSu := fun W (hW : Below w12.heap.size w12 W) => (show (W.cell? ⟨w.heap.size + 1, 0, none⟩ = some (.int .i64 f) ∧ W.cell? ⟨w.heap.size + 1, 1, none⟩ = some (ua) ∧ W.cell? ⟨w.heap.size + 1, 2, none⟩ = some (ub) ∧ W.cell? ⟨w8.heap.size, 0, none⟩ = some (.int .i64 f) ∧ W.cell? ⟨w8.heap.size, 1, none⟩ = some (.slice DA ys.length Dc) ∧ W.cell? ⟨w8.heap.size, 2, none⟩ = some (.slice DP qs.length Dd) ∧ Below w12.heap.size w12 W) from ⟨(Hy12.out.below hW).cell 0, (Hy12.out.below hW).cell 1, (Hy12.out.below hW).cell 2, (Hd12.out.below hW).cell 0, (Hd12.out.below hW).cell 1, (Hd12.out.below hW).cell 2, hW⟩)
  have HSSu := hidv hSu
  clear hSu
  have CTu := hidv (fun W (hW : Below w12.heap.size w12 W) => toBnd2_any _ f ys qs _ W (HU12.out.below (hW.mono (by omega))) (by have := hW.size; omega) hl2.1 hl2.2)
  go_wp2_with fail
  have rfu : Below w12.heap.size w12 w12 := Below.refl _ _
  go_region_held3 (fun W => W.cell? ⟨w.heap.size + 1, 0, none⟩ = some (.int .i64 f) ∧ W.cell? ⟨w.heap.size + 1, 1, none⟩ = some (ua) ∧ W.cell? ⟨w.heap.size + 1, 2, none⟩ = some (ub) ∧ W.cell? ⟨w8.heap.size, 0, none⟩ = some (.int .i64 f) ∧ W.cell? ⟨w8.heap.size, 1, none⟩ = some (.slice DA ys.length Dc) ∧ W.cell? ⟨w8.heap.size, 2, none⟩ = some (.slice DP qs.length Dd) ∧ Below w12.heap.size w12 W) (exact HSSu.out _ (by repeat (first | with_reducible assumption | with_reducible exact Below.refl _ _ | with_reducible refine Below.drew ?_ | with_reducible refine below_al ?_ _))) (first | (go_at_call 11; refine (CTu.out _ (by repeat (first | with_reducible assumption | with_reducible exact Below.refl _ _ | with_reducible refine Below.drew ?_ | with_reducible refine below_al ?_ _))).mono ?_; rintro e w13 ⟨uEu, rfl, hEu, hbeu⟩; have BLeu := below_on (show Below w12.heap.size w12 _ from (by repeat (first | with_reducible assumption | with_reducible exact Below.refl _ _ | with_reducible refine Below.drew ?_ | with_reducible refine below_al ?_ _))) hbeu; have zeu := BLeu.size; have hCu := HD12.out.below (BLeu.mono (by omega))) | (go_at_call 13; refine (eqBnd_same hCu hEu (by omega) (Nat.le_refl _) hl2.1 hl2.2).mono ?_; rintro e w14 ⟨rfl, hbqu⟩; have BLqu := below_on BLeu hbqu))
  have s14 := BLqu.size
  have BL14 := hidv (below_on BL12.out BLqu)
  have Hx14 := hidv (Hx12.out.below BLqu)
  have Hy14 := hidv (Hy12.out.below BLqu)
  have HV14 := hidv (HV12.out.below (BLqu.mono (by omega)))
  have HU14 := hidv (HU12.out.below (BLqu.mono (by omega)))
  have HC14 := hidv (HC12.out.below (BLqu.mono (by omega)))
  have Hc14 := hidv (Hc12.out.below BLqu)
  have HD14 := hidv (HD12.out.below (BLqu.mono (by omega)))
  have Hd14 := hidv (Hd12.out.below BLqu)
  clear BLqu
  go_wp2_with fail
  go_ret
  exact ⟨rfl, BL14.out⟩

end Go.Proofs.Ytncjfafailefoaa
