/-
  The law on FamilyOfPowers, walked.
-/
import Derived.Test.YthomkmbobaehkaaPf
import Derived.Deep.RegionHeld3
namespace Go.Proofs.Ythomkmbobaehkaa
open Go.RowKit Go
set_option linter.unusedVariables false

set_option maxHeartbeats 1600000 in
theorem law_FnExactFamilyOfPowers (r t : ByteArray) (f : Int) (w : World) (hr : r.size ≤ maxLen) (ht : t.size ≤ maxLen) (_ : (Lit.int .i64 f).wf = true) :
    Calls Try.prog 8 #[.agg #[.string r, .string t, .int .i64 f]] w fun e w' => e = .returned (.bool true) ∧ Below w.heap.size w w' := by
  obtain ⟨rs, c, hR, hn⟩ := pfR_ex r t f
  have HR := hidv hR
  clear hR
  have hml : rs.length + qTot rs ≤ 1048576 := by omega
  have hmx : FamMax rs := famMax_of hml
  have H1 := hidv (fun W => implPf_any r t f W hr ht rs c HR.out)
  have H2 := hidv (fun W => specPf_any r t f W hr ht rs c HR.out)
  have H3 := hidv (fun W => szPw_any r t f 1048576 W hr ht (by omega) (by omega))
  have H4 := hidv (fun W => toPw_any r t f W)
  go_enter Try.func8, Try.ntmps8
  go_wp2_with fail
  obtain ⟨wS, hwS⟩ : ∃ W, (w).alloc (.cells #[.string r, .string t, .int .i64 f] 59) = W := ⟨_, rfl⟩
  have BL0 : Hid (Below w.heap.size w wS) := hidv (by rw [← hwS]; exact (Below.refl _ _).alloc (by simp) _)
  have Hx0 : Hid (Bx wS (w.heap.size) 59 #[.string r, .string t, .int .i64 f]) := hidv (by
    rw [← hwS]
    have h := Bx.new (w) 59 #[.string r, .string t, .int .i64 f]
    exact h)
  rw [hwS]
  have hwz : w.heap.size + 1 = wS.heap.size := by rw [← hwS]; simp
  clear hwS
  refine (H3.out _).mono ?_
  rintro e9 w1 ⟨q, rfl, hq, hb1⟩
  have s1 := hb1.size
  have BL1 := hidv (below_on BL0.out hb1)
  have Hx1 := hidv (Hx0.out.below hb1)
  clear hb1
  by_cases hq0 : q < 0
  · go_wp2_with fail
    go_ret
    exact ⟨rfl, BL1.out⟩
  obtain ⟨x0, x1, x2⟩ := three_of Hx1.out
  go_wp2_with fail
  refine (H4.out _).mono ?_
  rintro e9 w2 ⟨rfl, hb2⟩
  have s2 := hb2.size
  have BL2 := hidv (below_on BL1.out hb2)
  have Hx2 := hidv (Hx1.out.below hb2)
  clear hb2
  clear x0 x1 x2
  go_wp2_with fail
  refine (H2.out _).mono ?_
  rintro e9 w3 ⟨uW, rfl, hW, hb3⟩
  obtain ⟨WA, Wc, huu⟩ := hW.row.form
  subst huu
  have s3 := hb3.size
  have BL3 := hidv (below_on BL2.out hb3)
  have Hx3 := hidv (Hx2.out.below hb3)
  have HW3 := hidv (hW.row)
  clear hb3
  obtain ⟨x0, x1, x2⟩ := three_of Hx3.out
  have xlt := Hx3.out.lt
  go_wp2_with fail
  obtain ⟨w4, hw4⟩ : ∃ W, w3.alloc (.cells #[.slice WA rs.length Wc] 48) = W := ⟨_, rfl⟩
  have hb4 : Below w3.heap.size w3 w4 := by rw [← hw4]; exact below_al (Below.refl _ _) _
  have Hw4 : Hid (Bx w4 w3.heap.size 48 #[.slice WA rs.length Wc]) := hidv (by rw [← hw4]; exact Bx.new _ _ _)
  rw [hw4]
  have s4 := hb4.size
  have BL4 := hidv (below_on BL3.out hb4)
  have Hx4 := hidv (Hx3.out.below hb4)
  have HW4 := hidv (HW3.out.below (hb4.mono (by omega)))
  clear hb4 hw4
  clear x0 x1 x2 xlt
  refine (H4.out _).mono ?_
  rintro e9 w5 ⟨rfl, hb5⟩
  have s5 := hb5.size
  have BL5 := hidv (below_on BL4.out hb5)
  have Hx5 := hidv (Hx4.out.below hb5)
  have HW5 := hidv (HW4.out.below (hb5.mono (by omega)))
  have Hw5 := hidv (Hw4.out.below hb5)
  clear hb5
  go_wp2_with fail
  refine (H1.out _).mono ?_
  rintro e9 w6 ⟨uG, rfl, hG, hb6⟩
  obtain ⟨GA, Gc, huu⟩ := hG.row.form
  subst huu
  have s6 := hb6.size
  have BL6 := hidv (below_on BL5.out hb6)
  have Hx6 := hidv (Hx5.out.below hb6)
  have HW6 := hidv (HW5.out.below (hb6.mono (by omega)))
  have Hw6 := hidv (Hw5.out.below hb6)
  have HG6 := hidv (hG)
  clear hb6 hG
  have w0 := Hw6.out.one
  have wlt := Hw6.out.lt
  go_wp2_with fail
  obtain ⟨w7, hw7⟩ : ∃ W, w6.alloc (.cells #[.slice GA rs.length Gc] 48) = W := ⟨_, rfl⟩
  have hb7 : Below w6.heap.size w6 w7 := by rw [← hw7]; exact below_al (Below.refl _ _) _
  have Hg7 : Hid (Bx w7 w6.heap.size 48 #[.slice GA rs.length Gc]) := hidv (by rw [← hw7]; exact Bx.new _ _ _)
  rw [hw7]
  have s7 := hb7.size
  have BL7 := hidv (below_on BL6.out hb7)
  have Hx7 := hidv (Hx6.out.below hb7)
  have HW7 := hidv (HW6.out.below (hb7.mono (by omega)))
  have Hw7 := hidv (Hw6.out.below hb7)
  have HG7 := hidv (HG6.out.below hb7)
  clear hb7 hw7
  clear w0 wlt
  refine (eqFam_same (HG7.out.row.more (by omega)) (HW7.out.more (by omega)) hmx).mono ?_
  rintro e9 w8 ⟨rfl, hb8⟩
  have s8 := hb8.size
  have BL8 := hidv (below_on BL7.out hb8)
  have Hx8 := hidv (Hx7.out.below hb8)
  have HW8 := hidv (HW7.out.below (hb8.mono (by omega)))
  have Hw8 := hidv (Hw7.out.below hb8)
  have HG8 := hidv (HG7.out.below hb8)
  have Hg8 := hidv (Hg7.out.below hb8)
  clear hb8
  have g0 := Hg8.out.one
  have glt := Hg8.out.lt
  go_wp2_with fail
  refine (markFam_any _ rs _ _ HG8.out (by omega) hml).mono ?_
  rintro e9 w9 ⟨rfl, hvm, hbm, hkm⟩
  have s9 := hbm.size
  have BL9 := hidv (BL8.out.trans (hbm.mono (by omega)))
  have Hw9 := hidv (hkm.1 _ _ _ (by decide) Hw8.out)
  have Hg9 := hidv (hkm.1 _ _ _ (by decide) Hg8.out)
  have Hx9 := hidv (hkm.1 _ _ _ (by decide) Hx8.out)
  have HW9 := hidv (HW8.out.below (hbm.mono (by omega)))
  have HG9 := hidv hvm
  clear hbm hvm hkm g0 glt
  have g0 := Hg9.out.one
  go_wp2_with fail
  refine (heldFam_any _ rs _ _ HG9.out.row (by omega) hml).mono ?_
  rintro e9 w10 ⟨rfl, hb10⟩
  have s10 := hb10.size
  have BL10 := hidv (below_on BL9.out hb10)
  have Hw10 := hidv (Hw9.out.below hb10)
  have Hg10 := hidv (Hg9.out.below hb10)
  have Hx10 := hidv (Hx9.out.below hb10)
  have HW10 := hidv (HW9.out.below (hb10.mono (by omega)))
  have HG10 := hidv (HG9.out.below hb10)
  clear hb10
  clear g0
  obtain ⟨x0, x1, x2⟩ := three_of Hx10.out
  go_wp2_with fail
  refine (H4.out _).mono ?_
  rintro e9 w11 ⟨rfl, hb11⟩
  have s11 := hb11.size
  have BL11 := hidv (below_on BL10.out hb11)
  have Hw11 := hidv (Hw10.out.below hb11)
  have Hg11 := hidv (Hg10.out.below hb11)
  have Hx11 := hidv (Hx10.out.below hb11)
  have HW11 := hidv (HW10.out.below (hb11.mono (by omega)))
  have HG11 := hidv (HG10.out.below hb11)
  clear hb11
  clear x0 x1 x2
  go_wp2_with fail
  refine (H1.out _).mono ?_
  rintro e9 w12 ⟨uH, rfl, hH, hb12⟩
  obtain ⟨HA, Hc, huu⟩ := hH.row.form
  subst huu
  have s12 := hb12.size
  have BL12 := hidv (below_on BL11.out hb12)
  have Hw12 := hidv (Hw11.out.below hb12)
  have Hg12 := hidv (Hg11.out.below hb12)
  have Hx12 := hidv (Hx11.out.below hb12)
  have HW12 := hidv (HW11.out.below (hb12.mono (by omega)))
  have HG12 := hidv (HG11.out.below hb12)
  have HH12 := hidv (hH.row)
  clear hb12
  have w0 := Hw12.out.one
  have wlt := Hw12.out.lt
  go_wp2_with fail
  obtain ⟨w13, hw13⟩ : ∃ W, w12.alloc (.cells #[.slice HA rs.length Hc] 48) = W := ⟨_, rfl⟩
  have hb13 : Below w12.heap.size w12 w13 := by rw [← hw13]; exact below_al (Below.refl _ _) _
  have Hh13 : Hid (Bx w13 w12.heap.size 48 #[.slice HA rs.length Hc]) := hidv (by rw [← hw13]; exact Bx.new _ _ _)
  rw [hw13]
  have s13 := hb13.size
  have BL13 := hidv (below_on BL12.out hb13)
  have Hw13 := hidv (Hw12.out.below hb13)
  have Hg13 := hidv (Hg12.out.below hb13)
  have Hx13 := hidv (Hx12.out.below hb13)
  have HW13 := hidv (HW12.out.below (hb13.mono (by omega)))
  have HG13 := hidv (HG12.out.below hb13)
  have HH13 := hidv (HH12.out.below (hb13.mono (by omega)))
  clear hb13 hw13
  clear w0 wlt
  refine (eqFam_same (HH13.out.more (by omega)) (HW13.out.more (by omega)) hmx).mono ?_
  rintro e9 w14 ⟨rfl, hb14⟩
  have s14 := hb14.size
  have BL14 := hidv (below_on BL13.out hb14)
  have Hw14 := hidv (Hw13.out.below hb14)
  have Hg14 := hidv (Hg13.out.below hb14)
  have Hx14 := hidv (Hx13.out.below hb14)
  have HW14 := hidv (HW13.out.below (hb14.mono (by omega)))
  have HG14 := hidv (HG13.out.below hb14)
  have HH14 := hidv (HH13.out.below (hb14.mono (by omega)))
  have Hh14 := hidv (Hh13.out.below hb14)
  clear hb14
  have g0 := Hg14.out.one
  go_wp2_with fail
  refine (heldFam_any _ rs _ _ HG14.out.row (by omega) hml).mono ?_
  rintro e9 w15 ⟨rfl, hb15⟩
  have s15 := hb15.size
  have BL15 := hidv (below_on BL14.out hb15)
  have Hw15 := hidv (Hw14.out.below hb15)
  have Hg15 := hidv (Hg14.out.below hb15)
  have Hx15 := hidv (Hx14.out.below hb15)
  have HW15 := hidv (HW14.out.below (hb15.mono (by omega)))
  have HG15 := hidv (HG14.out.below hb15)
  have HH15 := hidv (HH14.out.below (hb15.mono (by omega)))
  have Hh15 := hidv (Hh14.out.below hb15)
  clear hb15
  clear g0
  go_wp2_with fail
  go_ret
  exact ⟨rfl, BL15.out⟩

end Go.Proofs.Ythomkmbobaehkaa
