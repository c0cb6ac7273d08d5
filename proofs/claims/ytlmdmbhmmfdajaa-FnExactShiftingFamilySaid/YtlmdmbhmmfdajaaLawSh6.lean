/-
  The law on ShiftingFamily, walked.
-/
import Derived.Test.YtlmdmbhmmfdajaaSh6
import Derived.Deep.RegionHeld3
namespace Go.Proofs.Ytlmdmbhmmfdajaa
open Go.RowKit Go
set_option linter.unusedVariables false

set_option maxHeartbeats 1600000 in
theorem law_FnExactShiftingFamily (p q : ByteArray) (w : World) (hp : p.size ≤ maxLen) (hq : q.size ≤ maxLen) :
    Calls Try.prog 6 #[.string p, .string q] w fun e w' => e = .returned (.bool true) ∧ Below w.heap.size w w' := by
  obtain ⟨rs, c, hn, h1, h2⟩ := sh_both p q hp hq
  have H1 := hidv h1
  have H2 := hidv h2
  clear h1 h2
  unfold maxLen at *
  by_cases hg_p : (1048576 : Int) < p.size
  · go_enter Try.func6, Try.ntmps6
    go_wp2
    go_ret
    exact ⟨rfl, Below.refl _ _⟩
  by_cases hg_q : (1048576 : Int) < q.size
  · go_enter Try.func6, Try.ntmps6
    go_wp2
    go_ret
    exact ⟨rfl, Below.refl _ _⟩
  obtain ⟨wS, hwS⟩ : ∃ W, w = W := ⟨_, rfl⟩
  have BL0 : Hid (Below w.heap.size w wS) := hidv (by rw [← hwS]; exact Below.refl _ _)
  have hwz : w.heap.size = wS.heap.size := by rw [hwS]
  have hml : rs.length + qTot rs ≤ 1048576 := by omega
  have hmx : FamMax rs := famMax_of hml
  go_enter Try.func6, Try.ntmps6
  go_wp2_with fail
  clear hwS
  refine (H2.out _).mono ?_
  rintro e9 w1 ⟨uW, rfl, hW, hb1⟩
  obtain ⟨WA, Wc, huu⟩ := hW.row.form
  subst huu
  have s1 := hb1.size
  have BL1 := hidv (below_on BL0.out hb1)
  have HW1 := hidv (hW.row)
  clear hb1
  go_wp2_with fail
  obtain ⟨w2, hw2⟩ : ∃ W, w1.alloc (.cells #[.slice WA rs.length Wc] 29) = W := ⟨_, rfl⟩
  have hb2 : Below w1.heap.size w1 w2 := by rw [← hw2]; exact below_al (Below.refl _ _) _
  have Hw2 : Hid (Bx w2 w1.heap.size 29 #[.slice WA rs.length Wc]) := hidv (by rw [← hw2]; exact Bx.new _ _ _)
  rw [hw2]
  have s2 := hb2.size
  have BL2 := hidv (below_on BL1.out hb2)
  have HW2 := hidv (HW1.out.below (hb2.mono (by omega)))
  clear hb2 hw2
  refine (H1.out _).mono ?_
  rintro e9 w3 ⟨uG, rfl, hG, hb3⟩
  obtain ⟨GA, Gc, huu⟩ := hG.row.form
  subst huu
  have s3 := hb3.size
  have BL3 := hidv (below_on BL2.out hb3)
  have HW3 := hidv (HW2.out.below (hb3.mono (by omega)))
  have Hw3 := hidv (Hw2.out.below hb3)
  have HG3 := hidv (hG)
  clear hb3 hG
  have w0 := Hw3.out.one
  have wlt := Hw3.out.lt
  go_wp2_with fail
  obtain ⟨w4, hw4⟩ : ∃ W, w3.alloc (.cells #[.slice GA rs.length Gc] 29) = W := ⟨_, rfl⟩
  have hb4 : Below w3.heap.size w3 w4 := by rw [← hw4]; exact below_al (Below.refl _ _) _
  have Hg4 : Hid (Bx w4 w3.heap.size 29 #[.slice GA rs.length Gc]) := hidv (by rw [← hw4]; exact Bx.new _ _ _)
  rw [hw4]
  have s4 := hb4.size
  have BL4 := hidv (below_on BL3.out hb4)
  have HW4 := hidv (HW3.out.below (hb4.mono (by omega)))
  have Hw4 := hidv (Hw3.out.below hb4)
  have HG4 := hidv (HG3.out.below hb4)
  clear hb4 hw4
  clear w0 wlt
  refine (eqFam_same (HG4.out.row.more (by omega)) (HW4.out.more (by omega)) hmx).mono ?_
  rintro e9 w5 ⟨rfl, hb5⟩
  have s5 := hb5.size
  have BL5 := hidv (below_on BL4.out hb5)
  have HW5 := hidv (HW4.out.below (hb5.mono (by omega)))
  have Hw5 := hidv (Hw4.out.below hb5)
  have HG5 := hidv (HG4.out.below hb5)
  have Hg5 := hidv (Hg4.out.below hb5)
  clear hb5
  have g0 := Hg5.out.one
  have glt := Hg5.out.lt
  go_wp2_with fail
  refine (markFam_any _ rs _ _ HG5.out (by omega) hml).mono ?_
  rintro e9 w6 ⟨rfl, hvm, hbm, hkm⟩
  have s6 := hbm.size
  have BL6 := hidv (BL5.out.trans (hbm.mono (by omega)))
  have Hw6 := hidv (hkm.1 _ _ _ (by decide) Hw5.out)
  have Hg6 := hidv (hkm.1 _ _ _ (by decide) Hg5.out)
  have HW6 := hidv (HW5.out.below (hbm.mono (by omega)))
  have HG6 := hidv hvm
  clear hbm hvm hkm g0 glt
  have g0 := Hg6.out.one
  go_wp2_with fail
  refine (heldFam_any _ rs _ _ HG6.out.row (by omega) hml).mono ?_
  rintro e9 w7 ⟨rfl, hb7⟩
  have s7 := hb7.size
  have BL7 := hidv (below_on BL6.out hb7)
  have Hw7 := hidv (Hw6.out.below hb7)
  have Hg7 := hidv (Hg6.out.below hb7)
  have HW7 := hidv (HW6.out.below (hb7.mono (by omega)))
  have HG7 := hidv (HG6.out.below hb7)
  clear hb7
  clear g0
  go_wp2_with fail
  refine (H1.out _).mono ?_
  rintro e9 w8 ⟨uH, rfl, hH, hb8⟩
  obtain ⟨HA, Hc, huu⟩ := hH.row.form
  subst huu
  have s8 := hb8.size
  have BL8 := hidv (below_on BL7.out hb8)
  have Hw8 := hidv (Hw7.out.below hb8)
  have Hg8 := hidv (Hg7.out.below hb8)
  have HW8 := hidv (HW7.out.below (hb8.mono (by omega)))
  have HG8 := hidv (HG7.out.below hb8)
  have HH8 := hidv (hH.row)
  clear hb8
  have w0 := Hw8.out.one
  have wlt := Hw8.out.lt
  go_wp2_with fail
  obtain ⟨w9, hw9⟩ : ∃ W, w8.alloc (.cells #[.slice HA rs.length Hc] 29) = W := ⟨_, rfl⟩
  have hb9 : Below w8.heap.size w8 w9 := by rw [← hw9]; exact below_al (Below.refl _ _) _
  have Hh9 : Hid (Bx w9 w8.heap.size 29 #[.slice HA rs.length Hc]) := hidv (by rw [← hw9]; exact Bx.new _ _ _)
  rw [hw9]
  have s9 := hb9.size
  have BL9 := hidv (below_on BL8.out hb9)
  have Hw9 := hidv (Hw8.out.below hb9)
  have Hg9 := hidv (Hg8.out.below hb9)
  have HW9 := hidv (HW8.out.below (hb9.mono (by omega)))
  have HG9 := hidv (HG8.out.below hb9)
  have HH9 := hidv (HH8.out.below (hb9.mono (by omega)))
  clear hb9 hw9
  clear w0 wlt
  refine (eqFam_same (HH9.out.more (by omega)) (HW9.out.more (by omega)) hmx).mono ?_
  rintro e9 w10 ⟨rfl, hb10⟩
  have s10 := hb10.size
  have BL10 := hidv (below_on BL9.out hb10)
  have Hw10 := hidv (Hw9.out.below hb10)
  have Hg10 := hidv (Hg9.out.below hb10)
  have HW10 := hidv (HW9.out.below (hb10.mono (by omega)))
  have HG10 := hidv (HG9.out.below hb10)
  have HH10 := hidv (HH9.out.below (hb10.mono (by omega)))
  have Hh10 := hidv (Hh9.out.below hb10)
  clear hb10
  have g0 := Hg10.out.one
  go_wp2_with fail
  refine (heldFam_any _ rs _ _ HG10.out.row (by omega) hml).mono ?_
  rintro e9 w11 ⟨rfl, hb11⟩
  have s11 := hb11.size
  have BL11 := hidv (below_on BL10.out hb11)
  have Hw11 := hidv (Hw10.out.below hb11)
  have Hg11 := hidv (Hg10.out.below hb11)
  have HW11 := hidv (HW10.out.below (hb11.mono (by omega)))
  have HG11 := hidv (HG10.out.below hb11)
  have HH11 := hidv (HH10.out.below (hb11.mono (by omega)))
  have Hh11 := hidv (Hh10.out.below hb11)
  clear hb11
  clear g0
  go_wp2_with fail
  go_ret
  exact ⟨rfl, BL11.out⟩

end Go.Proofs.Ytlmdmbhmmfdajaa
