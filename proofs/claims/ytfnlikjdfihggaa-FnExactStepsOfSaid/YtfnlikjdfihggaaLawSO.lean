/-
  StepsOf, of the program and of the model, and the law over them.
-/
import Derived.Test.YtfnlikjdfihggaaSt3
import Derived.Test.YtfnlikjdfihggaaStripI
import Derived.Test.YtfnlikjdfihggaaMP
import Derived.Test.YtfnlikjdfihggaaStpQ
import Derived.Deep.Onto
namespace Go.Proofs.Ytfnlikjdfihggaa
open Go.RowKit Go
set_option linter.unusedVariables false

theorem stripF_len : ∀ u v : List UInt8, (stripF u v).1.length ≤ u.length ∧ (stripF u v).2.length ≤ v.length
  | [], v => by rw [stripF_nilL]; simp
  | a :: u, [] => by rw [stripF_nilR]; simp
  | a :: u, b :: v => by
    have ih := stripF_len u v
    unfold stripF
    by_cases h : a = b
    · rw [if_pos h]
      exact ⟨Nat.le_succ_of_le ih.1, Nat.le_succ_of_le ih.2⟩
    · rw [if_neg h]
      simp
theorem eqnB_24s {l r : ByteArray} (h : eqnB l r = true) : l.size ≤ 24 ∧ r.size ≤ 24 := by
  unfold eqnB at h
  rw [Bool.and_eq_true] at h
  exact ⟨by simpa using Wd.termB_len h.1, by simpa using Wd.termB_len h.2⟩
theorem strip_24s {l r : ByteArray} (h : eqnB l r = true) : (⟨⟨(strip2 l.data.toList r.data.toList).1⟩⟩ : ByteArray).size ≤ 24 ∧ (⟨⟨(strip2 l.data.toList r.data.toList).2⟩⟩ : ByteArray).size ≤ 24 := by
  obtain ⟨h1, h2⟩ := eqnB_24s h
  have a := stripF_len l.data.toList r.data.toList
  have b := stripF_len (stripF l.data.toList r.data.toList).1.reverse (stripF l.data.toList r.data.toList).2.reverse
  simp only [List.length_reverse] at b
  have z1 : l.data.toList.length = l.size := by simp
  have z2 : r.data.toList.length = r.size := by simp
  show (strip2 l.data.toList r.data.toList).1.length ≤ 24 ∧ (strip2 l.data.toList r.data.toList).2.length ≤ 24
  unfold strip2 stripB
  simp only [List.length_reverse]
  omega

/-- The steps of an equation. -/
def stepsL (l r : ByteArray) : List Stp := stK (hd ⟨⟨(strip2 l.data.toList r.data.toList).1⟩⟩) (hd ⟨⟨(strip2 l.data.toList r.data.toList).2⟩⟩) 5

set_option maxHeartbeats 400000 in
theorem implStepsOf_bad (l r : ByteArray) (w : World) (hl : l.size ≤ maxLen) (hr : r.size ≤ maxLen) (h : eqnB l r = false) :
    Calls Try.prog 12 #[.agg #[.string l, .string r]] w fun e w' => ∃ v, e = .returned (.tuple #[v, .int .i64 1]) ∧ Stps w' w.heap.size v [] ∧ Below w.heap.size w w' := by
  have c1 := fun W => implOk_any l r W hl hr
  rw [h] at c1
  have C1 := hidv c1
  clear c1 h
  go_enter Try.func12, Try.ntmps12
  go_wp2_with fail
  refine (C1.out _).mono ?_
  rintro e w1 ⟨rfl, hb1⟩
  have HB1 := hidv (((Below.refl w.heap.size w).alloc (Nat.le_refl _) (.cells #[.string l, .string r] 28)).trans (hb1.mono (by simp)))
  clear hb1
  go_wp2_with fail
  go_ret2
  exact ⟨_, rfl, World.ownsRow_nil _ _ _ _, HB1.out⟩

set_option maxHeartbeats 400000 in
theorem specStepsOf_bad (l r : ByteArray) (w : World) (hl : l.size ≤ maxLen) (hr : r.size ≤ maxLen) (h : eqnB l r = false) :
    Calls Try.prog 10 #[.agg #[.string l, .string r]] w fun e w' => ∃ v, e = .returned (.tuple #[v, .int .i64 1]) ∧ Stps w' w.heap.size v [] ∧ Below w.heap.size w w' := by
  have c1 := fun W => specOk_any l r W hl hr
  rw [h] at c1
  have C1 := hidv c1
  clear c1 h
  go_enter Try.func10, Try.ntmps10
  go_wp2_with fail
  refine (C1.out _).mono ?_
  rintro e w1 ⟨rfl, hb1⟩
  have HB1 := hidv (((Below.refl w.heap.size w).alloc (Nat.le_refl _) (.cells #[.string l, .string r] 28)).trans (hb1.mono (by simp)))
  clear hb1
  go_wp2_with fail
  go_ret2
  exact ⟨_, rfl, World.ownsRow_lit w1 #[] 0 HB1.out.size (Nat.zero_le _) rfl, below_al HB1.out _⟩

set_option maxHeartbeats 400000 in
theorem implStepsOf_ok (l r : ByteArray) (w : World) (h : eqnB l r = true) :
    Calls Try.prog 12 #[.agg #[.string l, .string r]] w fun e w' => ∃ v, e = .returned (.tuple #[v, .int .i64 0]) ∧ Stps w' w.heap.size v (stepsL l r) ∧ Below w.heap.size w w' := by
  obtain ⟨hl, hr⟩ := eqnB_24s h
  have c1 := fun W => implOk_any l r W (by unfold maxLen; omega) (by unfold maxLen; omega)
  have c2 := fun W => implStrip_any l r W (by omega) (by omega)
  rw [h] at c1
  unfold stepsL
  have hsz := strip_24s h
  obtain ⟨x, hx⟩ : ∃ x : ByteArray, ⟨⟨(strip2 l.data.toList r.data.toList).1⟩⟩ = x := ⟨_, rfl⟩
  obtain ⟨y, hy⟩ : ∃ x : ByteArray, ⟨⟨(strip2 l.data.toList r.data.toList).2⟩⟩ = x := ⟨_, rfl⟩
  rw [hx, hy] at c2 hsz ⊢
  have c3 := fun W => stepsFrom_any x y W hsz.1 hsz.2
  obtain ⟨L, hL⟩ : ∃ L, stK (hd x) (hd y) 5 = L := ⟨_, rfl⟩
  rw [hL] at c3 ⊢
  have C1 := hidv c1
  have C2 := hidv c2
  have C3 := hidv c3
  clear c1 c2 c3 h hx hy hL hsz
  go_enter Try.func12, Try.ntmps12
  go_wp2_with fail
  refine (C1.out _).mono ?_
  rintro e w1 ⟨rfl, hb1⟩
  have HX1 := hidv ((Bx.new w 28 #[.string l, .string r]).below hb1)
  have HB1 := hidv (((Below.refl w.heap.size w).alloc (Nat.le_refl _) (.cells #[.string l, .string r] 28)).trans (hb1.mono (by simp)))
  clear hb1
  obtain ⟨x0, x1⟩ := HX1.out.two
  go_wp2_with fail
  refine (C2.out _).mono ?_
  rintro e w2 ⟨rfl, hb2⟩
  have HB2 := hidv (below_on HB1.out hb2)
  clear hb2 x0 x1
  go_wp2_with fail
  refine (C3.out _).mono ?_
  rintro e w3 ⟨v, rfl, hv, hb3⟩
  have HV := hidv (show Stps w3 w.heap.size v L from World.ownsRow.mono hv HB2.out.size)
  have HB3 := hidv (below_on HB2.out hb3)
  clear hb3 hv
  go_wp2_with fail
  go_ret2
  exact ⟨_, rfl, HV.out, HB3.out⟩

set_option maxHeartbeats 400000 in
theorem specStepsOf_ok (l r : ByteArray) (w : World) (h : eqnB l r = true) :
    Calls Try.prog 10 #[.agg #[.string l, .string r]] w fun e w' => ∃ v, e = .returned (.tuple #[v, .int .i64 0]) ∧ Stps w' w.heap.size v (stepsL l r) ∧ Below w.heap.size w w' := by
  obtain ⟨hl, hr⟩ := eqnB_24s h
  have c1 := fun W => specOk_any l r W (by unfold maxLen; omega) (by unfold maxLen; omega)
  have c2 := fun W => specStrip_any l r W (by omega) (by omega)
  rw [h] at c1
  unfold stepsL
  have hsz := strip_24s h
  obtain ⟨x, hx⟩ : ∃ x : ByteArray, ⟨⟨(strip2 l.data.toList r.data.toList).1⟩⟩ = x := ⟨_, rfl⟩
  obtain ⟨y, hy⟩ : ∃ x : ByteArray, ⟨⟨(strip2 l.data.toList r.data.toList).2⟩⟩ = x := ⟨_, rfl⟩
  rw [hx, hy] at c2 hsz ⊢
  have c3 := fun W => specSteps_any x y W hsz.1 hsz.2
  obtain ⟨L, hL⟩ : ∃ L, stK (hd x) (hd y) 5 = L := ⟨_, rfl⟩
  rw [hL] at c3 ⊢
  have C1 := hidv c1
  have C2 := hidv c2
  have C3 := hidv c3
  clear c1 c2 c3 h hx hy hL hsz
  go_enter Try.func10, Try.ntmps10
  go_wp2_with fail
  refine (C1.out _).mono ?_
  rintro e w1 ⟨rfl, hb1⟩
  have HX1 := hidv ((Bx.new w 28 #[.string l, .string r]).below hb1)
  have HB1 := hidv (((Below.refl w.heap.size w).alloc (Nat.le_refl _) (.cells #[.string l, .string r] 28)).trans (hb1.mono (by simp)))
  clear hb1
  obtain ⟨x0, x1⟩ := HX1.out.two
  go_wp2_with fail
  refine (C2.out _).mono ?_
  rintro e w2 ⟨rfl, hb2⟩
  have HB2 := hidv (below_on HB1.out hb2)
  clear hb2 x0 x1
  go_wp2_with fail
  refine (C3.out _).mono ?_
  rintro e w3 ⟨v, rfl, hv, hb3⟩
  have HV := hidv (show Stps w3 w.heap.size v L from World.ownsRow.mono hv HB2.out.size)
  have HB3 := hidv (below_on HB2.out hb3)
  clear hb3 hv
  go_wp2_with fail
  go_ret2
  exact ⟨_, rfl, HV.out, HB3.out⟩

theorem stepsOf_both (l r : ByteArray) (hl : l.size ≤ maxLen) (hr : r.size ≤ maxLen) : ∃ (L : List Stp) (c : Int), L.length ≤ 5 ∧ (∀ w, Calls Try.prog 12 #[.agg #[.string l, .string r]] w fun e w' => ∃ v, e = .returned (.tuple #[v, .int .i64 c]) ∧ Stps w' w.heap.size v L ∧ Below w.heap.size w w') ∧ ∀ w, Calls Try.prog 10 #[.agg #[.string l, .string r]] w fun e w' => ∃ v, e = .returned (.tuple #[v, .int .i64 c]) ∧ Stps w' w.heap.size v L ∧ Below w.heap.size w w' := by
  cases h : eqnB l r
  · exact ⟨[], 1, by simp, fun w => implStepsOf_bad l r w hl hr h, fun w => specStepsOf_bad l r w hl hr h⟩
  · exact ⟨stepsL l r, 0, stK_len _ _ 5 (Nat.le_refl _), fun w => implStepsOf_ok l r w h, fun w => specStepsOf_ok l r w h⟩

theorem markStps_own {v : Value} {L : List Stp} {base : Nat} {w : World} (hv : Stps w base v L) (hl : L.length ≤ 100000) (hbase : base ≤ w.heap.size) :
    Calls Try.prog 14 #[v, .int .i64 1] w fun e' w' => e' = .returned (.int .i64 (1 + 2 * L.length : Nat)) ∧ Stps w' base v (mps 1 L.length) ∧ Below base w w' := by
  refine (markStps_any v L base 1 w hv (Nat.le_refl _) (by omega)).mono ?_
  rintro e' w' ⟨rfl, hown, hg⟩
  exact ⟨rfl, hown, below_grown hg hbase fun k hk => (World.ownsRow.lt (show w.ownsRow base 37 2 v L.length (flatP L) from hv) k hk).1⟩
theorem heldStps_own {v : Value} {n B : Nat} {w : World} (hv : SRow w B v (mps 1 n)) (hB : B ≤ w.heap.size) (hn : n ≤ 100000) :
    Calls Try.prog 15 #[v, .int .i64 1] w fun e' w' => e' = .returned (.int .i64 (1 + 2 * n : Nat)) ∧ Below w.heap.size w w' :=
  heldStps_any v n B 1 w hv hB (Nat.le_refl _) (by omega)

set_option maxHeartbeats 1600000 in
theorem law_FnExactStepsOf (l r : ByteArray) (w : World) (hl : l.size ≤ maxLen) (hr : r.size ≤ maxLen) :
    Calls Try.prog 3 #[.agg #[.string l, .string r]] w fun e w' => e = .returned (.bool true) ∧ Below w.heap.size w w' := by
  have C0 := hidv (fun W => szEqn_any l r 1048576 W hl hr (by omega) (by omega))
  obtain ⟨L, c, hL, h1, h2⟩ := stepsOf_both l r hl hr
  have H1 := hidv h1
  have H2 := hidv h2
  clear h1 h2
  go_enter Try.func3, Try.ntmps3
  go_wp2_with fail
  refine (C0.out _).mono ?_
  rintro e w1 ⟨q, rfl, _, hqm, hb1⟩
  have hc1 := (below_al (Below.refl w.heap.size w) (.cells #[.string l, .string r] 23)).trans (hb1.mono (by simp))
  have s1 := hc1.size
  have BL1 := hidv (hc1)
  have HX1 := hidv ((Bx.new w 23 #[.string l, .string r]).below hb1)
  have lt1 := HX1.out.lt
  clear hb1 hc1
  by_cases hq : q < 0
  · go_wp2_with fail
    go_ret
    exact ⟨rfl, BL1.out⟩
  obtain ⟨x0, x1⟩ := HX1.out.two
  go_wp2_with fail
  refine (toEqn_any l r _).mono ?_
  rintro e w2 ⟨rfl, hb2⟩
  have hc2 := hb2
  have s2 := hc2.size
  have BL2 := hidv (below_on BL1.out hc2)
  have HX2 := hidv (HX1.out.below hc2)
  clear hb2 hc2
  clear x0 x1
  go_wp2_with fail
  refine (H2.out _).mono ?_
  rintro e w3 ⟨va, rfl, hva, hb3⟩
  have hc3 := hb3
  have s3 := hc3.size
  have BL3 := hidv (below_on BL2.out hc3)
  have HX3 := hidv (HX2.out.below hc3)
  have HA3 := hidv (hva.row)
  clear hb3 hc3 hva
  obtain ⟨x0, x1⟩ := HX3.out.two
  go_wp2_with fail
  refine (toEqn_any l r _).mono ?_
  rintro e w4 ⟨rfl, hb4⟩
  have hc4 := hb4
  have s4 := hc4.size
  have BL4 := hidv (below_on BL3.out hc4)
  have HX4 := hidv (HX3.out.below hc4)
  have HA4 := hidv (HA3.out.below (hc4.mono (by omega)))
  clear hb4 hc4
  clear x0 x1
  go_wp2_with fail
  refine (H1.out _).mono ?_
  rintro e w5 ⟨vb, rfl, hvb, hb5⟩
  have hc5 := hb5
  have s5 := hc5.size
  have BL5 := hidv (below_on BL4.out hc5)
  have HX5 := hidv (HX4.out.below hc5)
  have HA5 := hidv (HA4.out.below (hc5.mono (by omega)))
  have HB5 := hidv (hvb)
  clear hb5 hc5 hvb
  go_wp2_with fail
  refine (eqStps_same HB5.out.row HA5.out (by omega) (by omega) (by omega)).mono ?_
  rintro e w6 ⟨rfl, hb6⟩
  have hc6 := hb6
  have s6 := hc6.size
  have BL6 := hidv (below_on BL5.out hc6)
  have HX6 := hidv (HX5.out.below hc6)
  have HA6 := hidv (HA5.out.below (hc6.mono (by omega)))
  have HB6 := hidv (HB5.out.below hc6)
  clear hb6 hc6
  go_wp2_with fail
  refine (markStps_own (HB6.out) (by omega) (by omega)).mono ?_
  rintro e w7 ⟨rfl, hvm, hb7⟩
  have hc7 := hb7
  have s7 := hc7.size
  have BL7 := hidv (BL6.out.trans (hc7.mono (by omega)))
  have HX7 := hidv (HX6.out.belowB hc7 (by omega))
  have HA7 := hidv (HA6.out.below (hc7.mono (by omega)))
  have HB7 := hidv (hvm)
  clear hb7 hc7 hvm
  go_wp2_with fail
  refine (heldStps_own HB7.out.row (by omega) (by omega)).mono ?_
  rintro e w8 ⟨rfl, hb8⟩
  have hc8 := hb8
  have s8 := hc8.size
  have BL8 := hidv (below_on BL7.out hc8)
  have HX8 := hidv (HX7.out.below hc8)
  have HA8 := hidv (HA7.out.below (hc8.mono (by omega)))
  have HB8 := hidv (HB7.out.below hc8)
  clear hb8 hc8
  obtain ⟨x0, x1⟩ := HX8.out.two
  go_wp2_with fail
  refine (toEqn_any l r _).mono ?_
  rintro e w9 ⟨rfl, hb9⟩
  have hc9 := hb9
  have s9 := hc9.size
  have BL9 := hidv (below_on BL8.out hc9)
  have HX9 := hidv (HX8.out.below hc9)
  have HA9 := hidv (HA8.out.below (hc9.mono (by omega)))
  have HB9 := hidv (HB8.out.below hc9)
  clear hb9 hc9
  clear x0 x1
  go_wp2_with fail
  refine (H1.out _).mono ?_
  rintro e w10 ⟨ve, rfl, hve, hb10⟩
  have hc10 := hb10
  have s10 := hc10.size
  have BL10 := hidv (below_on BL9.out hc10)
  have HX10 := hidv (HX9.out.below hc10)
  have HA10 := hidv (HA9.out.below (hc10.mono (by omega)))
  have HB10 := hidv (HB9.out.below hc10)
  have HE10 := hidv (hve)
  clear hb10 hc10 hve
  go_wp2_with fail
  refine (eqStps_same HE10.out.row HA10.out (by omega) (by omega) (by omega)).mono ?_
  rintro e w11 ⟨rfl, hb11⟩
  have hc11 := hb11
  have s11 := hc11.size
  have BL11 := hidv (below_on BL10.out hc11)
  have HB11 := hidv (HB10.out.below hc11)
  clear hb11 hc11
  go_wp2_with fail
  refine (heldStps_own HB11.out.row (by omega) (by omega)).mono ?_
  rintro e w12 ⟨rfl, hb12⟩
  have hc12 := hb12
  have s12 := hc12.size
  have BL12 := hidv (below_on BL11.out hc12)
  have HB12 := hidv (HB11.out.below hc12)
  clear hb12 hc12
  go_wp2_with fail
  go_ret
  exact ⟨rfl, BL12.out⟩

end Go.Proofs.Ytfnlikjdfihggaa
