/-
  The law on LetterRow, walked.
-/
import Derived.Test.YtolhelogcekfbabLetI
import Derived.Test.YtolhelogcekfbabMem
namespace Go.Proofs.Ytolhelogcekfbab
open Go.RowKit Go
set_option linter.unusedVariables false

theorem letterRow_both (l r s : ByteArray) (hl : l.size ≤ maxLen) (hr : r.size ≤ maxLen) (hs : s.size ≤ maxLen) : ∃ (L : List Int) (c : Int), L.length ≤ 100 ∧
    (∀ w, Calls Try.prog 45 #[.agg #[.string l, .string r], .string s] w fun e w' => ∃ v, e = .returned (.tuple #[v, .int .i64 c]) ∧ IntsT 97 w' w.heap.size v L ∧ Below w.heap.size w w') ∧
    ∀ w, Calls Try.prog 44 #[.agg #[.string l, .string r], .string s] w fun e w' => ∃ v, e = .returned (.tuple #[v, .int .i64 c]) ∧ IntsT 2 w' w.heap.size v L ∧ Below w.heap.size w w' := by
  cases h : eqnB l r
  · exact ⟨[], 1, by simp, fun w => implLetterRow_badE l r s w hl hr h, fun w => specLetterRow_badE l r s w hl hr h⟩
  · cases hb : letB s
    · exact ⟨[], 2, by simp, fun w => implLetterRow_badL l r s w h hs hb, fun w => specLetterRow_badL l r s w h hs hb⟩
    · obtain ⟨hp, h1, hc⟩ := letB_true hb
      obtain ⟨x0, x1, x2, x3, x4, x5, x6, x7, hx, _⟩ := surL_eight h
      obtain ⟨hj4, _⟩ := letN_lt hc
      obtain ⟨x, hxj⟩ : ∃ x, [x0, x1, x2, x3, x4, x5, x6, x7][letN s[0]]? = some x := ⟨_, List.getElem?_eq_getElem (l := [x0, x1, x2, x3, x4, x5, x6, x7]) (show letN s[0] < 8 by omega)⟩
      exact ⟨[x4, x5, x6, x7, x], 0, by simp, fun w => implLetterRow_ok l r s _ x x0 x1 x2 x3 x4 x5 x6 x7 w h hx h1 hc rfl hxj, fun w => specLetterRow_ok l r s _ x x0 x1 x2 x3 x4 x5 x6 x7 w h hx h1 hc rfl hxj⟩

set_option maxHeartbeats 1600000 in
theorem law_FnExactLetterRow (l r s : ByteArray) (w : World) (hl : l.size ≤ maxLen) (hr : r.size ≤ maxLen) (hs : s.size ≤ maxLen) :
    Calls Try.prog 11 #[.agg #[.string l, .string r], .string s] w fun e w' => e = .returned (.bool true) ∧ Below w.heap.size w w' := by
  have C0 := hidv (fun W => szEqn_any l r 1048576 W hl hr (by omega) (by omega))
  obtain ⟨L, c, hL, h1, h2⟩ := letterRow_both l r s hl hr hs
  have H1 := hidv h1
  have H2 := hidv h2
  clear h1 h2
  unfold maxLen at hs
  by_cases hlong : (1048576 : Int) < s.size
  · go_enter Try.func11, Try.ntmps11
    go_wp2
    go_ret
    exact ⟨rfl, (Below.refl _ _).alloc (Nat.le_refl _) _⟩
  go_enter Try.func11, Try.ntmps11
  go_wp2_with fail
  refine (C0.out _).mono ?_
  rintro e w1 ⟨q, rfl, _, hqm, hb1⟩
  have hc1 := (below_al (Below.refl w.heap.size w) (.cells #[.string l, .string r] 42)).trans (hb1.mono (by simp))
  have s1 := hc1.size
  have BL1 := hidv (hc1)
  have HX1 := hidv ((Bx.new w 42 #[.string l, .string r]).below hb1)
  have lt1 := HX1.out.lt
  clear hb1 hc1
  by_cases hq : q < 0
  · go_wp2_with fail
    go_ret
    exact ⟨rfl, BL1.out⟩
  obtain ⟨x0, x1⟩ := HX1.out.two
  go_wp2_with fail
  refine (toEqn_any l r _).mono ?_
  rintro e w2 ⟨rfl, hb2⟩
  have hc2 := hb2
  have s2 := hc2.size
  have BL2 := hidv (below_on BL1.out hc2)
  have HX2 := hidv (HX1.out.below hc2)
  clear hb2 hc2
  clear x0 x1
  go_wp2_with fail
  refine (H2.out _).mono ?_
  rintro e w3 ⟨va, rfl, hva, hb3⟩
  have hc3 := hb3
  have s3 := hc3.size
  have BL3 := hidv (below_on BL2.out hc3)
  have HX3 := hidv (HX2.out.below hc3)
  have HA3 := hidv (hva.row)
  clear hb3 hc3 hva
  obtain ⟨x0, x1⟩ := HX3.out.two
  go_wp2_with fail
  refine (toEqn_any l r _).mono ?_
  rintro e w4 ⟨rfl, hb4⟩
  have hc4 := hb4
  have s4 := hc4.size
  have BL4 := hidv (below_on BL3.out hc4)
  have HX4 := hidv (HX3.out.below hc4)
  have HA4 := hidv (HA3.out.below (hc4.mono (by omega)))
  clear hb4 hc4
  clear x0 x1
  go_wp2_with fail
  refine (H1.out _).mono ?_
  rintro e w5 ⟨vb, rfl, hvb, hb5⟩
  have hc5 := hb5
  have s5 := hc5.size
  have BL5 := hidv (below_on BL4.out hc5)
  have HX5 := hidv (HX4.out.below hc5)
  have HA5 := hidv (HA4.out.below (hc5.mono (by omega)))
  have HB5 := hidv (hvb)
  clear hb5 hc5 hvb
  go_wp2_with fail
  refine (eqInts_same HB5.out.row HA5.out (by omega)).mono ?_
  rintro e w6 ⟨rfl, hb6⟩
  have hc6 := hb6
  have s6 := hc6.size
  have BL6 := hidv (below_on BL5.out hc6)
  have HX6 := hidv (HX5.out.below hc6)
  have HA6 := hidv (HA5.out.below (hc6.mono (by omega)))
  have HB6 := hidv (HB5.out.below hc6)
  clear hb6 hc6
  go_wp2_with fail
  refine (markInts_ownT (HB6.out) (by omega) (by omega)).mono ?_
  rintro e w7 ⟨rfl, hvm, hb7⟩
  have hc7 := hb7
  have s7 := hc7.size
  have BL7 := hidv (BL6.out.trans (hc7.mono (by omega)))
  have HX7 := hidv (HX6.out.belowB hc7 (by omega))
  have HA7 := hidv (HA6.out.below (hc7.mono (by omega)))
  have HB7 := hidv (hvm)
  clear hb7 hc7 hvm
  go_wp2_with fail
  refine (heldInts_own HB7.out.row (by omega)).mono ?_
  rintro e w' ⟨rfl, rfl⟩
  obtain ⟨x0, x1⟩ := HX7.out.two
  go_wp2_with fail
  refine (toEqn_any l r _).mono ?_
  rintro e w8 ⟨rfl, hb8⟩
  have hc8 := hb8
  have s8 := hc8.size
  have BL8 := hidv (below_on BL7.out hc8)
  have HX8 := hidv (HX7.out.below hc8)
  have HA8 := hidv (HA7.out.below (hc8.mono (by omega)))
  have HB8 := hidv (HB7.out.below hc8)
  clear hb8 hc8
  clear x0 x1
  go_wp2_with fail
  refine (H1.out _).mono ?_
  rintro e w9 ⟨ve, rfl, hve, hb9⟩
  have hc9 := hb9
  have s9 := hc9.size
  have BL9 := hidv (below_on BL8.out hc9)
  have HX9 := hidv (HX8.out.below hc9)
  have HA9 := hidv (HA8.out.below (hc9.mono (by omega)))
  have HB9 := hidv (HB8.out.below hc9)
  have HE9 := hidv (hve)
  clear hb9 hc9 hve
  go_wp2_with fail
  refine (eqInts_same HE9.out.row HA9.out (by omega)).mono ?_
  rintro e w10 ⟨rfl, hb10⟩
  have hc10 := hb10
  have s10 := hc10.size
  have BL10 := hidv (below_on BL9.out hc10)
  have HA10 := hidv (HA9.out.below (hc10.mono (by omega)))
  have HB10 := hidv (HB9.out.below hc10)
  clear hb10 hc10
  go_wp2_with fail
  refine (heldInts_own HB10.out.row (by omega)).mono ?_
  rintro e w' ⟨rfl, rfl⟩
  go_wp2_with fail
  go_ret
  exact ⟨rfl, BL10.out⟩

end Go.Proofs.Ytolhelogcekfbab
