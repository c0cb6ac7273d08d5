/-
  The law on ClashOf, walked.
-/
import Derived.Test.YtolhelogcekfbabClashI
namespace Go.Proofs.Ytolhelogcekfbab
open Go.RowKit Go

theorem implClash_bad (l r : ByteArray) (w : World) (hl : l.size ≤ maxLen) (hr : r.size ≤ maxLen) (h : eqnB l r = false) :
    Calls Try.prog 36 #[.agg #[.string l, .string r]] w fun e w' => e = .returned (.tuple #[.int .i64 0, .int .i64 1]) ∧ Below w.heap.size w w' := by
  have c1 := fun W => implOk_any l r W hl hr
  rw [h] at c1
  have C1 := hidv c1
  clear c1 h
  go_enter Try.func36, Try.ntmps36
  go_wp2_with fail
  refine (C1.out _).mono ?_
  rintro e w1 ⟨rfl, hb1⟩
  have HB1 := hidv (((Below.refl w.heap.size w).alloc (Nat.le_refl _) _).trans (hb1.mono (by simp)))
  obtain ⟨x0, x1⟩ := ((Bx.new w 44 #[.string l, .string r]).below hb1).two
  clear hb1
  go_wp2_with fail
  go_ret2
  exact ⟨rfl, HB1.out⟩

theorem specClash_bad (l r : ByteArray) (w : World) (hl : l.size ≤ maxLen) (hr : r.size ≤ maxLen) (h : eqnB l r = false) :
    Calls Try.prog 35 #[.agg #[.string l, .string r]] w fun e w' => e = .returned (.tuple #[.int .i64 0, .int .i64 1]) ∧ Below w.heap.size w w' := by
  have c1 := fun W => specOk_any l r W hl hr
  rw [h] at c1
  have C1 := hidv c1
  clear c1 h
  go_enter Try.func35, Try.ntmps35
  go_wp2_with fail
  refine (C1.out _).mono ?_
  rintro e w1 ⟨rfl, hb1⟩
  have HB1 := hidv (((Below.refl w.heap.size w).alloc (Nat.le_refl _) _).trans (hb1.mono (by simp)))
  obtain ⟨x0, x1⟩ := ((Bx.new w 44 #[.string l, .string r]).below hb1).two
  clear hb1
  go_wp2_with fail
  go_ret2
  exact ⟨rfl, HB1.out⟩

set_option maxHeartbeats 400000 in
theorem specClashOf_ok (l r x y : ByteArray) (w : World) (h : eqnB l r = true) (hx : ⟨⟨(strip2 l.data.toList r.data.toList).1⟩⟩ = x) (hy : ⟨⟨(strip2 l.data.toList r.data.toList).2⟩⟩ = y) :
    Calls Try.prog 35 #[.agg #[.string l, .string r]] w fun e w' => e = .returned (.tuple #[.int .i64 (clashK x y), .int .i64 (clashC (clashK x y))]) ∧ Below w.heap.size w w' := by
  have hsz := eqnB_sizes h
  have c1 := fun W => specOk_any l r W (by unfold maxLen; omega) (by unfold maxLen; omega)
  have c2 := fun W => specStrip_any l r W (by omega) (by omega)
  rw [h] at c1
  rw [hx, hy] at c2
  have hsub := strip2_sub l.data.toList r.data.toList
  have hxs : x.size ≤ 24 := by
    rw [← hx]
    show (strip2 l.data.toList r.data.toList).1.length ≤ 24
    have := hsub.1.1
    simp at this
    omega
  have hys : y.size ≤ 24 := by
    rw [← hy]
    show (strip2 l.data.toList r.data.toList).2.length ≤ 24
    have := hsub.2.1
    simp at this
    omega
  have c3 := fun W => specClash_any x y W (by omega) (by omega)
  obtain ⟨kv, hkv⟩ : ∃ k, clashK x y = k := ⟨_, rfl⟩
  rw [hkv] at c3 ⊢
  have C1 := hidv c1
  have C2 := hidv c2
  have C3 := hidv c3
  clear c1 c2 c3 h hx hy hsub hsz hkv
  go_enter Try.func35, Try.ntmps35
  go_wp2_with fail
  refine (C1.out _).mono ?_
  rintro e w1 ⟨rfl, hb1⟩
  have hbx := (Bx.new w 44 #[.string l, .string r]).below hb1
  have HB1 := hidv (((Below.refl w.heap.size w).alloc (Nat.le_refl _) _).trans (hb1.mono (by simp)))
  obtain ⟨b0, b1⟩ := hbx.two
  clear hb1 hbx
  go_wp2_with fail
  refine (C2.out _).mono ?_
  rintro e w2 ⟨rfl, hb2⟩
  have HB2 := hidv (HB1.out.trans (hb2.mono HB1.out.size))
  clear hb2 b0 b1
  go_wp2_with fail
  refine (C3.out _).mono ?_
  rintro e w3 ⟨rfl, hb3⟩
  have HB3 := hidv (HB2.out.trans (hb3.mono HB2.out.size))
  clear hb3
  by_cases hk0 : kv = 0
  · subst hk0
    go_wp2_with fail
    go_ret2
    exact ⟨rfl, HB3.out⟩
  · have hkb : (kv == 0) = false := by rw [beq_eq_false_iff_ne]; exact hk0
    have HK := hidv hk0
    clear hk0
    go_wp2_with fail
    go_ret2
    exact ⟨ret_int2 rfl (by unfold clashC; rw [if_neg HK.out]), HB3.out⟩

theorem clashOf_both (l r : ByteArray) (hl : l.size ≤ maxLen) (hr : r.size ≤ maxLen) : ∃ (k c : Int),
    (∀ w, Calls Try.prog 36 #[.agg #[.string l, .string r]] w fun e w' => e = .returned (.tuple #[.int .i64 k, .int .i64 c]) ∧ Below w.heap.size w w') ∧
    ∀ w, Calls Try.prog 35 #[.agg #[.string l, .string r]] w fun e w' => e = .returned (.tuple #[.int .i64 k, .int .i64 c]) ∧ Below w.heap.size w w' := by
  cases h : eqnB l r
  · exact ⟨_, _, fun w => implClash_bad l r w hl hr h, fun w => specClash_bad l r w hl hr h⟩
  · exact ⟨_, _, fun w => implClash_ok l r _ _ w h rfl rfl, fun w => specClashOf_ok l r _ _ w h rfl rfl⟩

set_option maxHeartbeats 400000 in
theorem law_FnExactClashOf (l r : ByteArray) (w : World) (hl : l.size ≤ maxLen) (hr : r.size ≤ maxLen) :
    Calls Try.prog 8 #[.agg #[.string l, .string r]] w fun e w' => e = .returned (.bool true) ∧ Below w.heap.size w w' := by
  have C0 := hidv (fun W => szEqn_any l r 1048576 W hl hr (by omega) (by omega))
  obtain ⟨k, c, c1, c2⟩ := clashOf_both l r hl hr
  have C1 := hidv c1
  have C2 := hidv c2
  clear c1 c2
  go_enter Try.func8, Try.ntmps8
  go_wp2_with fail
  refine (C0.out _).mono ?_
  rintro e w1 ⟨q, rfl, _, hqm, hb1⟩
  have HX1 := hidv ((Bx.new w 42 #[.string l, .string r]).below hb1)
  have HB1 := hidv (((Below.refl w.heap.size w).alloc (Nat.le_refl _) _).trans (hb1.mono (by simp)))
  clear hb1
  by_cases hq : q < 0
  · go_wp2_with fail
    go_ret
    exact ⟨rfl, HB1.out⟩
  obtain ⟨x0, x1⟩ := HX1.out.two
  go_wp2_with fail
  refine (toEqn_any l r _).mono ?_
  rintro e w2 ⟨rfl, hb2⟩
  have HX2 := hidv (HX1.out.below hb2)
  have HB2 := hidv (HB1.out.trans (hb2.mono HB1.out.size))
  clear hb2 x0 x1
  go_wp2_with fail
  refine (C2.out _).mono ?_
  rintro e w3 ⟨rfl, hb3⟩
  have HX3 := hidv (HX2.out.below hb3)
  have HB3 := hidv (HB2.out.trans (hb3.mono HB2.out.size))
  clear hb3
  obtain ⟨x0, x1⟩ := HX3.out.two
  go_wp2_with fail
  refine (toEqn_any l r _).mono ?_
  rintro e w4 ⟨rfl, hb4⟩
  have HB4 := hidv (HB3.out.trans (hb4.mono HB3.out.size))
  clear hb4 x0 x1
  go_wp2_with fail
  refine (C1.out _).mono ?_
  rintro e w5 ⟨rfl, hb5⟩
  have HB5 := hidv (HB4.out.trans (hb5.mono HB4.out.size))
  clear hb5
  go_wp2_with fail
  go_ret
  exact ⟨rfl, HB5.out⟩

end Go.Proofs.Ytolhelogcekfbab
