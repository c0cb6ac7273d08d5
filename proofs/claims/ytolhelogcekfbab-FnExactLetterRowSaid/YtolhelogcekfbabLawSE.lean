/-
  StripEnds, of the program and of the model, and the law over them.
-/
import Derived.Test.YtolhelogcekfbabStripI
namespace Go.Proofs.Ytolhelogcekfbab
open Go.RowKit Go

theorem eqnB_sizes {l r : ByteArray} (h : eqnB l r = true) : l.size ≤ 24 ∧ r.size ≤ 24 := by
  unfold eqnB at h
  rw [Bool.and_eq_true] at h
  have h1 := Wd.termB_len h.1
  have h2 := Wd.termB_len h.2
  exact ⟨by simpa using h1, by simpa using h2⟩


set_option maxHeartbeats 400000 in
theorem implStripEnds_bad (l r : ByteArray) (w : World) (hl : l.size ≤ maxLen) (hr : r.size ≤ maxLen) (h : eqnB l r = false) :
    Calls Try.prog 33 #[.agg #[.string l, .string r]] w fun e w' => e = .returned (.tuple #[.agg #[.string ⟨#[]⟩, .string ⟨#[]⟩], .int .i64 1]) ∧ Below w.heap.size w w' := by
  have c1 := fun W => implOk_any l r W hl hr
  rw [h] at c1
  have C1 := hidv c1
  clear c1 h
  go_enter Try.func33, Try.ntmps33
  go_wp2_with fail
  refine (C1.out _).mono ?_
  rintro e w1 ⟨rfl, hb1⟩
  have hx := ((Bx.new w 44 #[.string l, .string r]).alloc (.cells #[.string ⟨#[]⟩, .string ⟨#[]⟩] 44)).below hb1
  have hy := (Bx.new (w.alloc (.cells #[.string l, .string r] 44)) 44 #[.string ⟨#[]⟩, .string ⟨#[]⟩]).below hb1
  rw [World.size_alloc] at hy
  have HB1 := hidv ((((Below.refl w.heap.size w).alloc (Nat.le_refl _) _).alloc (by simp) _).trans (hb1.mono (by simp; omega)))
  obtain ⟨x0, x1⟩ := hx.two
  obtain ⟨y0, y1⟩ := hy.two
  have z0 := hy.frozen 0
  have z1 := hy.frozen 1
  have E0 := hidv (((hy.set 0 (.string ⟨#[]⟩)).set 1 (.string ⟨#[]⟩)).cell 0)
  have E1 := hidv (((hy.set 0 (.string ⟨#[]⟩)).set 1 (.string ⟨#[]⟩)).cell 1)
  clear hx hy hb1
  go_wp2_with fail
  refine bodyPost_ret (v := .tuple #[.agg #[.string ⟨#[]⟩, .string ⟨#[]⟩], .int .i64 1]) ?_ rfl ⟨rfl, ?_⟩
  · simp [results, Try.results33, go_sem, E0.out, E1.out]
  · exact (HB1.out.setCell (by simp) _).setCell (by simp) _

set_option maxHeartbeats 400000 in
theorem implStripEnds_ok (l r : ByteArray) (w : World) (h : eqnB l r = true) :
    Calls Try.prog 33 #[.agg #[.string l, .string r]] w fun e w' => e = .returned (.tuple #[.agg #[.string ⟨⟨(strip2 l.data.toList r.data.toList).1⟩⟩, .string ⟨⟨(strip2 l.data.toList r.data.toList).2⟩⟩], .int .i64 0]) ∧ Below w.heap.size w w' := by
  have hsz := eqnB_sizes h
  have c1 := fun W => implOk_any l r W (by unfold maxLen; omega) (by unfold maxLen; omega)
  have c2 := fun W => implStrip_any l r W (by omega) (by omega)
  rw [h] at c1
  obtain ⟨x, hx⟩ : ∃ x : ByteArray, ⟨⟨(strip2 l.data.toList r.data.toList).1⟩⟩ = x := ⟨_, rfl⟩
  obtain ⟨y, hy⟩ : ∃ x : ByteArray, ⟨⟨(strip2 l.data.toList r.data.toList).2⟩⟩ = x := ⟨_, rfl⟩
  rw [hx, hy] at c2 ⊢
  have C1 := hidv c1
  have C2 := hidv c2
  clear c1 c2 h hx hy hsz
  go_enter Try.func33, Try.ntmps33
  go_wp2_with fail
  refine (C1.out _).mono ?_
  rintro e w1 ⟨rfl, hb1⟩
  have hx := ((Bx.new w 44 #[.string l, .string r]).alloc (.cells #[.string ⟨#[]⟩, .string ⟨#[]⟩] 44)).below hb1
  have hy := (Bx.new (w.alloc (.cells #[.string l, .string r] 44)) 44 #[.string ⟨#[]⟩, .string ⟨#[]⟩]).below hb1
  rw [World.size_alloc] at hy
  have HB1 := hidv ((((Below.refl w.heap.size w).alloc (Nat.le_refl _) _).alloc (by simp) _).trans (hb1.mono (by simp; omega)))
  obtain ⟨x0, x1⟩ := hx.two
  have HY := hidv hy
  clear hx hy hb1
  go_wp2_with fail
  refine (C2.out _).mono ?_
  rintro e w2 ⟨rfl, hb2⟩
  have hy := HY.out.below hb2
  have HB2 := hidv (HB1.out.trans (hb2.mono HB1.out.size))
  obtain ⟨y0, y1⟩ := hy.two
  have z0 := hy.frozen 0
  have z1 := hy.frozen 1
  have E0 := hidv (((hy.set 0 (.string x)).set 1 (.string y)).cell 0)
  have E1 := hidv (((hy.set 0 (.string x)).set 1 (.string y)).cell 1)
  clear hy hb2 x0 x1
  go_wp2_with fail
  refine bodyPost_ret (v := .tuple #[.agg #[.string x, .string y], .int .i64 0]) ?_ rfl ⟨rfl, ?_⟩
  · simp [results, Try.results33, go_sem, E0.out, E1.out]
  · exact (HB2.out.setCell (by simp) _).setCell (by simp) _

set_option maxHeartbeats 400000 in
theorem specStripEnds_bad (l r : ByteArray) (w : World) (hl : l.size ≤ maxLen) (hr : r.size ≤ maxLen) (h : eqnB l r = false) :
    Calls Try.prog 31 #[.agg #[.string l, .string r]] w fun e w' => e = .returned (.tuple #[.agg #[.string ⟨#[]⟩, .string ⟨#[]⟩], .int .i64 1]) ∧ Below w.heap.size w w' := by
  have c1 := fun W => specOk_any l r W hl hr
  rw [h] at c1
  have C1 := hidv c1
  clear c1 h
  go_enter Try.func31, Try.ntmps31
  go_wp2_with fail
  refine (C1.out _).mono ?_
  rintro e w1 ⟨rfl, hb1⟩
  have hx := ((Bx.new w 44 #[.string l, .string r]).alloc (.cells #[.string ⟨#[]⟩, .string ⟨#[]⟩] 44)).below hb1
  have hy := (Bx.new (w.alloc (.cells #[.string l, .string r] 44)) 44 #[.string ⟨#[]⟩, .string ⟨#[]⟩]).below hb1
  rw [World.size_alloc] at hy
  have HB1 := hidv ((((Below.refl w.heap.size w).alloc (Nat.le_refl _) _).alloc (by simp) _).trans (hb1.mono (by simp; omega)))
  obtain ⟨x0, x1⟩ := hx.two
  obtain ⟨y0, y1⟩ := hy.two
  have z0 := hy.frozen 0
  have z1 := hy.frozen 1
  have E0 := hidv (((hy.set 0 (.string ⟨#[]⟩)).set 1 (.string ⟨#[]⟩)).cell 0)
  have E1 := hidv (((hy.set 0 (.string ⟨#[]⟩)).set 1 (.string ⟨#[]⟩)).cell 1)
  clear hx hy hb1
  go_wp2_with fail
  refine bodyPost_ret (v := .tuple #[.agg #[.string ⟨#[]⟩, .string ⟨#[]⟩], .int .i64 1]) ?_ rfl ⟨rfl, ?_⟩
  · simp [results, Try.results31, go_sem, E0.out, E1.out]
  · exact (HB1.out.setCell (by simp) _).setCell (by simp) _

set_option maxHeartbeats 400000 in
theorem specStripEnds_ok (l r : ByteArray) (w : World) (h : eqnB l r = true) :
    Calls Try.prog 31 #[.agg #[.string l, .string r]] w fun e w' => e = .returned (.tuple #[.agg #[.string ⟨⟨(strip2 l.data.toList r.data.toList).1⟩⟩, .string ⟨⟨(strip2 l.data.toList r.data.toList).2⟩⟩], .int .i64 0]) ∧ Below w.heap.size w w' := by
  have hsz := eqnB_sizes h
  have c1 := fun W => specOk_any l r W (by unfold maxLen; omega) (by unfold maxLen; omega)
  have c2 := fun W => specStrip_any l r W (by omega) (by omega)
  rw [h] at c1
  obtain ⟨x, hx⟩ : ∃ x : ByteArray, ⟨⟨(strip2 l.data.toList r.data.toList).1⟩⟩ = x := ⟨_, rfl⟩
  obtain ⟨y, hy⟩ : ∃ x : ByteArray, ⟨⟨(strip2 l.data.toList r.data.toList).2⟩⟩ = x := ⟨_, rfl⟩
  rw [hx, hy] at c2 ⊢
  have C1 := hidv c1
  have C2 := hidv c2
  clear c1 c2 h hx hy hsz
  go_enter Try.func31, Try.ntmps31
  go_wp2_with fail
  refine (C1.out _).mono ?_
  rintro e w1 ⟨rfl, hb1⟩
  have hx := ((Bx.new w 44 #[.string l, .string r]).alloc (.cells #[.string ⟨#[]⟩, .string ⟨#[]⟩] 44)).below hb1
  have hy := (Bx.new (w.alloc (.cells #[.string l, .string r] 44)) 44 #[.string ⟨#[]⟩, .string ⟨#[]⟩]).below hb1
  rw [World.size_alloc] at hy
  have HB1 := hidv ((((Below.refl w.heap.size w).alloc (Nat.le_refl _) _).alloc (by simp) _).trans (hb1.mono (by simp; omega)))
  obtain ⟨x0, x1⟩ := hx.two
  have HY := hidv hy
  clear hx hy hb1
  go_wp2_with fail
  refine (C2.out _).mono ?_
  rintro e w2 ⟨rfl, hb2⟩
  have hy := HY.out.below hb2
  have HB2 := hidv (HB1.out.trans (hb2.mono HB1.out.size))
  obtain ⟨y0, y1⟩ := hy.two
  have z0 := hy.frozen 0
  have z1 := hy.frozen 1
  have E0 := hidv (((hy.set 0 (.string x)).set 1 (.string y)).cell 0)
  have E1 := hidv (((hy.set 0 (.string x)).set 1 (.string y)).cell 1)
  clear hy hb2 x0 x1
  go_wp2_with fail
  refine bodyPost_ret (v := .tuple #[.agg #[.string x, .string y], .int .i64 0]) ?_ rfl ⟨rfl, ?_⟩
  · simp [results, Try.results31, go_sem, E0.out, E1.out]
  · exact (HB2.out.setCell (by simp) _).setCell (by simp) _

theorem stripEnds_both (l r : ByteArray) (hl : l.size ≤ maxLen) (hr : r.size ≤ maxLen) : ∃ (x y : ByteArray) (c : Int),
    (∀ w, Calls Try.prog 33 #[.agg #[.string l, .string r]] w fun e w' => e = .returned (.tuple #[.agg #[.string x, .string y], .int .i64 c]) ∧ Below w.heap.size w w') ∧
    ∀ w, Calls Try.prog 31 #[.agg #[.string l, .string r]] w fun e w' => e = .returned (.tuple #[.agg #[.string x, .string y], .int .i64 c]) ∧ Below w.heap.size w w' := by
  cases h : eqnB l r
  · exact ⟨_, _, _, fun w => implStripEnds_bad l r w hl hr h, fun w => specStripEnds_bad l r w hl hr h⟩
  · exact ⟨_, _, _, fun w => implStripEnds_ok l r w h, fun w => specStripEnds_ok l r w h⟩

set_option maxHeartbeats 400000 in
theorem law_FnExactStripEnds (l r : ByteArray) (w : World) (hl : l.size ≤ maxLen) (hr : r.size ≤ maxLen) :
    Calls Try.prog 7 #[.agg #[.string l, .string r]] w fun e w' => e = .returned (.bool true) ∧ Below w.heap.size w w' := by
  have C0 := hidv (fun W => szEqn_any l r 1048576 W hl hr (by omega) (by omega))
  obtain ⟨x, y, c, c1, c2⟩ := stripEnds_both l r hl hr
  have C1 := hidv c1
  have C2 := hidv c2
  clear c1 c2
  go_enter Try.func7, Try.ntmps7
  go_wp2_with fail
  refine (C0.out _).mono ?_
  rintro e w1 ⟨q, rfl, _, hqm, hb1⟩
  have HX1 := hidv ((Bx.new w 42 #[.string l, .string r]).below hb1)
  have HB1 := hidv (((Below.refl w.heap.size w).alloc (Nat.le_refl _) _).trans (hb1.mono (by simp)))
  clear hb1
  by_cases hq : q < 0
  · go_wp2_with fail
    go_ret
    exact ⟨rfl, HB1.out⟩
  obtain ⟨x0, x1⟩ := HX1.out.two
  go_wp2_with fail
  refine (toEqn_any l r _).mono ?_
  rintro e w2 ⟨rfl, hb2⟩
  have HX2 := hidv (HX1.out.below hb2)
  have HB2 := hidv (HB1.out.trans (hb2.mono HB1.out.size))
  clear hb2 x0 x1
  go_wp2_with fail
  refine (C2.out _).mono ?_
  rintro e w3 ⟨rfl, hb3⟩
  have HX3 := hidv (HX2.out.below hb3)
  have HB3 := hidv (HB2.out.trans (hb3.mono HB2.out.size))
  clear hb3
  obtain ⟨x0, x1⟩ := HX3.out.two
  have s3 := HX3.out.lt
  go_wp2_with fail
  refine (toEqn_any l r _).mono ?_
  rintro e w4 ⟨rfl, hb4⟩
  have HY4 := hidv ((Bx.new w3 44 #[.string x, .string y]).below hb4)
  have HB4 := hidv ((HB3.out.alloc HB3.out.size (.cells #[.string x, .string y] 44)).trans (hb4.mono (by simp; omega)))
  clear hb4 x0 x1
  go_wp2_with fail
  refine (C1.out _).mono ?_
  rintro e w5 ⟨rfl, hb5⟩
  have HY5 := hidv (HY4.out.below hb5)
  have HB5 := hidv (HB4.out.trans (hb5.mono HB4.out.size))
  clear hb5
  obtain ⟨y0, y1⟩ := HY5.out.two
  have s5 := HY5.out.lt
  go_wp2_with fail
  refine (eqEqn_same x y _).mono ?_
  rintro e w6 ⟨rfl, hb6⟩
  have HB6 := hidv ((HB5.out.alloc HB5.out.size (.cells #[.string x, .string y] 44)).trans (hb6.mono (by simp; omega)))
  clear hb6
  go_wp2_with fail
  go_ret
  exact ⟨rfl, HB6.out⟩

end Go.Proofs.Ytolhelogcekfbab
