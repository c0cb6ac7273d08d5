/-
  The row of lengths of an equation, of the program: contracts.
-/
import Derived.Test.YthgbfjeemfcnlaaDoorRowW
namespace Go.Proofs.YthgbfjeemfcnlaaDoor
open Go.RowKit Go
set_option linter.unusedVariables false

theorem surL_bd {l r : ByteArray} (h : eqnB l r = true) (k : Nat) (hk : k < 8) : ∃ x : Int, (surL l r)[k]? = some x ∧ -24 ≤ x ∧ x ≤ 24 := by
  obtain ⟨hl, hr, _, _⟩ := eqnB_sz h
  obtain ⟨x, hx, hx1, hx2⟩ := cntL_get l.data.toList k hk
  obtain ⟨y, hy, hy1, hy2⟩ := cntL_get r.data.toList k hk
  have h1 : l.data.toList.length = l.size := by simp
  have h2 : r.data.toList.length = r.size := by simp
  exact ⟨_, surL_get l r k hx hy, by omega, by omega⟩
theorem surL_eight {l r : ByteArray} (h : eqnB l r = true) : ∃ x0 x1 x2 x3 x4 x5 x6 x7 : Int, surL l r = [x0, x1, x2, x3, x4, x5, x6, x7] ∧ (∀ x ∈ [x0, x1, x2, x3, x4, x5, x6, x7], -24 ≤ x ∧ x ≤ 24) := by
  refine ⟨_, _, _, _, _, _, _, _, rfl, ?_⟩
  intro x hx
  rw [List.mem_iff_getElem?] at hx
  obtain ⟨k, hk⟩ := hx
  have hlt : k < 8 := by
    rcases Nat.lt_or_ge k 8 with h1 | h1
    · exact h1
    · rw [List.getElem?_eq_none (by simpa using h1)] at hk
      cases hk
  obtain ⟨y, hy, hb⟩ := surL_bd h k hlt
  have : some x = some y := hk.symm.trans hy
  injection this with this
  rw [this]
  exact hb

set_option maxRecDepth 100000 in
set_option maxHeartbeats 800000 in
theorem lengthRow_any (l r : ByteArray) (x0 x1 x2 x3 x4 x5 x6 x7 : Int) (w : World) (h : eqnB l r = true) (hx : surL l r = [x0, x1, x2, x3, x4, x5, x6, x7]) (hb : ∀ x ∈ [x0, x1, x2, x3, x4, x5, x6, x7], -24 ≤ x ∧ x ≤ 24) :
    Calls Tryd.prog 14 #[.agg #[.string l, .string r]] w fun e w' => e = .returned (.agg #[.int .i64 x4, .int .i64 x5, .int .i64 x6, .int .i64 x7, .int .i64 (x0 + x1 + x2 + x3)]) ∧ Below w.heap.size w w' := by
  have c1 := fun W => surplus_any l r W h
  rw [hx] at c1
  have C1 : Hid (∀ W, Calls Tryd.prog 22 #[.agg #[.string l, .string r]] W fun e w' => e = .returned (.agg #[.int .i64 x0, .int .i64 x1, .int .i64 x2, .int .i64 x3, .int .i64 x4, .int .i64 x5, .int .i64 x6, .int .i64 x7]) ∧ Below W.heap.size W w') := c1
  have C2 := hidv (fun W => rowWith_any l r (x0 + x1 + x2 + x3) x0 x1 x2 x3 x4 x5 x6 x7 W h hx)
  obtain ⟨b0, t0⟩ := hb x0 (by simp)
  obtain ⟨b1, t1⟩ := hb x1 (by simp)
  obtain ⟨b2, t2⟩ := hb x2 (by simp)
  obtain ⟨b3, t3⟩ := hb x3 (by simp)
  clear c1 hx h hb
  go_enter Tryd.func14, Tryd.ntmps14
  go_wp2_with fail
  refine (C1.out _).mono ?_
  rintro e w1 ⟨rfl, hb1⟩
  have hE := ((Bx.new w 33 #[.string l, .string r]).alloc (.cells #[.int .i64 0, .int .i64 0, .int .i64 0, .int .i64 0, .int .i64 0] 38)).below hb1
  have hZ := (Bx.new (w.alloc (.cells #[.string l, .string r] 33)) 38 #[.int .i64 0, .int .i64 0, .int .i64 0, .int .i64 0, .int .i64 0]).below hb1
  rw [World.size_alloc] at hZ
  have HB1 := hidv ((((Below.refl w.heap.size w).alloc (Nat.le_refl _) _).alloc (by simp) _).trans (hb1.mono (by simp; omega)))
  have HZ := hidv hZ
  have HE := hidv hE
  have s1 := hZ.lt
  clear hZ hE hb1
  go_wp2_with fail
  obtain ⟨W2, hW2⟩ : ∃ W2, W2 = w1.alloc (.cells #[.int .i64 x0, .int .i64 x1, .int .i64 x2, .int .i64 x3, .int .i64 x4, .int .i64 x5, .int .i64 x6, .int .i64 x7] 53) := ⟨_, rfl⟩
  rw [← hW2]
  have hX := Bx.new w1 53 #[.int .i64 x0, .int .i64 x1, .int .i64 x2, .int .i64 x3, .int .i64 x4, .int .i64 x5, .int .i64 x6, .int .i64 x7]
  rw [← hW2] at hX
  have hE := HE.out.alloc (.cells #[.int .i64 x0, .int .i64 x1, .int .i64 x2, .int .i64 x3, .int .i64 x4, .int .i64 x5, .int .i64 x6, .int .i64 x7] 53)
  rw [← hW2] at hE
  have hZ := HZ.out.alloc (.cells #[.int .i64 x0, .int .i64 x1, .int .i64 x2, .int .i64 x3, .int .i64 x4, .int .i64 x5, .int .i64 x6, .int .i64 x7] 53)
  rw [← hW2] at hZ
  have HB2 := hidv (show Below w.heap.size w W2 by rw [hW2]; exact below_al HB1.out _)
  have y0 : W2.cell? ⟨w1.heap.size, 0, none⟩ = some (.int .i64 x0) := hX.cell 0
  have y1 : W2.cell? ⟨w1.heap.size, 1, none⟩ = some (.int .i64 x1) := hX.cell 1
  have y2 : W2.cell? ⟨w1.heap.size, 2, none⟩ = some (.int .i64 x2) := hX.cell 2
  have y3 : W2.cell? ⟨w1.heap.size, 3, none⟩ = some (.int .i64 x3) := hX.cell 3
  obtain ⟨e0, e1⟩ := hE.two
  have HZ2 := hidv hZ
  clear hW2 hX hE hZ
  refine wp_loop_rounds 5 ?_
  rw [rounds_succ]
  go_wp2_with fail
  rw [rounds_succ]
  go_wp2_with fail
  rw [rounds_succ]
  go_wp2_with fail
  rw [rounds_succ]
  go_wp2_with fail
  rw [rounds_succ]
  go_wp2_with fail
  refine (C2.out _).mono ?_
  rintro e w3 ⟨rfl, hb3⟩
  have hz := HZ2.out.below hb3
  have HB3 := hidv (below_on HB2.out hb3)
  have z0 : w3.cell? ⟨w.heap.size + 1, 0, none⟩ = some (.int .i64 0) := hz.cell 0
  have f0 : w3.frozen? ⟨w.heap.size + 1, 0, none⟩ = false := hz.frozen 0
  have z1 : w3.cell? ⟨w.heap.size + 1, 1, none⟩ = some (.int .i64 0) := hz.cell 1
  have f1 : w3.frozen? ⟨w.heap.size + 1, 1, none⟩ = false := hz.frozen 1
  have z2 : w3.cell? ⟨w.heap.size + 1, 2, none⟩ = some (.int .i64 0) := hz.cell 2
  have f2 : w3.frozen? ⟨w.heap.size + 1, 2, none⟩ = false := hz.frozen 2
  have z3 : w3.cell? ⟨w.heap.size + 1, 3, none⟩ = some (.int .i64 0) := hz.cell 3
  have f3 : w3.frozen? ⟨w.heap.size + 1, 3, none⟩ = false := hz.frozen 3
  have z4 : w3.cell? ⟨w.heap.size + 1, 4, none⟩ = some (.int .i64 0) := hz.cell 4
  have f4 : w3.frozen? ⟨w.heap.size + 1, 4, none⟩ = false := hz.frozen 4
  have HF := hidv (((((hz.set 0 (.int .i64 x4)).set 1 (.int .i64 x5)).set 2 (.int .i64 x6)).set 3 (.int .i64 x7)).set 4 (.int .i64 (x0 + x1 + x2 + x3)))
  have E0 := hidv (HF.out.cell 0)
  have E1 := hidv (HF.out.cell 1)
  have E2 := hidv (HF.out.cell 2)
  have E3 := hidv (HF.out.cell 3)
  have E4 := hidv (HF.out.cell 4)
  clear hz hb3
  go_wp2_with fail
  refine bodyPost_ret (v := .agg #[.int .i64 x4, .int .i64 x5, .int .i64 x6, .int .i64 x7, .int .i64 (x0 + x1 + x2 + x3)]) ?_ rfl ⟨rfl, ?_⟩
  · simp [results, Tryd.results14, go_sem, E0.out, E1.out, E2.out, E3.out, E4.out]
  · exact ((((HB3.out.setCell (by simp) _).setCell (by simp) _).setCell (by simp) _).setCell (by simp) _).setCell (by simp) _

end Go.Proofs.YthgbfjeemfcnlaaDoor
