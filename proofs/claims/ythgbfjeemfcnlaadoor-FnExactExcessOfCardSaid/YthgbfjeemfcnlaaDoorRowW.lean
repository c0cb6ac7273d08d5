/-
  The row of an equation, of the program: contracts.
-/
import Derived.Test.YthgbfjeemfcnlaaDoorSur
import Derived.Deep.RegionLaw
import Derived.Laws.CopyOwn
import Derived.OpenShut
namespace Go.Proofs.YthgbfjeemfcnlaaDoor
open Go.RowKit Go
set_option linter.unusedVariables false

set_option maxRecDepth 100000 in
set_option maxHeartbeats 800000 in
theorem rowWith_any (l r : ByteArray) (n : Int) (x0 x1 x2 x3 x4 x5 x6 x7 : Int) (w : World) (h : eqnB l r = true) (hx : surL l r = [x0, x1, x2, x3, x4, x5, x6, x7]) :
    Calls Tryd.prog 23 #[.agg #[.string l, .string r], .int .i64 n] w fun e w' => e = .returned (.agg #[.int .i64 x4, .int .i64 x5, .int .i64 x6, .int .i64 x7, .int .i64 n]) ∧ Below w.heap.size w w' := by
  have c1 := fun W => surplus_any l r W h
  rw [hx] at c1
  have C1 : Hid (∀ W, Calls Tryd.prog 22 #[.agg #[.string l, .string r]] W fun e w' => e = .returned (.agg #[.int .i64 x0, .int .i64 x1, .int .i64 x2, .int .i64 x3, .int .i64 x4, .int .i64 x5, .int .i64 x6, .int .i64 x7]) ∧ Below W.heap.size W w') := c1
  clear c1 hx h
  go_enter Tryd.func23, Tryd.ntmps23
  go_wp2_with fail
  refine (C1.out _).mono ?_
  rintro e w1 ⟨rfl, hb1⟩
  have hZ := ((Bx.new (w.alloc (.cells #[.string l, .string r] 33)) 38 #[.int .i64 0, .int .i64 0, .int .i64 0, .int .i64 0, .int .i64 0]).alloc (.cells #[.int .i64 0, .int .i64 0, .int .i64 0, .int .i64 0, .int .i64 0] 38)).below hb1
  have hR := (Bx.new ((w.alloc (.cells #[.string l, .string r] 33)).alloc (.cells #[.int .i64 0, .int .i64 0, .int .i64 0, .int .i64 0, .int .i64 0] 38)) 38 #[.int .i64 0, .int .i64 0, .int .i64 0, .int .i64 0, .int .i64 0]).below hb1
  rw [World.size_alloc] at hZ
  rw [World.size_alloc, World.size_alloc] at hR
  have HB1 := hidv (((((Below.refl w.heap.size w).alloc (Nat.le_refl _) _).alloc (by simp) _).alloc (by simp; omega) _).trans (hb1.mono (by simp; omega)))
  have HZ := hidv hZ
  have HR := hidv hR
  have s1 := hR.lt
  clear hZ hR hb1
  go_wp2_with fail
  obtain ⟨W2, hW2⟩ : ∃ W2, W2 = w1.alloc (.cells #[.int .i64 x0, .int .i64 x1, .int .i64 x2, .int .i64 x3, .int .i64 x4, .int .i64 x5, .int .i64 x6, .int .i64 x7] 53) := ⟨_, rfl⟩
  rw [← hW2]
  have hX := Bx.new w1 53 #[.int .i64 x0, .int .i64 x1, .int .i64 x2, .int .i64 x3, .int .i64 x4, .int .i64 x5, .int .i64 x6, .int .i64 x7]
  rw [← hW2] at hX
  have hR := HR.out.alloc (.cells #[.int .i64 x0, .int .i64 x1, .int .i64 x2, .int .i64 x3, .int .i64 x4, .int .i64 x5, .int .i64 x6, .int .i64 x7] 53)
  rw [← hW2] at hR
  have hZ := HZ.out.alloc (.cells #[.int .i64 x0, .int .i64 x1, .int .i64 x2, .int .i64 x3, .int .i64 x4, .int .i64 x5, .int .i64 x6, .int .i64 x7] 53)
  rw [← hW2] at hZ
  have HB2 := hidv (show Below w.heap.size w W2 by rw [hW2]; exact below_al HB1.out _)
  have HX2 := hidv hX
  have HR2 := hidv hR
  have HZ2 := hidv hZ
  have HSRC := hidv (show ∀ j v, ([.int .i64 x4, .int .i64 x5, .int .i64 x6, .int .i64 x7] : List Value)[j]? = some v → W2.drew.cell? ((⟨w1.heap.size, 4, none⟩ : Addr).add j) = some v from by
    intro j v hj
    rw [Go.WideShapes.add_plain]
    show W2.cell? _ = _
    rw [hX.cell]
    match j, hj with
    | 0, h => exact h
    | 1, h => exact h
    | 2, h => exact h
    | 3, h => exact h)
  clear hW2 hX hR hZ
  go_region_law ((refine step_copy_splice (by rfl) (.tmp 9) (.tmp 10) 55 55 (by rfl) 2 Tryd.underlying55 (by kernel_rfl) (some ⟨w.heap.size + 1 + 1, 0, none⟩) (some ⟨w1.heap.size, 4, none⟩) 5 5 4 4 (by simp [Act.eval, Act.put]) (by simp [Act.eval, Act.put]) (w.heap.size + 1 + 1) 0 [.int .i64 0, .int .i64 0, .int .i64 0, .int .i64 0, .int .i64 0] 38 HR2.out [.int .i64 x4, .int .i64 x5, .int .i64 x6, .int .i64 x7] rfl (fun _ => ⟨rfl, _, rfl, HSRC.out⟩) (by simp) (by intro v hv; simp at hv; rcases hv with rfl | rfl | rfl | rfl <;> rfl) (w.heap.size + 1 + 1) W2 (Below.drew (Below.refl _ _)) (Nat.le_refl _) ?_; intro w4 hg4 hb4))
  have hr : Bx w4 (w.heap.size + 1 + 1) 38 #[.int .i64 x4, .int .i64 x5, .int .i64 x6, .int .i64 x7, .int .i64 0] := hg4.out
  have hz := HZ2.out.belowB hb4 (by omega)
  have HB4 := hidv (HB2.out.trans (hb4.mono (by omega)))
  have HF := hidv ((((((hz.far ⟨w.heap.size + 1 + 1, 4, none⟩ (by simp) (.int .i64 n)).set 0 (.int .i64 x4)).set 1 (.int .i64 x5)).set 2 (.int .i64 x6)).set 3 (.int .i64 x7)).set 4 (.int .i64 n))
  have y0 : w4.cell? ⟨w.heap.size + 1 + 1, 0, none⟩ = some (.int .i64 x4) := hr.cell 0
  have y1 : w4.cell? ⟨w.heap.size + 1 + 1, 1, none⟩ = some (.int .i64 x5) := hr.cell 1
  have y2 : w4.cell? ⟨w.heap.size + 1 + 1, 2, none⟩ = some (.int .i64 x6) := hr.cell 2
  have y3 : w4.cell? ⟨w.heap.size + 1 + 1, 3, none⟩ = some (.int .i64 x7) := hr.cell 3
  have y4 : w4.cell? ⟨w.heap.size + 1 + 1, 4, none⟩ = some (.int .i64 0) := hr.cell 4
  have g4 : w4.frozen? ⟨w.heap.size + 1 + 1, 4, none⟩ = false := hr.frozen 4
  have z0 : w4.cell? ⟨w.heap.size + 1, 0, none⟩ = some (.int .i64 0) := hz.cell 0
  have f0 : w4.frozen? ⟨w.heap.size + 1, 0, none⟩ = false := hz.frozen 0
  have z1 : w4.cell? ⟨w.heap.size + 1, 1, none⟩ = some (.int .i64 0) := hz.cell 1
  have f1 : w4.frozen? ⟨w.heap.size + 1, 1, none⟩ = false := hz.frozen 1
  have z2 : w4.cell? ⟨w.heap.size + 1, 2, none⟩ = some (.int .i64 0) := hz.cell 2
  have f2 : w4.frozen? ⟨w.heap.size + 1, 2, none⟩ = false := hz.frozen 2
  have z3 : w4.cell? ⟨w.heap.size + 1, 3, none⟩ = some (.int .i64 0) := hz.cell 3
  have f3 : w4.frozen? ⟨w.heap.size + 1, 3, none⟩ = false := hz.frozen 3
  have z4 : w4.cell? ⟨w.heap.size + 1, 4, none⟩ = some (.int .i64 0) := hz.cell 4
  have f4 : w4.frozen? ⟨w.heap.size + 1, 4, none⟩ = false := hz.frozen 4
  have E0 := hidv (HF.out.cell 0)
  have E1 := hidv (HF.out.cell 1)
  have E2 := hidv (HF.out.cell 2)
  have E3 := hidv (HF.out.cell 3)
  have E4 := hidv (HF.out.cell 4)
  clear hr hz hg4 hb4
  go_wp2
  refine bodyPost_ret (v := .agg #[.int .i64 x4, .int .i64 x5, .int .i64 x6, .int .i64 x7, .int .i64 n]) ?_ rfl ⟨rfl, ?_⟩
  · simp [results, Tryd.results23, go_sem, E0.out, E1.out, E2.out, E3.out, E4.out]
  · exact (((((HB4.out.setCell (by simp; omega) _).setCell (by simp) _).setCell (by simp) _).setCell (by simp) _).setCell (by simp) _).setCell (by simp) _

end Go.Proofs.YthgbfjeemfcnlaaDoor
