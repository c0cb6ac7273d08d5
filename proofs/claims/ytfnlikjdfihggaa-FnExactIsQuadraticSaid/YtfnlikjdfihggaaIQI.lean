/-
  IsQuadratic, of the program: contracts; and the law.
-/
import Derived.Test.YtfnlikjdfihggaaIQS
import Derived.Deep.RegionHeld3
import Derived.Deep.DeepCutAuto
namespace Go.Proofs.Ytfnlikjdfihggaa
open Go.RowKit Go
set_option linter.unusedVariables false

theorem facts8 {w : World} {g : Nat} (h : Bx w g 70 #[.int .i64 0, .int .i64 0, .int .i64 0, .int .i64 0, .int .i64 0, .int .i64 0, .int .i64 0, .int .i64 0]) : w.cell? ⟨g, 0, none⟩ = some (.int .i64 0) ∧ w.cell? ⟨g, 1, none⟩ = some (.int .i64 0) ∧ w.cell? ⟨g, 2, none⟩ = some (.int .i64 0) ∧ w.cell? ⟨g, 3, none⟩ = some (.int .i64 0) ∧ w.cell? ⟨g, 4, none⟩ = some (.int .i64 0) ∧ w.cell? ⟨g, 5, none⟩ = some (.int .i64 0) ∧ w.cell? ⟨g, 6, none⟩ = some (.int .i64 0) ∧ w.cell? ⟨g, 7, none⟩ = some (.int .i64 0) ∧ w.frozen? ⟨g, 0, none⟩ = false ∧ w.frozen? ⟨g, 1, none⟩ = false ∧ w.frozen? ⟨g, 2, none⟩ = false ∧ w.frozen? ⟨g, 3, none⟩ = false ∧ w.frozen? ⟨g, 4, none⟩ = false ∧ w.frozen? ⟨g, 5, none⟩ = false ∧ w.frozen? ⟨g, 6, none⟩ = false ∧ w.frozen? ⟨g, 7, none⟩ = false ∧ g < w.heap.size :=
  ⟨h.cell 0, h.cell 1, h.cell 2, h.cell 3, h.cell 4, h.cell 5, h.cell 6, h.cell 7, h.frozen 0, h.frozen 1, h.frozen 2, h.frozen 3, h.frozen 4, h.frozen 5, h.frozen 6, h.frozen 7, h.lt⟩
set_option maxHeartbeats 2000000 in
theorem set8 {w : World} {g : Nat} (h : Bx w g 70 #[.int .i64 0, .int .i64 0, .int .i64 0, .int .i64 0, .int .i64 0, .int .i64 0, .int .i64 0, .int .i64 0]) (x0 x1 x2 x3 x4 x5 x6 x7 : Int) : Bx ((((((((w.setCell ⟨g, 0, none⟩ (.int .i64 x0)).setCell ⟨g, 1, none⟩ (.int .i64 x1)).setCell ⟨g, 2, none⟩ (.int .i64 x2)).setCell ⟨g, 3, none⟩ (.int .i64 x3)).setCell ⟨g, 4, none⟩ (.int .i64 x4)).setCell ⟨g, 5, none⟩ (.int .i64 x5)).setCell ⟨g, 6, none⟩ (.int .i64 x6)).setCell ⟨g, 7, none⟩ (.int .i64 x7)) g 70 #[.int .i64 x0, .int .i64 x1, .int .i64 x2, .int .i64 x3, .int .i64 x4, .int .i64 x5, .int .i64 x6, .int .i64 x7] :=
  (((((((h.set 0 _).set 1 _).set 2 _).set 3 _).set 4 _).set 5 _).set 6 _).set 7 _
set_option maxHeartbeats 2000000 in
theorem far8 {w : World} {g g' : Nat} {t : TypeId} {cs : Array Value} (h : Bx w g' t cs) (hne : g ≠ g') (x0 x1 x2 x3 x4 x5 x6 x7 : Int) : Bx ((((((((w.setCell ⟨g, 0, none⟩ (.int .i64 x0)).setCell ⟨g, 1, none⟩ (.int .i64 x1)).setCell ⟨g, 2, none⟩ (.int .i64 x2)).setCell ⟨g, 3, none⟩ (.int .i64 x3)).setCell ⟨g, 4, none⟩ (.int .i64 x4)).setCell ⟨g, 5, none⟩ (.int .i64 x5)).setCell ⟨g, 6, none⟩ (.int .i64 x6)).setCell ⟨g, 7, none⟩ (.int .i64 x7)) g' t cs :=
  (((((((h.far ⟨g, 0, none⟩ hne _).far ⟨g, 1, none⟩ hne _).far ⟨g, 2, none⟩ hne _).far ⟨g, 3, none⟩ hne _).far ⟨g, 4, none⟩ hne _).far ⟨g, 5, none⟩ hne _).far ⟨g, 6, none⟩ hne _).far ⟨g, 7, none⟩ hne _
set_option maxHeartbeats 2000000 in
theorem below8 {w w' : World} {B g : Nat} (h : Below B w w') (hB : B ≤ g) (x0 x1 x2 x3 x4 x5 x6 x7 : Int) : Below B w ((((((((w'.setCell ⟨g, 0, none⟩ (.int .i64 x0)).setCell ⟨g, 1, none⟩ (.int .i64 x1)).setCell ⟨g, 2, none⟩ (.int .i64 x2)).setCell ⟨g, 3, none⟩ (.int .i64 x3)).setCell ⟨g, 4, none⟩ (.int .i64 x4)).setCell ⟨g, 5, none⟩ (.int .i64 x5)).setCell ⟨g, 6, none⟩ (.int .i64 x6)).setCell ⟨g, 7, none⟩ (.int .i64 x7)) :=
  (((((((h.setCell (p := ⟨g, 0, none⟩) hB _).setCell (p := ⟨g, 1, none⟩) hB _).setCell (p := ⟨g, 2, none⟩) hB _).setCell (p := ⟨g, 3, none⟩) hB _).setCell (p := ⟨g, 4, none⟩) hB _).setCell (p := ⟨g, 5, none⟩) hB _).setCell (p := ⟨g, 6, none⟩) hB _).setCell (p := ⟨g, 7, none⟩) hB _
set_option maxHeartbeats 2000000 in
theorem new8 (w : World) (g : Nat) (t : TypeId) (cs : Array Value) (x0 x1 x2 x3 x4 x5 x6 x7 : Int) : Bx (((((((((w.setCell ⟨g, 0, none⟩ (.int .i64 x0)).setCell ⟨g, 1, none⟩ (.int .i64 x1)).setCell ⟨g, 2, none⟩ (.int .i64 x2)).setCell ⟨g, 3, none⟩ (.int .i64 x3)).setCell ⟨g, 4, none⟩ (.int .i64 x4)).setCell ⟨g, 5, none⟩ (.int .i64 x5)).setCell ⟨g, 6, none⟩ (.int .i64 x6)).setCell ⟨g, 7, none⟩ (.int .i64 x7)).alloc (.cells cs t)) w.heap.size t cs := by
  have h := Bx.new ((((((((w.setCell ⟨g, 0, none⟩ (.int .i64 x0)).setCell ⟨g, 1, none⟩ (.int .i64 x1)).setCell ⟨g, 2, none⟩ (.int .i64 x2)).setCell ⟨g, 3, none⟩ (.int .i64 x3)).setCell ⟨g, 4, none⟩ (.int .i64 x4)).setCell ⟨g, 5, none⟩ (.int .i64 x5)).setCell ⟨g, 6, none⟩ (.int .i64 x6)).setCell ⟨g, 7, none⟩ (.int .i64 x7)) t cs
  have hs : ((((((((w.setCell ⟨g, 0, none⟩ (.int .i64 x0)).setCell ⟨g, 1, none⟩ (.int .i64 x1)).setCell ⟨g, 2, none⟩ (.int .i64 x2)).setCell ⟨g, 3, none⟩ (.int .i64 x3)).setCell ⟨g, 4, none⟩ (.int .i64 x4)).setCell ⟨g, 5, none⟩ (.int .i64 x5)).setCell ⟨g, 6, none⟩ (.int .i64 x6)).setCell ⟨g, 7, none⟩ (.int .i64 x7)).heap.size = w.heap.size := by simp
  rw [hs] at h
  exact h
theorem mk_new {X w : World} (h : Below (X.alloc (.cells #[.int .i64 0, .int .i64 0, .int .i64 0, .int .i64 0, .int .i64 0, .int .i64 0, .int .i64 0, .int .i64 0] 70)).heap.size (X.alloc (.cells #[.int .i64 0, .int .i64 0, .int .i64 0, .int .i64 0, .int .i64 0, .int .i64 0, .int .i64 0, .int .i64 0] 70)) w) : Bx w X.heap.size 70 #[.int .i64 0, .int .i64 0, .int .i64 0, .int .i64 0, .int .i64 0, .int .i64 0, .int .i64 0, .int .i64 0] := (Bx.new _ _ _).below h
theorem mk_new2 {X w : World} (h : Below ((X.alloc (.cells #[.int .i64 0, .int .i64 0, .int .i64 0, .int .i64 0, .int .i64 0, .int .i64 0, .int .i64 0, .int .i64 0] 70)).alloc (.cells #[.int .i64 0, .int .i64 0, .int .i64 0, .int .i64 0, .int .i64 0, .int .i64 0, .int .i64 0, .int .i64 0] 70)).heap.size ((X.alloc (.cells #[.int .i64 0, .int .i64 0, .int .i64 0, .int .i64 0, .int .i64 0, .int .i64 0, .int .i64 0, .int .i64 0] 70)).alloc (.cells #[.int .i64 0, .int .i64 0, .int .i64 0, .int .i64 0, .int .i64 0, .int .i64 0, .int .i64 0, .int .i64 0] 70)) w) : Bx w X.heap.size 70 #[.int .i64 0, .int .i64 0, .int .i64 0, .int .i64 0, .int .i64 0, .int .i64 0, .int .i64 0, .int .i64 0] := ((Bx.new _ _ _).alloc _).below h
theorem mk_new3 {X w : World} (h : Below ((X.alloc (.cells #[.int .i64 0, .int .i64 0, .int .i64 0, .int .i64 0, .int .i64 0, .int .i64 0, .int .i64 0, .int .i64 0] 70)).alloc (.cells #[.int .i64 0, .int .i64 0, .int .i64 0, .int .i64 0, .int .i64 0, .int .i64 0, .int .i64 0, .int .i64 0] 70)).heap.size ((X.alloc (.cells #[.int .i64 0, .int .i64 0, .int .i64 0, .int .i64 0, .int .i64 0, .int .i64 0, .int .i64 0, .int .i64 0] 70)).alloc (.cells #[.int .i64 0, .int .i64 0, .int .i64 0, .int .i64 0, .int .i64 0, .int .i64 0, .int .i64 0, .int .i64 0] 70)) w) : Bx w (X.heap.size + 1) 70 #[.int .i64 0, .int .i64 0, .int .i64 0, .int .i64 0, .int .i64 0, .int .i64 0, .int .i64 0, .int .i64 0] := by
  have := (Bx.new (X.alloc (.cells #[.int .i64 0, .int .i64 0, .int .i64 0, .int .i64 0, .int .i64 0, .int .i64 0, .int .i64 0, .int .i64 0] 70)) 70 #[.int .i64 0, .int .i64 0, .int .i64 0, .int .i64 0, .int .i64 0, .int .i64 0, .int .i64 0, .int .i64 0]).below h
  rw [World.size_alloc] at this
  exact this
theorem mk_newd {X w : World} (h : Below (X.alloc (.cells #[.int .i64 0, .int .i64 0, .int .i64 0, .int .i64 0, .int .i64 0, .int .i64 0, .int .i64 0, .int .i64 0] 70)).drew.heap.size (X.alloc (.cells #[.int .i64 0, .int .i64 0, .int .i64 0, .int .i64 0, .int .i64 0, .int .i64 0, .int .i64 0, .int .i64 0] 70)).drew w) : Bx w X.heap.size 70 #[.int .i64 0, .int .i64 0, .int .i64 0, .int .i64 0, .int .i64 0, .int .i64 0, .int .i64 0, .int .i64 0] := by
  have hb : Bx (X.alloc (.cells #[.int .i64 0, .int .i64 0, .int .i64 0, .int .i64 0, .int .i64 0, .int .i64 0, .int .i64 0, .int .i64 0] 70)).drew X.heap.size 70 #[.int .i64 0, .int .i64 0, .int .i64 0, .int .i64 0, .int .i64 0, .int .i64 0, .int .i64 0, .int .i64 0] := (Bx.new X _ _).below (below_dr _)
  exact hb.below h
theorem mk_new2d {X w : World} (h : Below ((X.alloc (.cells #[.int .i64 0, .int .i64 0, .int .i64 0, .int .i64 0, .int .i64 0, .int .i64 0, .int .i64 0, .int .i64 0] 70)).alloc (.cells #[.int .i64 0, .int .i64 0, .int .i64 0, .int .i64 0, .int .i64 0, .int .i64 0, .int .i64 0, .int .i64 0] 70)).drew.heap.size ((X.alloc (.cells #[.int .i64 0, .int .i64 0, .int .i64 0, .int .i64 0, .int .i64 0, .int .i64 0, .int .i64 0, .int .i64 0] 70)).alloc (.cells #[.int .i64 0, .int .i64 0, .int .i64 0, .int .i64 0, .int .i64 0, .int .i64 0, .int .i64 0, .int .i64 0] 70)).drew w) : Bx w X.heap.size 70 #[.int .i64 0, .int .i64 0, .int .i64 0, .int .i64 0, .int .i64 0, .int .i64 0, .int .i64 0, .int .i64 0] := by
  have hb : Bx ((X.alloc (.cells #[.int .i64 0, .int .i64 0, .int .i64 0, .int .i64 0, .int .i64 0, .int .i64 0, .int .i64 0, .int .i64 0] 70)).alloc (.cells #[.int .i64 0, .int .i64 0, .int .i64 0, .int .i64 0, .int .i64 0, .int .i64 0, .int .i64 0, .int .i64 0] 70)).drew X.heap.size 70 #[.int .i64 0, .int .i64 0, .int .i64 0, .int .i64 0, .int .i64 0, .int .i64 0, .int .i64 0, .int .i64 0] := ((Bx.new X _ _).alloc _).below (below_dr _)
  exact hb.below h
theorem mk_new3d {X w : World} (h : Below ((X.alloc (.cells #[.int .i64 0, .int .i64 0, .int .i64 0, .int .i64 0, .int .i64 0, .int .i64 0, .int .i64 0, .int .i64 0] 70)).alloc (.cells #[.int .i64 0, .int .i64 0, .int .i64 0, .int .i64 0, .int .i64 0, .int .i64 0, .int .i64 0, .int .i64 0] 70)).drew.heap.size ((X.alloc (.cells #[.int .i64 0, .int .i64 0, .int .i64 0, .int .i64 0, .int .i64 0, .int .i64 0, .int .i64 0, .int .i64 0] 70)).alloc (.cells #[.int .i64 0, .int .i64 0, .int .i64 0, .int .i64 0, .int .i64 0, .int .i64 0, .int .i64 0, .int .i64 0] 70)).drew w) : Bx w (X.heap.size + 1) 70 #[.int .i64 0, .int .i64 0, .int .i64 0, .int .i64 0, .int .i64 0, .int .i64 0, .int .i64 0, .int .i64 0] := by
  have h0 := (Bx.new (X.alloc (.cells #[.int .i64 0, .int .i64 0, .int .i64 0, .int .i64 0, .int .i64 0, .int .i64 0, .int .i64 0, .int .i64 0] 70)) 70 #[.int .i64 0, .int .i64 0, .int .i64 0, .int .i64 0, .int .i64 0, .int .i64 0, .int .i64 0, .int .i64 0])
  rw [World.size_alloc] at h0
  have hb : Bx ((X.alloc (.cells #[.int .i64 0, .int .i64 0, .int .i64 0, .int .i64 0, .int .i64 0, .int .i64 0, .int .i64 0, .int .i64 0] 70)).alloc (.cells #[.int .i64 0, .int .i64 0, .int .i64 0, .int .i64 0, .int .i64 0, .int .i64 0, .int .i64 0, .int .i64 0] 70)).drew (X.heap.size + 1) 70 #[.int .i64 0, .int .i64 0, .int .i64 0, .int .i64 0, .int .i64 0, .int .i64 0, .int .i64 0, .int .i64 0] := h0.below (below_dr _)
  exact hb.below h
theorem mk_old {w v : World} {g : Nat} (h0 : Hid (Bx w g 70 #[.int .i64 0, .int .i64 0, .int .i64 0, .int .i64 0, .int .i64 0, .int .i64 0, .int .i64 0, .int .i64 0])) (h : Below w.heap.size w v) : Bx v g 70 #[.int .i64 0, .int .i64 0, .int .i64 0, .int .i64 0, .int .i64 0, .int .i64 0, .int .i64 0, .int .i64 0] := h0.out.below h
theorem mk_old1 {w v : World} {g : Nat} (h0 : Hid (Bx w g 70 #[.int .i64 0, .int .i64 0, .int .i64 0, .int .i64 0, .int .i64 0, .int .i64 0, .int .i64 0, .int .i64 0])) (h : Below (w.alloc (.cells #[.int .i64 0, .int .i64 0, .int .i64 0, .int .i64 0, .int .i64 0, .int .i64 0, .int .i64 0, .int .i64 0] 70)).heap.size (w.alloc (.cells #[.int .i64 0, .int .i64 0, .int .i64 0, .int .i64 0, .int .i64 0, .int .i64 0, .int .i64 0, .int .i64 0] 70)) v) : Bx v g 70 #[.int .i64 0, .int .i64 0, .int .i64 0, .int .i64 0, .int .i64 0, .int .i64 0, .int .i64 0, .int .i64 0] := (h0.out.alloc _).below h
theorem end_aa {w1 w4 : World} {a0 a1 a2 a3 a4 a5 a6 a7 b0 b1 b2 b3 b4 b5 b6 b7 : Int} (hb : Below w1.heap.size w1 w4) : Hid (Bx ((w4.alloc (.cells #[.int .i64 a0, .int .i64 a1, .int .i64 a2, .int .i64 a3, .int .i64 a4, .int .i64 a5, .int .i64 a6, .int .i64 a7] 70)).alloc (.cells #[.int .i64 b0, .int .i64 b1, .int .i64 b2, .int .i64 b3, .int .i64 b4, .int .i64 b5, .int .i64 b6, .int .i64 b7] 70)) w4.heap.size 70 #[.int .i64 a0, .int .i64 a1, .int .i64 a2, .int .i64 a3, .int .i64 a4, .int .i64 a5, .int .i64 a6, .int .i64 a7]) ∧ Hid (Bx ((w4.alloc (.cells #[.int .i64 a0, .int .i64 a1, .int .i64 a2, .int .i64 a3, .int .i64 a4, .int .i64 a5, .int .i64 a6, .int .i64 a7] 70)).alloc (.cells #[.int .i64 b0, .int .i64 b1, .int .i64 b2, .int .i64 b3, .int .i64 b4, .int .i64 b5, .int .i64 b6, .int .i64 b7] 70)) (w4.heap.size + 1) 70 #[.int .i64 b0, .int .i64 b1, .int .i64 b2, .int .i64 b3, .int .i64 b4, .int .i64 b5, .int .i64 b6, .int .i64 b7]) ∧ Hid (Below w1.heap.size w1 ((w4.alloc (.cells #[.int .i64 a0, .int .i64 a1, .int .i64 a2, .int .i64 a3, .int .i64 a4, .int .i64 a5, .int .i64 a6, .int .i64 a7] 70)).alloc (.cells #[.int .i64 b0, .int .i64 b1, .int .i64 b2, .int .i64 b3, .int .i64 b4, .int .i64 b5, .int .i64 b6, .int .i64 b7] 70))) := by
  have h := Bx.new (w4.alloc (.cells #[.int .i64 a0, .int .i64 a1, .int .i64 a2, .int .i64 a3, .int .i64 a4, .int .i64 a5, .int .i64 a6, .int .i64 a7] 70)) 70 #[.int .i64 b0, .int .i64 b1, .int .i64 b2, .int .i64 b3, .int .i64 b4, .int .i64 b5, .int .i64 b6, .int .i64 b7]
  rw [World.size_alloc] at h
  exact ⟨hidv ((Bx.new w4 _ _).alloc _), hidv h, hidv (below_al (below_al hb _) _)⟩
theorem end_bb {w1 w4 : World} {a0 a1 a2 a3 a4 a5 a6 a7 b0 b1 b2 b3 b4 b5 b6 b7 : Int} (hb : Below w1.heap.size w1 w4) : Hid (Bx ((w4.alloc (.cells #[.int .i64 b0, .int .i64 b1, .int .i64 b2, .int .i64 b3, .int .i64 b4, .int .i64 b5, .int .i64 b6, .int .i64 b7] 70)).alloc (.cells #[.int .i64 a0, .int .i64 a1, .int .i64 a2, .int .i64 a3, .int .i64 a4, .int .i64 a5, .int .i64 a6, .int .i64 a7] 70)) (w4.heap.size + 1) 70 #[.int .i64 a0, .int .i64 a1, .int .i64 a2, .int .i64 a3, .int .i64 a4, .int .i64 a5, .int .i64 a6, .int .i64 a7]) ∧ Hid (Bx ((w4.alloc (.cells #[.int .i64 b0, .int .i64 b1, .int .i64 b2, .int .i64 b3, .int .i64 b4, .int .i64 b5, .int .i64 b6, .int .i64 b7] 70)).alloc (.cells #[.int .i64 a0, .int .i64 a1, .int .i64 a2, .int .i64 a3, .int .i64 a4, .int .i64 a5, .int .i64 a6, .int .i64 a7] 70)) w4.heap.size 70 #[.int .i64 b0, .int .i64 b1, .int .i64 b2, .int .i64 b3, .int .i64 b4, .int .i64 b5, .int .i64 b6, .int .i64 b7]) ∧ Hid (Below w1.heap.size w1 ((w4.alloc (.cells #[.int .i64 b0, .int .i64 b1, .int .i64 b2, .int .i64 b3, .int .i64 b4, .int .i64 b5, .int .i64 b6, .int .i64 b7] 70)).alloc (.cells #[.int .i64 a0, .int .i64 a1, .int .i64 a2, .int .i64 a3, .int .i64 a4, .int .i64 a5, .int .i64 a6, .int .i64 a7] 70))) := by
  have h := Bx.new (w4.alloc (.cells #[.int .i64 b0, .int .i64 b1, .int .i64 b2, .int .i64 b3, .int .i64 b4, .int .i64 b5, .int .i64 b6, .int .i64 b7] 70)) 70 #[.int .i64 a0, .int .i64 a1, .int .i64 a2, .int .i64 a3, .int .i64 a4, .int .i64 a5, .int .i64 a6, .int .i64 a7]
  rw [World.size_alloc] at h
  exact ⟨hidv h, hidv ((Bx.new w4 _ _).alloc _), hidv (below_al (below_al hb _) _)⟩
theorem end_sa {w1 w4 : World} {a0 a1 a2 a3 a4 a5 a6 a7 b0 b1 b2 b3 b4 b5 b6 b7 : Int} {g : Nat} (h : Hid (Bx w4 g 70 #[.int .i64 0, .int .i64 0, .int .i64 0, .int .i64 0, .int .i64 0, .int .i64 0, .int .i64 0, .int .i64 0])) (hb : Below w1.heap.size w1 w4) (hg : w1.heap.size ≤ g) : Hid (Bx (((((((((w4.setCell ⟨g, 0, none⟩ (.int .i64 a0)).setCell ⟨g, 1, none⟩ (.int .i64 a1)).setCell ⟨g, 2, none⟩ (.int .i64 a2)).setCell ⟨g, 3, none⟩ (.int .i64 a3)).setCell ⟨g, 4, none⟩ (.int .i64 a4)).setCell ⟨g, 5, none⟩ (.int .i64 a5)).setCell ⟨g, 6, none⟩ (.int .i64 a6)).setCell ⟨g, 7, none⟩ (.int .i64 a7)).alloc (.cells #[.int .i64 b0, .int .i64 b1, .int .i64 b2, .int .i64 b3, .int .i64 b4, .int .i64 b5, .int .i64 b6, .int .i64 b7] 70)) g 70 #[.int .i64 a0, .int .i64 a1, .int .i64 a2, .int .i64 a3, .int .i64 a4, .int .i64 a5, .int .i64 a6, .int .i64 a7]) ∧ Hid (Bx (((((((((w4.setCell ⟨g, 0, none⟩ (.int .i64 a0)).setCell ⟨g, 1, none⟩ (.int .i64 a1)).setCell ⟨g, 2, none⟩ (.int .i64 a2)).setCell ⟨g, 3, none⟩ (.int .i64 a3)).setCell ⟨g, 4, none⟩ (.int .i64 a4)).setCell ⟨g, 5, none⟩ (.int .i64 a5)).setCell ⟨g, 6, none⟩ (.int .i64 a6)).setCell ⟨g, 7, none⟩ (.int .i64 a7)).alloc (.cells #[.int .i64 b0, .int .i64 b1, .int .i64 b2, .int .i64 b3, .int .i64 b4, .int .i64 b5, .int .i64 b6, .int .i64 b7] 70)) w4.heap.size 70 #[.int .i64 b0, .int .i64 b1, .int .i64 b2, .int .i64 b3, .int .i64 b4, .int .i64 b5, .int .i64 b6, .int .i64 b7]) ∧ Hid (Below w1.heap.size w1 (((((((((w4.setCell ⟨g, 0, none⟩ (.int .i64 a0)).setCell ⟨g, 1, none⟩ (.int .i64 a1)).setCell ⟨g, 2, none⟩ (.int .i64 a2)).setCell ⟨g, 3, none⟩ (.int .i64 a3)).setCell ⟨g, 4, none⟩ (.int .i64 a4)).setCell ⟨g, 5, none⟩ (.int .i64 a5)).setCell ⟨g, 6, none⟩ (.int .i64 a6)).setCell ⟨g, 7, none⟩ (.int .i64 a7)).alloc (.cells #[.int .i64 b0, .int .i64 b1, .int .i64 b2, .int .i64 b3, .int .i64 b4, .int .i64 b5, .int .i64 b6, .int .i64 b7] 70))) :=
  ⟨hidv ((set8 h.out a0 a1 a2 a3 a4 a5 a6 a7).alloc _), hidv (new8 w4 g _ _ a0 a1 a2 a3 a4 a5 a6 a7), hidv (below_al (below8 hb hg a0 a1 a2 a3 a4 a5 a6 a7) _)⟩
theorem end_sb {w1 w4 : World} {a0 a1 a2 a3 a4 a5 a6 a7 b0 b1 b2 b3 b4 b5 b6 b7 : Int} {g : Nat} (h : Hid (Bx w4 g 70 #[.int .i64 0, .int .i64 0, .int .i64 0, .int .i64 0, .int .i64 0, .int .i64 0, .int .i64 0, .int .i64 0])) (hb : Below w1.heap.size w1 w4) (hg : w1.heap.size ≤ g) : Hid (Bx (((((((((w4.setCell ⟨g, 0, none⟩ (.int .i64 b0)).setCell ⟨g, 1, none⟩ (.int .i64 b1)).setCell ⟨g, 2, none⟩ (.int .i64 b2)).setCell ⟨g, 3, none⟩ (.int .i64 b3)).setCell ⟨g, 4, none⟩ (.int .i64 b4)).setCell ⟨g, 5, none⟩ (.int .i64 b5)).setCell ⟨g, 6, none⟩ (.int .i64 b6)).setCell ⟨g, 7, none⟩ (.int .i64 b7)).alloc (.cells #[.int .i64 a0, .int .i64 a1, .int .i64 a2, .int .i64 a3, .int .i64 a4, .int .i64 a5, .int .i64 a6, .int .i64 a7] 70)) w4.heap.size 70 #[.int .i64 a0, .int .i64 a1, .int .i64 a2, .int .i64 a3, .int .i64 a4, .int .i64 a5, .int .i64 a6, .int .i64 a7]) ∧ Hid (Bx (((((((((w4.setCell ⟨g, 0, none⟩ (.int .i64 b0)).setCell ⟨g, 1, none⟩ (.int .i64 b1)).setCell ⟨g, 2, none⟩ (.int .i64 b2)).setCell ⟨g, 3, none⟩ (.int .i64 b3)).setCell ⟨g, 4, none⟩ (.int .i64 b4)).setCell ⟨g, 5, none⟩ (.int .i64 b5)).setCell ⟨g, 6, none⟩ (.int .i64 b6)).setCell ⟨g, 7, none⟩ (.int .i64 b7)).alloc (.cells #[.int .i64 a0, .int .i64 a1, .int .i64 a2, .int .i64 a3, .int .i64 a4, .int .i64 a5, .int .i64 a6, .int .i64 a7] 70)) g 70 #[.int .i64 b0, .int .i64 b1, .int .i64 b2, .int .i64 b3, .int .i64 b4, .int .i64 b5, .int .i64 b6, .int .i64 b7]) ∧ Hid (Below w1.heap.size w1 (((((((((w4.setCell ⟨g, 0, none⟩ (.int .i64 b0)).setCell ⟨g, 1, none⟩ (.int .i64 b1)).setCell ⟨g, 2, none⟩ (.int .i64 b2)).setCell ⟨g, 3, none⟩ (.int .i64 b3)).setCell ⟨g, 4, none⟩ (.int .i64 b4)).setCell ⟨g, 5, none⟩ (.int .i64 b5)).setCell ⟨g, 6, none⟩ (.int .i64 b6)).setCell ⟨g, 7, none⟩ (.int .i64 b7)).alloc (.cells #[.int .i64 a0, .int .i64 a1, .int .i64 a2, .int .i64 a3, .int .i64 a4, .int .i64 a5, .int .i64 a6, .int .i64 a7] 70))) :=
  ⟨hidv (new8 w4 g _ _ b0 b1 b2 b3 b4 b5 b6 b7), hidv ((set8 h.out b0 b1 b2 b3 b4 b5 b6 b7).alloc _), hidv (below_al (below8 hb hg b0 b1 b2 b3 b4 b5 b6 b7) _)⟩
theorem end_ss {w1 w4 : World} {a0 a1 a2 a3 a4 a5 a6 a7 b0 b1 b2 b3 b4 b5 b6 b7 : Int} {g g' : Nat} (h : Hid (Bx w4 g 70 #[.int .i64 0, .int .i64 0, .int .i64 0, .int .i64 0, .int .i64 0, .int .i64 0, .int .i64 0, .int .i64 0])) (h' : Hid (Bx w4 g' 70 #[.int .i64 0, .int .i64 0, .int .i64 0, .int .i64 0, .int .i64 0, .int .i64 0, .int .i64 0, .int .i64 0])) (hn : g ≠ g') (hb : Below w1.heap.size w1 w4) (hg : w1.heap.size ≤ g) (hg' : w1.heap.size ≤ g') : Hid (Bx ((((((((((((((((w4.setCell ⟨g, 0, none⟩ (.int .i64 a0)).setCell ⟨g, 1, none⟩ (.int .i64 a1)).setCell ⟨g, 2, none⟩ (.int .i64 a2)).setCell ⟨g, 3, none⟩ (.int .i64 a3)).setCell ⟨g, 4, none⟩ (.int .i64 a4)).setCell ⟨g, 5, none⟩ (.int .i64 a5)).setCell ⟨g, 6, none⟩ (.int .i64 a6)).setCell ⟨g, 7, none⟩ (.int .i64 a7)).setCell ⟨g', 0, none⟩ (.int .i64 b0)).setCell ⟨g', 1, none⟩ (.int .i64 b1)).setCell ⟨g', 2, none⟩ (.int .i64 b2)).setCell ⟨g', 3, none⟩ (.int .i64 b3)).setCell ⟨g', 4, none⟩ (.int .i64 b4)).setCell ⟨g', 5, none⟩ (.int .i64 b5)).setCell ⟨g', 6, none⟩ (.int .i64 b6)).setCell ⟨g', 7, none⟩ (.int .i64 b7)) g 70 #[.int .i64 a0, .int .i64 a1, .int .i64 a2, .int .i64 a3, .int .i64 a4, .int .i64 a5, .int .i64 a6, .int .i64 a7]) ∧ Hid (Bx ((((((((((((((((w4.setCell ⟨g, 0, none⟩ (.int .i64 a0)).setCell ⟨g, 1, none⟩ (.int .i64 a1)).setCell ⟨g, 2, none⟩ (.int .i64 a2)).setCell ⟨g, 3, none⟩ (.int .i64 a3)).setCell ⟨g, 4, none⟩ (.int .i64 a4)).setCell ⟨g, 5, none⟩ (.int .i64 a5)).setCell ⟨g, 6, none⟩ (.int .i64 a6)).setCell ⟨g, 7, none⟩ (.int .i64 a7)).setCell ⟨g', 0, none⟩ (.int .i64 b0)).setCell ⟨g', 1, none⟩ (.int .i64 b1)).setCell ⟨g', 2, none⟩ (.int .i64 b2)).setCell ⟨g', 3, none⟩ (.int .i64 b3)).setCell ⟨g', 4, none⟩ (.int .i64 b4)).setCell ⟨g', 5, none⟩ (.int .i64 b5)).setCell ⟨g', 6, none⟩ (.int .i64 b6)).setCell ⟨g', 7, none⟩ (.int .i64 b7)) g' 70 #[.int .i64 b0, .int .i64 b1, .int .i64 b2, .int .i64 b3, .int .i64 b4, .int .i64 b5, .int .i64 b6, .int .i64 b7]) ∧ Hid (Below w1.heap.size w1 ((((((((((((((((w4.setCell ⟨g, 0, none⟩ (.int .i64 a0)).setCell ⟨g, 1, none⟩ (.int .i64 a1)).setCell ⟨g, 2, none⟩ (.int .i64 a2)).setCell ⟨g, 3, none⟩ (.int .i64 a3)).setCell ⟨g, 4, none⟩ (.int .i64 a4)).setCell ⟨g, 5, none⟩ (.int .i64 a5)).setCell ⟨g, 6, none⟩ (.int .i64 a6)).setCell ⟨g, 7, none⟩ (.int .i64 a7)).setCell ⟨g', 0, none⟩ (.int .i64 b0)).setCell ⟨g', 1, none⟩ (.int .i64 b1)).setCell ⟨g', 2, none⟩ (.int .i64 b2)).setCell ⟨g', 3, none⟩ (.int .i64 b3)).setCell ⟨g', 4, none⟩ (.int .i64 b4)).setCell ⟨g', 5, none⟩ (.int .i64 b5)).setCell ⟨g', 6, none⟩ (.int .i64 b6)).setCell ⟨g', 7, none⟩ (.int .i64 b7))) :=
  ⟨hidv (far8 (set8 h.out a0 a1 a2 a3 a4 a5 a6 a7) (Ne.symm hn) b0 b1 b2 b3 b4 b5 b6 b7), hidv (set8 (far8 h'.out hn a0 a1 a2 a3 a4 a5 a6 a7) b0 b1 b2 b3 b4 b5 b6 b7), hidv (below8 (below8 hb hg a0 a1 a2 a3 a4 a5 a6 a7) hg' b0 b1 b2 b3 b4 b5 b6 b7)⟩

set_option maxRecDepth 100000 in
set_option maxHeartbeats 3200000 in
theorem implIsQuadratic_ok (l r : ByteArray) (w : World) (h : eqnB l r = true) :
    Calls Try.prog 26 #[.agg #[.string l, .string r]] w fun e w' => e = .returned (.tuple #[.bool (quadB l r), .int .i64 0]) ∧ Below w.heap.size w w' := by
  obtain ⟨hl, hr, t1, t2⟩ := eqnB_q h
  have c1 := fun W => implOk_any l r W (by unfold maxLen; omega) (by unfold maxLen; omega)
  rw [h] at c1
  have c2 := fun W => kindCounts_any l W hl t1
  have c3 := fun W => kindCounts_any r W hr t2
  have L1 := hidv (fun j => cntN_le hl j)
  have L2 := hidv (fun j => cntN_le hr j)
  obtain ⟨q, hq⟩ : ∃ q, quadB l r = q := ⟨_, rfl⟩
  rw [hq]
  have HQ := hidv hq
  obtain ⟨a0, a1, a2, a3, a4, a5, a6, a7, ha⟩ : ∃ a0 a1 a2 a3 a4 a5 a6 a7, cntL l.data.toList = [a0, a1, a2, a3, a4, a5, a6, a7] := ⟨_, _, _, _, _, _, _, _, rfl⟩
  obtain ⟨b0, b1, b2, b3, b4, b5, b6, b7, hb⟩ : ∃ a0 a1 a2 a3 a4 a5 a6 a7, cntL r.data.toList = [a0, a1, a2, a3, a4, a5, a6, a7] := ⟨_, _, _, _, _, _, _, _, rfl⟩
  have A1 := hidv (fun k (hk : k < 8) => arr_at l hk)
  have A2 := hidv (fun k (hk : k < 8) => arr_at r hk)
  rw [ha] at c2 A1
  rw [hb] at c3 A2
  have C1 := hidv c1
  have C2 : Hid (∀ W, Calls Try.prog 49 #[.string l] W fun e w' => e = .returned (.agg #[.int .i64 a0, .int .i64 a1, .int .i64 a2, .int .i64 a3, .int .i64 a4, .int .i64 a5, .int .i64 a6, .int .i64 a7]) ∧ Below W.heap.size W w') := c2
  have C3 : Hid (∀ W, Calls Try.prog 49 #[.string r] W fun e w' => e = .returned (.agg #[.int .i64 b0, .int .i64 b1, .int .i64 b2, .int .i64 b3, .int .i64 b4, .int .i64 b5, .int .i64 b6, .int .i64 b7]) ∧ Below W.heap.size W w') := c3
  clear c1 c2 c3 h hq t1 t2 hl hr ha hb
  go_enter Try.func26, Try.ntmps26
  go_wp2_with fail
  refine (C1.out _).mono ?_
  rintro e w1 ⟨rfl, hb1⟩
  have HX1 := hidv ((Bx.new w 28 #[.string l, .string r]).below hb1)
  have HB1 := hidv (((Below.refl w.heap.size w).alloc (Nat.le_refl _) (.cells #[.string l, .string r] 28)).trans (hb1.mono (by simp)))
  clear hb1
  have HS := hidv (fun w' (hw : Below w1.heap.size w1 w') => (show w'.cell? ⟨w.heap.size, 0, none⟩ = some (.string l) ∧ w'.cell? ⟨w.heap.size, 1, none⟩ = some (.string r) ∧ Below w1.heap.size w1 w' from ⟨(HX1.out.below hw).two.1, (HX1.out.below hw).two.2, hw⟩))
  obtain ⟨x0, x1⟩ := HX1.out.two
  go_upto_region 3 with fail
  go_cut [4, 5] (fun s4 s5 wx => ∃ g g' : Nat, s4 = .pointer (some ⟨g, 0, none⟩) ∧ s5 = .pointer (some ⟨g', 0, none⟩) ∧ Hid (Bx wx g 70 #[.int .i64 a0, .int .i64 a1, .int .i64 a2, .int .i64 a3, .int .i64 a4, .int .i64 a5, .int .i64 a6, .int .i64 a7]) ∧ Hid (Bx wx g' 70 #[.int .i64 b0, .int .i64 b1, .int .i64 b2, .int .i64 b3, .int .i64 b4, .int .i64 b5, .int .i64 b6, .int .i64 b7]) ∧ Hid (Below w1.heap.size w1 wx))
  case first =>
    go_wp2_with fail
    go_region_held3 (fun w' => w'.cell? ⟨w.heap.size, 0, none⟩ = some (.string l) ∧ w'.cell? ⟨w.heap.size, 1, none⟩ = some (.string r) ∧ Below w1.heap.size w1 w') ((exact HS.out _ (by repeat (first | with_reducible assumption | with_reducible exact Below.refl _ _ | with_reducible refine Below.setCell ?_ (by dsimp only; omega) _ | with_reducible refine Below.drew ?_ | with_reducible refine below_al ?_ _)))) (first | (go_at_call 49; (first | (with_reducible refine (C2.out _).mono ?_; rintro e w3 ⟨rfl, hbw0⟩; have hbw := below_on (show Below w1.heap.size w1 _ from by repeat (first | with_reducible assumption | with_reducible exact Below.refl _ _ | with_reducible refine Below.drew ?_ | with_reducible refine below_al ?_ _)) hbw0; have sz3 := hbw.size; (first | (with_reducible have hx1 := hidv (mk_new3 hbw0); with_reducible have hx2 := hidv (mk_new2 hbw0); have lt1 := hx1.out.lt; have lt2 := hx2.out.lt) | (with_reducible have hx1 := hidv (mk_new3d hbw0); with_reducible have hx2 := hidv (mk_new2d hbw0); have lt1 := hx1.out.lt; have lt2 := hx2.out.lt) | (with_reducible have hx1 := hidv (mk_new hbw0); have lt1 := hx1.out.lt) | (with_reducible have hx1 := hidv (mk_newd hbw0); have lt1 := hx1.out.lt) | skip)) | (with_reducible refine (C3.out _).mono ?_; rintro e w4 ⟨rfl, hbw0⟩; have hbv := below_on (show Below w1.heap.size w1 _ from by repeat (first | with_reducible assumption | with_reducible exact Below.refl _ _ | with_reducible refine Below.drew ?_ | with_reducible refine below_al ?_ _)) hbw0; have sz4 := hbv.size; (first | (with_reducible have ho1 := hidv (mk_old hx1 hbw0); obtain ⟨zo1_0, zo1_1, zo1_2, zo1_3, zo1_4, zo1_5, zo1_6, zo1_7, zo1_8, zo1_9, zo1_10, zo1_11, zo1_12, zo1_13, zo1_14, zo1_15, zo1_16⟩ := facts8 ho1.out) | (with_reducible have ho1 := hidv (mk_old1 hx1 hbw0); obtain ⟨zo1_0, zo1_1, zo1_2, zo1_3, zo1_4, zo1_5, zo1_6, zo1_7, zo1_8, zo1_9, zo1_10, zo1_11, zo1_12, zo1_13, zo1_14, zo1_15, zo1_16⟩ := facts8 ho1.out) | skip); (first | (with_reducible have ho2 := hidv (mk_old hx2 hbw0); obtain ⟨zo2_0, zo2_1, zo2_2, zo2_3, zo2_4, zo2_5, zo2_6, zo2_7, zo2_8, zo2_9, zo2_10, zo2_11, zo2_12, zo2_13, zo2_14, zo2_15, zo2_16⟩ := facts8 ho2.out) | skip); (first | (with_reducible have hn1 := hidv (mk_new3 hbw0); with_reducible have hn2 := hidv (mk_new2 hbw0); obtain ⟨zn1_0, zn1_1, zn1_2, zn1_3, zn1_4, zn1_5, zn1_6, zn1_7, zn1_8, zn1_9, zn1_10, zn1_11, zn1_12, zn1_13, zn1_14, zn1_15, zn1_16⟩ := facts8 hn1.out; obtain ⟨zn2_0, zn2_1, zn2_2, zn2_3, zn2_4, zn2_5, zn2_6, zn2_7, zn2_8, zn2_9, zn2_10, zn2_11, zn2_12, zn2_13, zn2_14, zn2_15, zn2_16⟩ := facts8 hn2.out) | (with_reducible have hn1 := hidv (mk_new hbw0); obtain ⟨zn1_0, zn1_1, zn1_2, zn1_3, zn1_4, zn1_5, zn1_6, zn1_7, zn1_8, zn1_9, zn1_10, zn1_11, zn1_12, zn1_13, zn1_14, zn1_15, zn1_16⟩ := facts8 hn1.out) | skip)))))
    all_goals
      go_wp2_with fail
      go_meet
      refine ⟨_, _, rfl, rfl, ?_⟩
      first
        | (with_reducible exact end_aa hbv)
        | (with_reducible exact end_bb hbv)
        | (with_reducible refine end_sa (by with_reducible assumption) hbv ?_; omega)
        | (with_reducible refine end_sb (by with_reducible assumption) hbv ?_; omega)
        | (with_reducible refine end_ss (by with_reducible assumption) (by with_reducible assumption) ?_ hbv ?_ ?_ <;> omega)
  case rest =>
    obtain ⟨g, g', rfl, rfl, hg, hg', hbe⟩ := hcut
    have HB2 := hidv (below_on HB1.out hbe.out)
    have hcl : ∀ k, k < 8 → wc.cell? ⟨g, k, none⟩ = some (.int .i64 (cntN l k : Int)) := fun k hk => (hg.out.cell k).trans (A1.out k hk)
    have hcr : ∀ k, k < 8 → wc.cell? ⟨g', k, none⟩ = some (.int .i64 (cntN r k : Int)) := fun k hk => (hg'.out.cell k).trans (A2.out k hk)
    have HCL := hidv hcl
    have HCR := hidv hcr
    clear hcl hcr hg hg' hbe A1 A2 HX1 HS x0 x1
    go_wp2_with fail
    go_loopw [6] (fun i wr => ∃ k : Nat, 4 ≤ k ∧ k ≤ 8 ∧ i = .int .i64 (k : Int) ∧ Hid (∀ m, 4 + m < k → ukCnt l r m ≤ 2) ∧ ∃ n, wr = wc.drewN n) (fun i _ => 8 - (intOf i).toNat)
    case atStart => exact ⟨4, by omega, by omega, rfl, hidv (fun m hm => by omega), 0, rfl⟩
    case round =>
      obtain ⟨k, hk4, hk, rfl, hall, n, rfl⟩ := hrel
      by_cases hlt : k < 8
      · have c1 := HCL.out k hlt
        have c2 := HCR.out k hlt
        have b1 := L1.out k
        have b2 := L2.out k
        obtain ⟨m, hm⟩ : ∃ m, k = 4 + m := ⟨k - 4, by omega⟩
        have huk : ukCnt l r m = cntN l k + cntN r k := by rw [hm]; rfl
        obtain ⟨x, hx⟩ : ∃ x, cntN l k = x := ⟨_, rfl⟩
        obtain ⟨y, hy⟩ : ∃ x, cntN r k = x := ⟨_, rfl⟩
        rw [hx] at c1 b1 huk
        rw [hy] at c2 b2 huk
        have HM := hidv hm
        have HU := hidv huk
        clear hm huk hx hy
        by_cases hq2 : 2 < x + y
        · have hqi : (2 : Int) < (x : Int) + (y : Int) := by omega
          go_wp2
          go_quiet (fail)
          go_wp2
          go_ret2
          have hf := quadB_not (l := l) (r := r) (k := m) (by have := HM.out; omega) (by rw [HU.out]; exact hq2)
          rw [HQ.out] at hf
          subst hf
          exact ⟨rfl, below_drewN (below_drewN HB2.out _) _⟩
        · have hqi : ¬ (2 : Int) < (x : Int) + (y : Int) := by omega
          go_wp2
          go_quiet (fail)
          go_wp2
          go_roundw
          case rel =>
            refine ⟨k + 1, by omega, by omega, by go_num, hidv fun j hj => ?_, _, rfl⟩
            rcases Nat.lt_or_ge (4 + j) k with h | h
            · exact hall.out j h
            · have : j = m := by have := HM.out; omega
              rw [this, HU.out]; omega
          case measure => simp [intOf]; omega
      · obtain rfl : k = 8 := by omega
        go_wp2
        go_ret2
        have hf := quadB_upto (l := l) (r := r) (fun m hm => hall.out m (by omega))
        rw [HQ.out] at hf
        subst hf
        exact ⟨rfl, below_drewN HB2.out _⟩

end Go.Proofs.Ytfnlikjdfihggaa
