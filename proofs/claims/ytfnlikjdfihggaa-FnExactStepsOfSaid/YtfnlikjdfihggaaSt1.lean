/-
  The five makers of steps, of the program: contracts.
-/
import Derived.Test.YtfnlikjdfihggaaSt0
namespace Go.Proofs.Ytfnlikjdfihggaa
open Go.RowKit Go
set_option linter.unusedVariables false

theorem mkV_form (x y : ByteArray) (b : Bool) : ∃ (k : Int) (s : ByteArray) (t : Bool), mkV x y b = .tuple #[.agg #[.int .i64 k, .string s], .bool t] := by
  unfold mkV
  split
  · exact ⟨_, _, _, rfl⟩
  · exact ⟨_, _, _, rfl⟩

set_option maxHeartbeats 800000 in
theorem leftByNothing_any (a b : ByteArray) (w : World) (ha : a.size ≤ 24) (hb : b.size ≤ 24) :
    Calls Try.prog 64 #[.agg #[.string a, .string b]] w fun e w' => e = .returned (mkV a ⟨#[]⟩ true) ∧ Below w.heap.size w w' := by
  have c1 := fun W => replacing_any a ⟨#[]⟩ true W (by unfold maxLen; omega)
  obtain ⟨k, s, t, hv⟩ := mkV_form a ⟨#[]⟩ true
  rw [hv] at c1 ⊢
  have C1 := hidv c1
  clear c1 hv
  go_enter Try.func64, Try.ntmps64
  go_wp2_with fail
  obtain ⟨w0, hw0⟩ : ∃ w0, w0 = ((w.alloc (.cells #[.string a, .string b] 81)).alloc (.cells #[.int .i64 0, .string ⟨#[]⟩] 37)) := ⟨_, rfl⟩
  rw [← hw0]
  have hE : Bx w0 w.heap.size 81 #[.string a, .string b] := by rw [hw0]; exact (Bx.new _ _ _).alloc _
  have hR : Bx w0 (w.heap.size + 1) 37 #[.int .i64 0, .string ⟨#[]⟩] := by
    rw [hw0]
    have := Bx.new (w.alloc (.cells #[.string a, .string b] 81)) 37 #[.int .i64 0, .string ⟨#[]⟩]
    rw [World.size_alloc] at this
    exact this
  have hB0 : Below w.heap.size w w0 := by rw [hw0]; exact ((Below.refl _ _).alloc (Nat.le_refl _) _).alloc (by simp) _
  have HE := hidv hE
  have HR := hidv hR
  have HB0 := hidv hB0
  clear hw0 hE hR hB0
  refine (C1.out _).mono ?_
  rintro e w2 ⟨rfl, hb2⟩
  have hR2 := HR.out.below (w' := w2) hb2
  have HB2 := hidv (below_on HB0.out (w' := w2) hb2)
  obtain ⟨x0, x1⟩ := hR2.two
  have z0 := hR2.frozen 0
  have z1 := hR2.frozen 1
  have F0 := hidv (((hR2.set 0 (.int .i64 k)).set 1 (.string s)).cell 0)
  have F1 := hidv (((hR2.set 0 (.int .i64 k)).set 1 (.string s)).cell 1)
  clear hb2 hR2
  go_wp2_with fail
  refine bodyPost_ret (v := .tuple #[.agg #[.int .i64 k, .string s], .bool t]) ?_ rfl ⟨rfl, ?_⟩
  · simp [results, Try.results64, go_sem, F0.out, F1.out]
  · exact (HB2.out.setCell (by simp) _).setCell (by simp) _

set_option maxHeartbeats 800000 in
theorem rightByNothing_any (a b : ByteArray) (w : World) (ha : a.size ≤ 24) (hb : b.size ≤ 24) :
    Calls Try.prog 65 #[.agg #[.string a, .string b]] w fun e w' => e = .returned (mkV b ⟨#[]⟩ true) ∧ Below w.heap.size w w' := by
  have c1 := fun W => replacing_any b ⟨#[]⟩ true W (by unfold maxLen; omega)
  obtain ⟨k, s, t, hv⟩ := mkV_form b ⟨#[]⟩ true
  rw [hv] at c1 ⊢
  have C1 := hidv c1
  clear c1 hv
  go_enter Try.func65, Try.ntmps65
  go_wp2_with fail
  obtain ⟨w0, hw0⟩ : ∃ w0, w0 = ((w.alloc (.cells #[.string a, .string b] 81)).alloc (.cells #[.int .i64 0, .string ⟨#[]⟩] 37)) := ⟨_, rfl⟩
  rw [← hw0]
  have hE : Bx w0 w.heap.size 81 #[.string a, .string b] := by rw [hw0]; exact (Bx.new _ _ _).alloc _
  have hR : Bx w0 (w.heap.size + 1) 37 #[.int .i64 0, .string ⟨#[]⟩] := by
    rw [hw0]
    have := Bx.new (w.alloc (.cells #[.string a, .string b] 81)) 37 #[.int .i64 0, .string ⟨#[]⟩]
    rw [World.size_alloc] at this
    exact this
  have hB0 : Below w.heap.size w w0 := by rw [hw0]; exact ((Below.refl _ _).alloc (Nat.le_refl _) _).alloc (by simp) _
  have HE := hidv hE
  have HR := hidv hR
  have HB0 := hidv hB0
  clear hw0 hE hR hB0
  refine (C1.out _).mono ?_
  rintro e w2 ⟨rfl, hb2⟩
  have hR2 := HR.out.below (w' := w2) hb2
  have HB2 := hidv (below_on HB0.out (w' := w2) hb2)
  obtain ⟨x0, x1⟩ := hR2.two
  have z0 := hR2.frozen 0
  have z1 := hR2.frozen 1
  have F0 := hidv (((hR2.set 0 (.int .i64 k)).set 1 (.string s)).cell 0)
  have F1 := hidv (((hR2.set 0 (.int .i64 k)).set 1 (.string s)).cell 1)
  clear hb2 hR2
  go_wp2_with fail
  refine bodyPost_ret (v := .tuple #[.agg #[.int .i64 k, .string s], .bool t]) ?_ rfl ⟨rfl, ?_⟩
  · simp [results, Try.results65, go_sem, F0.out, F1.out]
  · exact (HB2.out.setCell (by simp) _).setCell (by simp) _

set_option maxHeartbeats 800000 in
theorem leftByRight_any (a b : ByteArray) (w : World) (ha : a.size ≤ 24) (hb : b.size ≤ 24) :
    Calls Try.prog 66 #[.agg #[.string a, .string b]] w fun e w' => e = .returned (mkV a b (uB b.data.toList)) ∧ Below w.heap.size w w' := by
  have c1 := fun W => replacing_any a b (uB b.data.toList) W (by unfold maxLen; omega)
  have c2 := fun W => isU_any b W (by unfold maxLen; omega)
  obtain ⟨k, s, t, hv⟩ := mkV_form a b (uB b.data.toList)
  rw [hv] at c1 ⊢
  obtain ⟨ub, hub⟩ : ∃ u, uB b.data.toList = u := ⟨_, rfl⟩
  rw [hub] at c1 c2
  have C2 := hidv c2
  clear c2 hub
  have C1 := hidv c1
  clear c1 hv
  go_enter Try.func66, Try.ntmps66
  go_wp2_with fail
  obtain ⟨w0, hw0⟩ : ∃ w0, w0 = ((w.alloc (.cells #[.string a, .string b] 81)).alloc (.cells #[.int .i64 0, .string ⟨#[]⟩] 37)) := ⟨_, rfl⟩
  rw [← hw0]
  have hE : Bx w0 w.heap.size 81 #[.string a, .string b] := by rw [hw0]; exact (Bx.new _ _ _).alloc _
  have hR : Bx w0 (w.heap.size + 1) 37 #[.int .i64 0, .string ⟨#[]⟩] := by
    rw [hw0]
    have := Bx.new (w.alloc (.cells #[.string a, .string b] 81)) 37 #[.int .i64 0, .string ⟨#[]⟩]
    rw [World.size_alloc] at this
    exact this
  have hB0 : Below w.heap.size w w0 := by rw [hw0]; exact ((Below.refl _ _).alloc (Nat.le_refl _) _).alloc (by simp) _
  have HE := hidv hE
  have HR := hidv hR
  have HB0 := hidv hB0
  clear hw0 hE hR hB0
  have HS := hidv (fun w' (hw : Below w0.heap.size w0 w') => (show w'.cell? ⟨w.heap.size, 0, none⟩ = some (.string a) ∧ w'.cell? ⟨w.heap.size, 1, none⟩ = some (.string b) ∧ Below w.heap.size w w' from ⟨(HE.out.below hw).two.1, (HE.out.below hw).two.2, below_on HB0.out hw⟩))
  have HSF := hidv (fun w' (hw : Below w0.heap.size w0 w') => (show ((w'.setCell ⟨w.heap.size + 1, 0, none⟩ (.int .i64 k)).setCell ⟨w.heap.size + 1, 1, none⟩ (.string s)).cell? ⟨w.heap.size, 0, none⟩ = some (.string a) ∧ ((w'.setCell ⟨w.heap.size + 1, 0, none⟩ (.int .i64 k)).setCell ⟨w.heap.size + 1, 1, none⟩ (.string s)).cell? ⟨w.heap.size, 1, none⟩ = some (.string b) ∧ Below w.heap.size w ((w'.setCell ⟨w.heap.size + 1, 0, none⟩ (.int .i64 k)).setCell ⟨w.heap.size + 1, 1, none⟩ (.string s)) from
    ⟨(((HE.out.below hw).far _ (by simp) _).far _ (by simp) _).two.1, (((HE.out.below hw).far _ (by simp) _).far _ (by simp) _).two.2, ((below_on HB0.out hw).setCell (by simp) _).setCell (by simp) _⟩))
  go_region_held3 (fun w' => w'.cell? ⟨w.heap.size, 0, none⟩ = some (.string a) ∧ w'.cell? ⟨w.heap.size, 1, none⟩ = some (.string b) ∧ Below w.heap.size w w') (first | exact HSF.out _ (by assumption) | exact HS.out _ (by repeat (first | assumption | exact Below.refl _ _ | refine Below.drew ?_ | refine below_al ?_ _))) (first | (go_at_call 73; refine (C2.out _).mono ?_; rintro e w3 ⟨rfl, rfl⟩) | (go_at_call 83; refine (C1.out _).mono ?_; rintro e w4 ⟨rfl, hbw4⟩; replace hbw4 := below_on (show Below w0.heap.size w0 _ from by repeat (first | assumption | exact Below.refl _ _ | refine Below.drew ?_ | refine below_al ?_ _)) hbw4; have hr4 := HR.out.below hbw4; obtain ⟨n0, n1⟩ := hr4.two; have m0 := hr4.frozen 0; have m1 := hr4.frozen 1))
  all_goals
    have F0 := hidv (((hr4.set 0 (.int .i64 k)).set 1 (.string s)).cell 0)
    have F1 := hidv (((hr4.set 0 (.int .i64 k)).set 1 (.string s)).cell 1)
    have HB4 := hidv (below_on HB0.out hbw4)
    go_wp2_with fail
    refine bodyPost_ret (v := .tuple #[.agg #[.int .i64 k, .string s], .bool t]) ?_ rfl ⟨rfl, ?_⟩
    · simp [results, Try.results66, go_sem, F0.out, F1.out]
    · exact (HB4.out.setCell (by simp) _).setCell (by simp) _

set_option maxHeartbeats 800000 in
theorem leftByRightAndLeft_any (a b : ByteArray) (w : World) (ha : a.size ≤ 24) (hb : b.size ≤ 24) :
    Calls Try.prog 67 #[.agg #[.string a, .string b]] w fun e w' => e = .returned (mkV a (b ++ a) (!b.toList.isEmpty)) ∧ Below w.heap.size w w' := by
  have c1 := fun W => replacing_any a (b ++ a) (!b.toList.isEmpty) W (by unfold maxLen; omega)
  obtain ⟨k, s, t, hv⟩ := mkV_form a (b ++ a) (!b.toList.isEmpty)
  rw [hv] at c1 ⊢
  have C1 := hidv c1
  clear c1 hv
  go_enter Try.func67, Try.ntmps67
  go_wp2_with fail
  obtain ⟨w0, hw0⟩ : ∃ w0, w0 = ((w.alloc (.cells #[.string a, .string b] 81)).alloc (.cells #[.int .i64 0, .string ⟨#[]⟩] 37)) := ⟨_, rfl⟩
  rw [← hw0]
  have hE : Bx w0 w.heap.size 81 #[.string a, .string b] := by rw [hw0]; exact (Bx.new _ _ _).alloc _
  have hR : Bx w0 (w.heap.size + 1) 37 #[.int .i64 0, .string ⟨#[]⟩] := by
    rw [hw0]
    have := Bx.new (w.alloc (.cells #[.string a, .string b] 81)) 37 #[.int .i64 0, .string ⟨#[]⟩]
    rw [World.size_alloc] at this
    exact this
  have hB0 : Below w.heap.size w w0 := by rw [hw0]; exact ((Below.refl _ _).alloc (Nat.le_refl _) _).alloc (by simp) _
  have HE := hidv hE
  have HR := hidv hR
  have HB0 := hidv hB0
  clear hw0 hE hR hB0
  refine (C1.out _).mono ?_
  rintro e w2 ⟨rfl, hb2⟩
  have hR2 := HR.out.below (w' := w2) hb2
  have HB2 := hidv (below_on HB0.out (w' := w2) hb2)
  obtain ⟨x0, x1⟩ := hR2.two
  have z0 := hR2.frozen 0
  have z1 := hR2.frozen 1
  have F0 := hidv (((hR2.set 0 (.int .i64 k)).set 1 (.string s)).cell 0)
  have F1 := hidv (((hR2.set 0 (.int .i64 k)).set 1 (.string s)).cell 1)
  clear hb2 hR2
  go_wp2_with fail
  refine bodyPost_ret (v := .tuple #[.agg #[.int .i64 k, .string s], .bool t]) ?_ rfl ⟨rfl, ?_⟩
  · simp [results, Try.results67, go_sem, F0.out, F1.out]
  · exact (HB2.out.setCell (by simp) _).setCell (by simp) _

set_option maxHeartbeats 800000 in
theorem rightByLeftAndRight_any (a b : ByteArray) (w : World) (ha : a.size ≤ 24) (hb : b.size ≤ 24) :
    Calls Try.prog 68 #[.agg #[.string a, .string b]] w fun e w' => e = .returned (mkV b (a ++ b) (!a.toList.isEmpty)) ∧ Below w.heap.size w w' := by
  have c1 := fun W => replacing_any b (a ++ b) (!a.toList.isEmpty) W (by unfold maxLen; omega)
  obtain ⟨k, s, t, hv⟩ := mkV_form b (a ++ b) (!a.toList.isEmpty)
  rw [hv] at c1 ⊢
  have C1 := hidv c1
  clear c1 hv
  go_enter Try.func68, Try.ntmps68
  go_wp2_with fail
  obtain ⟨w0, hw0⟩ : ∃ w0, w0 = ((w.alloc (.cells #[.string a, .string b] 81)).alloc (.cells #[.int .i64 0, .string ⟨#[]⟩] 37)) := ⟨_, rfl⟩
  rw [← hw0]
  have hE : Bx w0 w.heap.size 81 #[.string a, .string b] := by rw [hw0]; exact (Bx.new _ _ _).alloc _
  have hR : Bx w0 (w.heap.size + 1) 37 #[.int .i64 0, .string ⟨#[]⟩] := by
    rw [hw0]
    have := Bx.new (w.alloc (.cells #[.string a, .string b] 81)) 37 #[.int .i64 0, .string ⟨#[]⟩]
    rw [World.size_alloc] at this
    exact this
  have hB0 : Below w.heap.size w w0 := by rw [hw0]; exact ((Below.refl _ _).alloc (Nat.le_refl _) _).alloc (by simp) _
  have HE := hidv hE
  have HR := hidv hR
  have HB0 := hidv hB0
  clear hw0 hE hR hB0
  refine (C1.out _).mono ?_
  rintro e w2 ⟨rfl, hb2⟩
  have hR2 := HR.out.below (w' := w2) hb2
  have HB2 := hidv (below_on HB0.out (w' := w2) hb2)
  obtain ⟨x0, x1⟩ := hR2.two
  have z0 := hR2.frozen 0
  have z1 := hR2.frozen 1
  have F0 := hidv (((hR2.set 0 (.int .i64 k)).set 1 (.string s)).cell 0)
  have F1 := hidv (((hR2.set 0 (.int .i64 k)).set 1 (.string s)).cell 1)
  clear hb2 hR2
  go_wp2_with fail
  refine bodyPost_ret (v := .tuple #[.agg #[.int .i64 k, .string s], .bool t]) ?_ rfl ⟨rfl, ?_⟩
  · simp [results, Try.results68, go_sem, F0.out, F1.out]
  · exact (HB2.out.setCell (by simp) _).setCell (by simp) _

end Go.Proofs.Ytfnlikjdfihggaa
