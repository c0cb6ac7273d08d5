/-
  CombineEquations, of the program and of the model: contracts.
-/
import Derived.Test.YtolhelogcekfbabLawSE
namespace Go.Proofs.Ytolhelogcekfbab
open Go.RowKit Go

set_option maxHeartbeats 400000 in
theorem implComb_badE (l r m s : ByteArray) (w : World) (hl : l.size ≤ maxLen) (hr : r.size ≤ maxLen) (h : eqnB l r = false) :
    Calls Try.prog 38 #[.agg #[.string l, .string r], .agg #[.string m, .string s]] w fun e w' => e = .returned (.tuple #[.agg #[.string ⟨#[]⟩, .string ⟨#[]⟩], .int .i64 1]) ∧ Below w.heap.size w w' := by
  have c1 := fun W => implOk_any l r W hl hr
  rw [h] at c1
  have C1 := hidv c1
  clear c1 h
  go_enter Try.func38, Try.ntmps38
  go_wp2_with fail
  refine (C1.out _).mono ?_
  rintro e w1 ⟨rfl, hb1⟩
  have hE := (((Bx.new w 44 #[.string l, .string r]).alloc (.cells #[.string m, .string s] 44)).alloc (.cells #[.string ⟨#[]⟩, .string ⟨#[]⟩] 44)).below hb1
  have hF := ((Bx.new (w.alloc (.cells #[.string l, .string r] 44)) 44 #[.string m, .string s]).alloc (.cells #[.string ⟨#[]⟩, .string ⟨#[]⟩] 44)).below hb1
  have hZ := (Bx.new ((w.alloc (.cells #[.string l, .string r] 44)).alloc (.cells #[.string m, .string s] 44)) 44 #[.string ⟨#[]⟩, .string ⟨#[]⟩]).below hb1
  rw [World.size_alloc] at hF
  rw [World.size_alloc, World.size_alloc] at hZ
  have HB1 := hidv (((((Below.refl w.heap.size w).alloc (Nat.le_refl _) _).alloc (by simp) _).alloc (by simp; omega) _).trans (hb1.mono (by simp; omega)))
  have HE := hidv hE
  have HF := hidv hF
  have HZ := hidv hZ
  clear hE hF hZ hb1
  obtain ⟨z0, z1⟩ := HZ.out.two
  have z2 := HZ.out.frozen 0
  have z3 := HZ.out.frozen 1
  have E0 := hidv (((HZ.out.set 0 (.string ⟨#[]⟩)).set 1 (.string ⟨#[]⟩)).cell 0)
  have E1 := hidv (((HZ.out.set 0 (.string ⟨#[]⟩)).set 1 (.string ⟨#[]⟩)).cell 1)
  obtain ⟨e0, e1⟩ := HE.out.two
  go_wp2_with fail
  refine bodyPost_ret (v := .tuple #[.agg #[.string ⟨#[]⟩, .string ⟨#[]⟩], .int .i64 1]) ?_ rfl ⟨rfl, ?_⟩
  · simp [results, Try.results38, go_sem, E0.out, E1.out]
  · exact (HB1.out.setCell (by simp; omega) _).setCell (by simp; omega) _

set_option maxHeartbeats 400000 in
theorem implComb_badF (l r m s : ByteArray) (w : World) (hm : m.size ≤ maxLen) (hs : s.size ≤ maxLen) (h : eqnB l r = true) (h2 : eqnB m s = false) :
    Calls Try.prog 38 #[.agg #[.string l, .string r], .agg #[.string m, .string s]] w fun e w' => e = .returned (.tuple #[.agg #[.string ⟨#[]⟩, .string ⟨#[]⟩], .int .i64 1]) ∧ Below w.heap.size w w' := by
  have hz := eqnB_sizes h
  have c1 := fun W => implOk_any l r W (by unfold maxLen; omega) (by unfold maxLen; omega)
  have c2 := fun W => implOk_any m s W hm hs
  rw [h] at c1
  rw [h2] at c2
  have C1 := hidv c1
  have C2 := hidv c2
  clear c1 h c2 h2
  go_enter Try.func38, Try.ntmps38
  go_wp2_with fail
  refine (C1.out _).mono ?_
  rintro e w1 ⟨rfl, hb1⟩
  have hE := (((Bx.new w 44 #[.string l, .string r]).alloc (.cells #[.string m, .string s] 44)).alloc (.cells #[.string ⟨#[]⟩, .string ⟨#[]⟩] 44)).below hb1
  have hF := ((Bx.new (w.alloc (.cells #[.string l, .string r] 44)) 44 #[.string m, .string s]).alloc (.cells #[.string ⟨#[]⟩, .string ⟨#[]⟩] 44)).below hb1
  have hZ := (Bx.new ((w.alloc (.cells #[.string l, .string r] 44)).alloc (.cells #[.string m, .string s] 44)) 44 #[.string ⟨#[]⟩, .string ⟨#[]⟩]).below hb1
  rw [World.size_alloc] at hF
  rw [World.size_alloc, World.size_alloc] at hZ
  have HB1 := hidv (((((Below.refl w.heap.size w).alloc (Nat.le_refl _) _).alloc (by simp) _).alloc (by simp; omega) _).trans (hb1.mono (by simp; omega)))
  have HE := hidv hE
  have HF := hidv hF
  have HZ := hidv hZ
  clear hE hF hZ hb1
  obtain ⟨e0, e1⟩ := HE.out.two
  obtain ⟨f0, f1⟩ := HF.out.two
  go_wp2_with fail
  refine (C2.out _).mono ?_
  rintro e w2 ⟨rfl, hb2⟩
  have HE2 := hidv (HE.out.below hb2)
  have HF2 := hidv (HF.out.below hb2)
  have HZ2 := hidv (HZ.out.below hb2)
  have HB2 := hidv (HB1.out.trans (hb2.mono HB1.out.size))
  clear hb2 e0 e1 f0 f1
  obtain ⟨z0, z1⟩ := HZ2.out.two
  have z2 := HZ2.out.frozen 0
  have z3 := HZ2.out.frozen 1
  have E0 := hidv (((HZ2.out.set 0 (.string ⟨#[]⟩)).set 1 (.string ⟨#[]⟩)).cell 0)
  have E1 := hidv (((HZ2.out.set 0 (.string ⟨#[]⟩)).set 1 (.string ⟨#[]⟩)).cell 1)
  obtain ⟨e0, e1⟩ := HE2.out.two
  obtain ⟨f0, f1⟩ := HF2.out.two
  go_wp2_with fail
  refine bodyPost_ret (v := .tuple #[.agg #[.string ⟨#[]⟩, .string ⟨#[]⟩], .int .i64 1]) ?_ rfl ⟨rfl, ?_⟩
  · simp [results, Try.results38, go_sem, E0.out, E1.out]
  · exact (HB2.out.setCell (by simp; omega) _).setCell (by simp; omega) _

set_option maxHeartbeats 800000 in
theorem implComb_long (l r m s x y : ByteArray) (w : World) (h : eqnB l r = true) (h2 : eqnB m s = true) (hx : (l ++ ⟨#[97]⟩ ++ m ++ l ++ ⟨#[98]⟩ ++ m) = x) (hy : (r ++ ⟨#[97]⟩ ++ s ++ r ++ ⟨#[98]⟩ ++ s) = y) (h3 : eqnB x y = false) :
    Calls Try.prog 38 #[.agg #[.string l, .string r], .agg #[.string m, .string s]] w fun e w' => e = .returned (.tuple #[.agg #[.string ⟨#[]⟩, .string ⟨#[]⟩], .int .i64 3]) ∧ Below w.heap.size w w' := by
  have hz := eqnB_sizes h
  have hz2 := eqnB_sizes h2
  have hzx : x.size ≤ 1000 := by rw [← hx]; simp only [ByteArray.size_append]; have e1 : (⟨#[97]⟩ : ByteArray).size = 1 := rfl; have e2 : (⟨#[98]⟩ : ByteArray).size = 1 := rfl; omega
  have hzy : y.size ≤ 1000 := by rw [← hy]; simp only [ByteArray.size_append]; have e1 : (⟨#[97]⟩ : ByteArray).size = 1 := rfl; have e2 : (⟨#[98]⟩ : ByteArray).size = 1 := rfl; omega
  have c1 := fun W => implOk_any l r W (by unfold maxLen; omega) (by unfold maxLen; omega)
  have c2 := fun W => implOk_any m s W (by unfold maxLen; omega) (by unfold maxLen; omega)
  have c3 := fun W => implOk_any x y W (by unfold maxLen; omega) (by unfold maxLen; omega)
  rw [h] at c1
  rw [h2] at c2
  rw [h3] at c3
  have C1 := hidv c1
  have C2 := hidv c2
  have C3 := hidv c3
  have HX := hidv hx
  have HY := hidv hy
  clear c1 h c2 h2 h3 c3 hx hy
  go_enter Try.func38, Try.ntmps38
  go_wp2_with fail
  refine (C1.out _).mono ?_
  rintro e w1 ⟨rfl, hb1⟩
  have hE := (((Bx.new w 44 #[.string l, .string r]).alloc (.cells #[.string m, .string s] 44)).alloc (.cells #[.string ⟨#[]⟩, .string ⟨#[]⟩] 44)).below hb1
  have hF := ((Bx.new (w.alloc (.cells #[.string l, .string r] 44)) 44 #[.string m, .string s]).alloc (.cells #[.string ⟨#[]⟩, .string ⟨#[]⟩] 44)).below hb1
  have hZ := (Bx.new ((w.alloc (.cells #[.string l, .string r] 44)).alloc (.cells #[.string m, .string s] 44)) 44 #[.string ⟨#[]⟩, .string ⟨#[]⟩]).below hb1
  rw [World.size_alloc] at hF
  rw [World.size_alloc, World.size_alloc] at hZ
  have HB1 := hidv (((((Below.refl w.heap.size w).alloc (Nat.le_refl _) _).alloc (by simp) _).alloc (by simp; omega) _).trans (hb1.mono (by simp; omega)))
  have HE := hidv hE
  have HF := hidv hF
  have HZ := hidv hZ
  clear hE hF hZ hb1
  obtain ⟨e0, e1⟩ := HE.out.two
  obtain ⟨f0, f1⟩ := HF.out.two
  go_wp2_with fail
  refine (C2.out _).mono ?_
  rintro e w2 ⟨rfl, hb2⟩
  have HE2 := hidv (HE.out.below hb2)
  have HF2 := hidv (HF.out.below hb2)
  have HZ2 := hidv (HZ.out.below hb2)
  have HB2 := hidv (HB1.out.trans (hb2.mono HB1.out.size))
  clear hb2 e0 e1 f0 f1
  obtain ⟨e0, e1⟩ := HE2.out.two
  obtain ⟨f0, f1⟩ := HF2.out.two
  go_wp2_with fail
  rw [HX.out, HY.out]
  refine (C3.out _).mono ?_
  rintro e w3 ⟨rfl, hb3⟩
  have HZ3 := hidv ((HZ2.out.alloc (.cells #[.string x, .string y] 44)).below hb3)
  have HR3 := hidv ((Bx.new w2 44 #[.string x, .string y]).below hb3)
  have HB3 := hidv ((HB2.out.alloc HB2.out.size (.cells #[.string x, .string y] 44)).trans (hb3.mono (by have := HB2.out.size; simp; omega)))
  clear hb3 e0 e1 f0 f1
  obtain ⟨z0, z1⟩ := HZ3.out.two
  have z2 := HZ3.out.frozen 0
  have z3 := HZ3.out.frozen 1
  have E0 := hidv (((HZ3.out.set 0 (.string ⟨#[]⟩)).set 1 (.string ⟨#[]⟩)).cell 0)
  have E1 := hidv (((HZ3.out.set 0 (.string ⟨#[]⟩)).set 1 (.string ⟨#[]⟩)).cell 1)
  obtain ⟨e0, e1⟩ := HR3.out.two
  go_wp2_with fail
  refine bodyPost_ret (v := .tuple #[.agg #[.string ⟨#[]⟩, .string ⟨#[]⟩], .int .i64 3]) ?_ rfl ⟨rfl, ?_⟩
  · simp [results, Try.results38, go_sem, E0.out, E1.out]
  · exact (HB3.out.setCell (by simp; omega) _).setCell (by simp; omega) _

set_option maxHeartbeats 800000 in
theorem implComb_ok (l r m s x y : ByteArray) (w : World) (h : eqnB l r = true) (h2 : eqnB m s = true) (hx : (l ++ ⟨#[97]⟩ ++ m ++ l ++ ⟨#[98]⟩ ++ m) = x) (hy : (r ++ ⟨#[97]⟩ ++ s ++ r ++ ⟨#[98]⟩ ++ s) = y) (h3 : eqnB x y = true) :
    Calls Try.prog 38 #[.agg #[.string l, .string r], .agg #[.string m, .string s]] w fun e w' => e = .returned (.tuple #[.agg #[.string x, .string y], .int .i64 0]) ∧ Below w.heap.size w w' := by
  have hz := eqnB_sizes h
  have hz2 := eqnB_sizes h2
  have hzx : x.size ≤ 1000 := by rw [← hx]; simp only [ByteArray.size_append]; have e1 : (⟨#[97]⟩ : ByteArray).size = 1 := rfl; have e2 : (⟨#[98]⟩ : ByteArray).size = 1 := rfl; omega
  have hzy : y.size ≤ 1000 := by rw [← hy]; simp only [ByteArray.size_append]; have e1 : (⟨#[97]⟩ : ByteArray).size = 1 := rfl; have e2 : (⟨#[98]⟩ : ByteArray).size = 1 := rfl; omega
  have c1 := fun W => implOk_any l r W (by unfold maxLen; omega) (by unfold maxLen; omega)
  have c2 := fun W => implOk_any m s W (by unfold maxLen; omega) (by unfold maxLen; omega)
  have c3 := fun W => implOk_any x y W (by unfold maxLen; omega) (by unfold maxLen; omega)
  rw [h] at c1
  rw [h2] at c2
  rw [h3] at c3
  have C1 := hidv c1
  have C2 := hidv c2
  have C3 := hidv c3
  have HX := hidv hx
  have HY := hidv hy
  clear c1 h c2 h2 h3 c3 hx hy
  go_enter Try.func38, Try.ntmps38
  go_wp2_with fail
  refine (C1.out _).mono ?_
  rintro e w1 ⟨rfl, hb1⟩
  have hE := (((Bx.new w 44 #[.string l, .string r]).alloc (.cells #[.string m, .string s] 44)).alloc (.cells #[.string ⟨#[]⟩, .string ⟨#[]⟩] 44)).below hb1
  have hF := ((Bx.new (w.alloc (.cells #[.string l, .string r] 44)) 44 #[.string m, .string s]).alloc (.cells #[.string ⟨#[]⟩, .string ⟨#[]⟩] 44)).below hb1
  have hZ := (Bx.new ((w.alloc (.cells #[.string l, .string r] 44)).alloc (.cells #[.string m, .string s] 44)) 44 #[.string ⟨#[]⟩, .string ⟨#[]⟩]).below hb1
  rw [World.size_alloc] at hF
  rw [World.size_alloc, World.size_alloc] at hZ
  have HB1 := hidv (((((Below.refl w.heap.size w).alloc (Nat.le_refl _) _).alloc (by simp) _).alloc (by simp; omega) _).trans (hb1.mono (by simp; omega)))
  have HE := hidv hE
  have HF := hidv hF
  have HZ := hidv hZ
  clear hE hF hZ hb1
  obtain ⟨e0, e1⟩ := HE.out.two
  obtain ⟨f0, f1⟩ := HF.out.two
  go_wp2_with fail
  refine (C2.out _).mono ?_
  rintro e w2 ⟨rfl, hb2⟩
  have HE2 := hidv (HE.out.below hb2)
  have HF2 := hidv (HF.out.below hb2)
  have HZ2 := hidv (HZ.out.below hb2)
  have HB2 := hidv (HB1.out.trans (hb2.mono HB1.out.size))
  clear hb2 e0 e1 f0 f1
  obtain ⟨e0, e1⟩ := HE2.out.two
  obtain ⟨f0, f1⟩ := HF2.out.two
  go_wp2_with fail
  rw [HX.out, HY.out]
  refine (C3.out _).mono ?_
  rintro e w3 ⟨rfl, hb3⟩
  have HZ3 := hidv ((HZ2.out.alloc (.cells #[.string x, .string y] 44)).below hb3)
  have HR3 := hidv ((Bx.new w2 44 #[.string x, .string y]).below hb3)
  have HB3 := hidv ((HB2.out.alloc HB2.out.size (.cells #[.string x, .string y] 44)).trans (hb3.mono (by have := HB2.out.size; simp; omega)))
  clear hb3 e0 e1 f0 f1
  obtain ⟨z0, z1⟩ := HZ3.out.two
  have z2 := HZ3.out.frozen 0
  have z3 := HZ3.out.frozen 1
  have E0 := hidv (((HZ3.out.set 0 (.string x)).set 1 (.string y)).cell 0)
  have E1 := hidv (((HZ3.out.set 0 (.string x)).set 1 (.string y)).cell 1)
  obtain ⟨e0, e1⟩ := HR3.out.two
  go_wp2_with fail
  refine bodyPost_ret (v := .tuple #[.agg #[.string x, .string y], .int .i64 0]) ?_ rfl ⟨rfl, ?_⟩
  · simp [results, Try.results38, go_sem, E0.out, E1.out]
  · exact (HB3.out.setCell (by simp; omega) _).setCell (by simp; omega) _

set_option maxHeartbeats 400000 in
theorem specComb_badE (l r m s : ByteArray) (w : World) (hl : l.size ≤ maxLen) (hr : r.size ≤ maxLen) (h : eqnB l r = false) :
    Calls Try.prog 37 #[.agg #[.string l, .string r], .agg #[.string m, .string s]] w fun e w' => e = .returned (.tuple #[.agg #[.string ⟨#[]⟩, .string ⟨#[]⟩], .int .i64 1]) ∧ Below w.heap.size w w' := by
  have c1 := fun W => specOk_any l r W hl hr
  rw [h] at c1
  have C1 := hidv c1
  clear c1 h
  go_enter Try.func37, Try.ntmps37
  go_wp2_with fail
  refine (C1.out _).mono ?_
  rintro e w1 ⟨rfl, hb1⟩
  have hE := (((Bx.new w 44 #[.string l, .string r]).alloc (.cells #[.string m, .string s] 44)).alloc (.cells #[.string ⟨#[]⟩, .string ⟨#[]⟩] 44)).below hb1
  have hF := ((Bx.new (w.alloc (.cells #[.string l, .string r] 44)) 44 #[.string m, .string s]).alloc (.cells #[.string ⟨#[]⟩, .string ⟨#[]⟩] 44)).below hb1
  have hZ := (Bx.new ((w.alloc (.cells #[.string l, .string r] 44)).alloc (.cells #[.string m, .string s] 44)) 44 #[.string ⟨#[]⟩, .string ⟨#[]⟩]).below hb1
  rw [World.size_alloc] at hF
  rw [World.size_alloc, World.size_alloc] at hZ
  have HB1 := hidv (((((Below.refl w.heap.size w).alloc (Nat.le_refl _) _).alloc (by simp) _).alloc (by simp; omega) _).trans (hb1.mono (by simp; omega)))
  have HE := hidv hE
  have HF := hidv hF
  have HZ := hidv hZ
  clear hE hF hZ hb1
  obtain ⟨z0, z1⟩ := HZ.out.two
  have z2 := HZ.out.frozen 0
  have z3 := HZ.out.frozen 1
  have E0 := hidv (((HZ.out.set 0 (.string ⟨#[]⟩)).set 1 (.string ⟨#[]⟩)).cell 0)
  have E1 := hidv (((HZ.out.set 0 (.string ⟨#[]⟩)).set 1 (.string ⟨#[]⟩)).cell 1)
  obtain ⟨e0, e1⟩ := HE.out.two
  go_wp2_with fail
  refine bodyPost_ret (v := .tuple #[.agg #[.string ⟨#[]⟩, .string ⟨#[]⟩], .int .i64 1]) ?_ rfl ⟨rfl, ?_⟩
  · simp [results, Try.results37, go_sem, E0.out, E1.out]
  · exact (HB1.out.setCell (by simp; omega) _).setCell (by simp; omega) _

set_option maxHeartbeats 400000 in
theorem specComb_badF (l r m s : ByteArray) (w : World) (hm : m.size ≤ maxLen) (hs : s.size ≤ maxLen) (h : eqnB l r = true) (h2 : eqnB m s = false) :
    Calls Try.prog 37 #[.agg #[.string l, .string r], .agg #[.string m, .string s]] w fun e w' => e = .returned (.tuple #[.agg #[.string ⟨#[]⟩, .string ⟨#[]⟩], .int .i64 1]) ∧ Below w.heap.size w w' := by
  have hz := eqnB_sizes h
  have c1 := fun W => specOk_any l r W (by unfold maxLen; omega) (by unfold maxLen; omega)
  have c2 := fun W => specOk_any m s W hm hs
  rw [h] at c1
  rw [h2] at c2
  have C1 := hidv c1
  have C2 := hidv c2
  clear c1 h c2 h2
  go_enter Try.func37, Try.ntmps37
  go_wp2_with fail
  refine (C1.out _).mono ?_
  rintro e w1 ⟨rfl, hb1⟩
  have hE := (((Bx.new w 44 #[.string l, .string r]).alloc (.cells #[.string m, .string s] 44)).alloc (.cells #[.string ⟨#[]⟩, .string ⟨#[]⟩] 44)).below hb1
  have hF := ((Bx.new (w.alloc (.cells #[.string l, .string r] 44)) 44 #[.string m, .string s]).alloc (.cells #[.string ⟨#[]⟩, .string ⟨#[]⟩] 44)).below hb1
  have hZ := (Bx.new ((w.alloc (.cells #[.string l, .string r] 44)).alloc (.cells #[.string m, .string s] 44)) 44 #[.string ⟨#[]⟩, .string ⟨#[]⟩]).below hb1
  rw [World.size_alloc] at hF
  rw [World.size_alloc, World.size_alloc] at hZ
  have HB1 := hidv (((((Below.refl w.heap.size w).alloc (Nat.le_refl _) _).alloc (by simp) _).alloc (by simp; omega) _).trans (hb1.mono (by simp; omega)))
  have HE := hidv hE
  have HF := hidv hF
  have HZ := hidv hZ
  clear hE hF hZ hb1
  obtain ⟨e0, e1⟩ := HE.out.two
  obtain ⟨f0, f1⟩ := HF.out.two
  go_wp2_with fail
  refine (C2.out _).mono ?_
  rintro e w2 ⟨rfl, hb2⟩
  have HE2 := hidv (HE.out.below hb2)
  have HF2 := hidv (HF.out.below hb2)
  have HZ2 := hidv (HZ.out.below hb2)
  have HB2 := hidv (HB1.out.trans (hb2.mono HB1.out.size))
  clear hb2 e0 e1 f0 f1
  obtain ⟨z0, z1⟩ := HZ2.out.two
  have z2 := HZ2.out.frozen 0
  have z3 := HZ2.out.frozen 1
  have E0 := hidv (((HZ2.out.set 0 (.string ⟨#[]⟩)).set 1 (.string ⟨#[]⟩)).cell 0)
  have E1 := hidv (((HZ2.out.set 0 (.string ⟨#[]⟩)).set 1 (.string ⟨#[]⟩)).cell 1)
  obtain ⟨e0, e1⟩ := HE2.out.two
  obtain ⟨f0, f1⟩ := HF2.out.two
  go_wp2_with fail
  refine bodyPost_ret (v := .tuple #[.agg #[.string ⟨#[]⟩, .string ⟨#[]⟩], .int .i64 1]) ?_ rfl ⟨rfl, ?_⟩
  · simp [results, Try.results37, go_sem, E0.out, E1.out]
  · exact (HB2.out.setCell (by simp; omega) _).setCell (by simp; omega) _

set_option maxHeartbeats 800000 in
theorem specComb_long (l r m s x y : ByteArray) (w : World) (h : eqnB l r = true) (h2 : eqnB m s = true) (hx : (l ++ ⟨#[97]⟩ ++ m ++ l ++ ⟨#[98]⟩ ++ m) = x) (hy : (r ++ ⟨#[97]⟩ ++ s ++ r ++ ⟨#[98]⟩ ++ s) = y) (h3 : eqnB x y = false) :
    Calls Try.prog 37 #[.agg #[.string l, .string r], .agg #[.string m, .string s]] w fun e w' => e = .returned (.tuple #[.agg #[.string ⟨#[]⟩, .string ⟨#[]⟩], .int .i64 3]) ∧ Below w.heap.size w w' := by
  have hz := eqnB_sizes h
  have hz2 := eqnB_sizes h2
  have hzx : x.size ≤ 1000 := by rw [← hx]; simp only [ByteArray.size_append]; have e1 : (⟨#[97]⟩ : ByteArray).size = 1 := rfl; have e2 : (⟨#[98]⟩ : ByteArray).size = 1 := rfl; omega
  have hzy : y.size ≤ 1000 := by rw [← hy]; simp only [ByteArray.size_append]; have e1 : (⟨#[97]⟩ : ByteArray).size = 1 := rfl; have e2 : (⟨#[98]⟩ : ByteArray).size = 1 := rfl; omega
  have c1 := fun W => specOk_any l r W (by unfold maxLen; omega) (by unfold maxLen; omega)
  have c2 := fun W => specOk_any m s W (by unfold maxLen; omega) (by unfold maxLen; omega)
  have c3 := fun W => specOk_any x y W (by unfold maxLen; omega) (by unfold maxLen; omega)
  rw [h] at c1
  rw [h2] at c2
  rw [h3] at c3
  have C1 := hidv c1
  have C2 := hidv c2
  have C3 := hidv c3
  have HX := hidv hx
  have HY := hidv hy
  clear c1 h c2 h2 h3 c3 hx hy
  go_enter Try.func37, Try.ntmps37
  go_wp2_with fail
  refine (C1.out _).mono ?_
  rintro e w1 ⟨rfl, hb1⟩
  have hE := (((Bx.new w 44 #[.string l, .string r]).alloc (.cells #[.string m, .string s] 44)).alloc (.cells #[.string ⟨#[]⟩, .string ⟨#[]⟩] 44)).below hb1
  have hF := ((Bx.new (w.alloc (.cells #[.string l, .string r] 44)) 44 #[.string m, .string s]).alloc (.cells #[.string ⟨#[]⟩, .string ⟨#[]⟩] 44)).below hb1
  have hZ := (Bx.new ((w.alloc (.cells #[.string l, .string r] 44)).alloc (.cells #[.string m, .string s] 44)) 44 #[.string ⟨#[]⟩, .string ⟨#[]⟩]).below hb1
  rw [World.size_alloc] at hF
  rw [World.size_alloc, World.size_alloc] at hZ
  have HB1 := hidv (((((Below.refl w.heap.size w).alloc (Nat.le_refl _) _).alloc (by simp) _).alloc (by simp; omega) _).trans (hb1.mono (by simp; omega)))
  have HE := hidv hE
  have HF := hidv hF
  have HZ := hidv hZ
  clear hE hF hZ hb1
  obtain ⟨e0, e1⟩ := HE.out.two
  obtain ⟨f0, f1⟩ := HF.out.two
  go_wp2_with fail
  refine (C2.out _).mono ?_
  rintro e w2 ⟨rfl, hb2⟩
  have HE2 := hidv (HE.out.below hb2)
  have HF2 := hidv (HF.out.below hb2)
  have HZ2 := hidv (HZ.out.below hb2)
  have HB2 := hidv (HB1.out.trans (hb2.mono HB1.out.size))
  clear hb2 e0 e1 f0 f1
  obtain ⟨e0, e1⟩ := HE2.out.two
  obtain ⟨f0, f1⟩ := HF2.out.two
  go_wp2_with fail
  rw [HX.out, HY.out]
  refine (C3.out _).mono ?_
  rintro e w3 ⟨rfl, hb3⟩
  have HZ3 := hidv ((HZ2.out.alloc (.cells #[.string x, .string y] 44)).below hb3)
  have HR3 := hidv ((Bx.new w2 44 #[.string x, .string y]).below hb3)
  have HB3 := hidv ((HB2.out.alloc HB2.out.size (.cells #[.string x, .string y] 44)).trans (hb3.mono (by have := HB2.out.size; simp; omega)))
  clear hb3 e0 e1 f0 f1
  obtain ⟨z0, z1⟩ := HZ3.out.two
  have z2 := HZ3.out.frozen 0
  have z3 := HZ3.out.frozen 1
  have E0 := hidv (((HZ3.out.set 0 (.string ⟨#[]⟩)).set 1 (.string ⟨#[]⟩)).cell 0)
  have E1 := hidv (((HZ3.out.set 0 (.string ⟨#[]⟩)).set 1 (.string ⟨#[]⟩)).cell 1)
  obtain ⟨e0, e1⟩ := HR3.out.two
  go_wp2_with fail
  refine bodyPost_ret (v := .tuple #[.agg #[.string ⟨#[]⟩, .string ⟨#[]⟩], .int .i64 3]) ?_ rfl ⟨rfl, ?_⟩
  · simp [results, Try.results37, go_sem, E0.out, E1.out]
  · exact (HB3.out.setCell (by simp; omega) _).setCell (by simp; omega) _

set_option maxHeartbeats 800000 in
theorem specComb_ok (l r m s x y : ByteArray) (w : World) (h : eqnB l r = true) (h2 : eqnB m s = true) (hx : (l ++ ⟨#[97]⟩ ++ m ++ l ++ ⟨#[98]⟩ ++ m) = x) (hy : (r ++ ⟨#[97]⟩ ++ s ++ r ++ ⟨#[98]⟩ ++ s) = y) (h3 : eqnB x y = true) :
    Calls Try.prog 37 #[.agg #[.string l, .string r], .agg #[.string m, .string s]] w fun e w' => e = .returned (.tuple #[.agg #[.string x, .string y], .int .i64 0]) ∧ Below w.heap.size w w' := by
  have hz := eqnB_sizes h
  have hz2 := eqnB_sizes h2
  have hzx : x.size ≤ 1000 := by rw [← hx]; simp only [ByteArray.size_append]; have e1 : (⟨#[97]⟩ : ByteArray).size = 1 := rfl; have e2 : (⟨#[98]⟩ : ByteArray).size = 1 := rfl; omega
  have hzy : y.size ≤ 1000 := by rw [← hy]; simp only [ByteArray.size_append]; have e1 : (⟨#[97]⟩ : ByteArray).size = 1 := rfl; have e2 : (⟨#[98]⟩ : ByteArray).size = 1 := rfl; omega
  have c1 := fun W => specOk_any l r W (by unfold maxLen; omega) (by unfold maxLen; omega)
  have c2 := fun W => specOk_any m s W (by unfold maxLen; omega) (by unfold maxLen; omega)
  have c3 := fun W => specOk_any x y W (by unfold maxLen; omega) (by unfold maxLen; omega)
  rw [h] at c1
  rw [h2] at c2
  rw [h3] at c3
  have C1 := hidv c1
  have C2 := hidv c2
  have C3 := hidv c3
  have HX := hidv hx
  have HY := hidv hy
  clear c1 h c2 h2 h3 c3 hx hy
  go_enter Try.func37, Try.ntmps37
  go_wp2_with fail
  refine (C1.out _).mono ?_
  rintro e w1 ⟨rfl, hb1⟩
  have hE := (((Bx.new w 44 #[.string l, .string r]).alloc (.cells #[.string m, .string s] 44)).alloc (.cells #[.string ⟨#[]⟩, .string ⟨#[]⟩] 44)).below hb1
  have hF := ((Bx.new (w.alloc (.cells #[.string l, .string r] 44)) 44 #[.string m, .string s]).alloc (.cells #[.string ⟨#[]⟩, .string ⟨#[]⟩] 44)).below hb1
  have hZ := (Bx.new ((w.alloc (.cells #[.string l, .string r] 44)).alloc (.cells #[.string m, .string s] 44)) 44 #[.string ⟨#[]⟩, .string ⟨#[]⟩]).below hb1
  rw [World.size_alloc] at hF
  rw [World.size_alloc, World.size_alloc] at hZ
  have HB1 := hidv (((((Below.refl w.heap.size w).alloc (Nat.le_refl _) _).alloc (by simp) _).alloc (by simp; omega) _).trans (hb1.mono (by simp; omega)))
  have HE := hidv hE
  have HF := hidv hF
  have HZ := hidv hZ
  clear hE hF hZ hb1
  obtain ⟨e0, e1⟩ := HE.out.two
  obtain ⟨f0, f1⟩ := HF.out.two
  go_wp2_with fail
  refine (C2.out _).mono ?_
  rintro e w2 ⟨rfl, hb2⟩
  have HE2 := hidv (HE.out.below hb2)
  have HF2 := hidv (HF.out.below hb2)
  have HZ2 := hidv (HZ.out.below hb2)
  have HB2 := hidv (HB1.out.trans (hb2.mono HB1.out.size))
  clear hb2 e0 e1 f0 f1
  obtain ⟨e0, e1⟩ := HE2.out.two
  obtain ⟨f0, f1⟩ := HF2.out.two
  go_wp2_with fail
  rw [HX.out, HY.out]
  refine (C3.out _).mono ?_
  rintro e w3 ⟨rfl, hb3⟩
  have HZ3 := hidv ((HZ2.out.alloc (.cells #[.string x, .string y] 44)).below hb3)
  have HR3 := hidv ((Bx.new w2 44 #[.string x, .string y]).below hb3)
  have HB3 := hidv ((HB2.out.alloc HB2.out.size (.cells #[.string x, .string y] 44)).trans (hb3.mono (by have := HB2.out.size; simp; omega)))
  clear hb3 e0 e1 f0 f1
  obtain ⟨z0, z1⟩ := HZ3.out.two
  have z2 := HZ3.out.frozen 0
  have z3 := HZ3.out.frozen 1
  have E0 := hidv (((HZ3.out.set 0 (.string x)).set 1 (.string y)).cell 0)
  have E1 := hidv (((HZ3.out.set 0 (.string x)).set 1 (.string y)).cell 1)
  obtain ⟨e0, e1⟩ := HR3.out.two
  go_wp2_with fail
  refine bodyPost_ret (v := .tuple #[.agg #[.string x, .string y], .int .i64 0]) ?_ rfl ⟨rfl, ?_⟩
  · simp [results, Try.results37, go_sem, E0.out, E1.out]
  · exact (HB3.out.setCell (by simp; omega) _).setCell (by simp; omega) _

end Go.Proofs.Ytolhelogcekfbab
