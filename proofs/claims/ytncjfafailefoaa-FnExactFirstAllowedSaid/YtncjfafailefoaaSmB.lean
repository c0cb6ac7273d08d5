/-
  SameBounds, of the model and of the program: contracts.
-/
import Derived.Test.YtncjfafailefoaaRws
import Derived.Test.YtncjfafailefoaaEqF
namespace Go.Proofs.Ytncjfafailefoaa
open Go.RowKit Go
set_option linter.unusedVariables false

theorem toBnd2_any (v : Value) (s : Int) (ns es : List (List Int)) (B : Nat) (w : World) (hv : Bnd w B v s ns es) (hB : B ≤ w.heap.size) (hx : RowsMax 1048576 ns) (hp : RowsMax 1048576 es) :
    Calls Try.prog 11 #[v] w fun e1 w' => ∃ u, e1 = .returned u ∧ Bnd w' w'.heap.size u s ns es ∧ Below w.heap.size w w' :=
  (toBnd_any v s ns es B w hv hB hx hp).mono fun e w' ⟨u, h1, h2, h3⟩ => ⟨u, h1, h2.row, h3⟩

set_option maxRecDepth 100000 in
set_option maxHeartbeats 800000 in
theorem specSmB_any (v u : Value) (e f : Int) (xs ys ps qs : List (List Int)) (B C : Nat) (w : World) (hv : Bnd w B v e xs ps) (hu : Bnd w C u f ys qs) (hB : B ≤ w.heap.size) (hC : C ≤ w.heap.size)
    (hx : RowsMax 1048576 xs) (hy : RowsMax 1048576 ys) (hp : RowsMax 1048576 ps) (hq : RowsMax 1048576 qs) (d : Bool) (hd : (decide (e = f) && decide (xs = ys) && decide (ps = qs)) = d) :
    Calls Try.prog 14 #[v, u] w fun e w' => e = .returned (.bool d) ∧ Below w.heap.size w w' := by
  obtain ⟨va, vb, rfl, ha, hb⟩ := hv.more hB
  obtain ⟨ua, ub, rfl, ha', hb'⟩ := hu.more hC
  obtain ⟨d1, hd1⟩ : ∃ d, decide (xs = ys) = d := ⟨_, rfl⟩
  obtain ⟨d2, hd2⟩ : ∃ d, decide (ps = qs) = d := ⟨_, rfl⟩
  rw [hd1, hd2] at hd
  have HD1 := hidv hd1
  have HD2 := hidv hd2
  have HS := hidv (show RowsMax maxLen xs ∧ RowsMax maxLen ps from ⟨hx.wide, hp.wide⟩)
  have HT := hidv (show RowsMax maxLen ys ∧ RowsMax maxLen qs from ⟨hy.wide, hq.wide⟩)
  have HA := hidv ha
  have HB := hidv hb
  have HA' := hidv ha'
  have HB' := hidv hb'
  clear ha hb ha' hb' hv hu hx hy hp hq hd1 hd2 hB hC
  have hbx : Below w.heap.size w ((w.alloc (.cells #[.int .i64 e, va, vb] 27)).alloc (.cells #[.int .i64 f, ua, ub] 27)) := ((Below.refl _ _).alloc (Nat.le_refl _) _).alloc (by simp) _
  have HBX := hidv hbx
  clear hbx
  by_cases hst : ¬ e = f
  · obtain rfl : d = false := by rw [← hd]; simp [hst]
    have hb1 : (e == f) = false := by simpa using hst
    clear hd
    go_enter Try.func14, Try.ntmps14
    go_wp2_with fail
    go_ret
    exact ⟨rfl, HBX.out⟩
  obtain rfl : e = f := Decidable.not_not.mp hst
  have HD : Hid ((d1 && d2) = d) := hidv (by rw [← hd]; simp)
  clear hd
  have hx0 := (Bx.new w 27 #[.int .i64 e, va, vb]).alloc (.cells #[.int .i64 e, ua, ub] 27)
  have hy0 := Bx.new (w.alloc (.cells #[.int .i64 e, va, vb] 27)) 27 #[.int .i64 e, ua, ub]
  rw [World.size_alloc] at hy0
  have HX := hidv hx0
  have HY := hidv hy0
  clear hx0 hy0
  go_enter Try.func14, Try.ntmps14
  go_wp2_with fail
  have hcall1 := rowsB_any _ _ xs ys _ ((HA.out.below HBX.out).more HBX.out.size) ((HA'.out.below HBX.out).more HBX.out.size) HS.out.1.1 HT.out.1.1 HS.out.1.2 HT.out.1.2
  rw [HD1.out] at hcall1
  refine hcall1.mono ?_
  rintro e1 w1 ⟨rfl, hb1⟩
  have hx1 := HX.out.below hb1
  have hy1 := HY.out.below hb1
  obtain ⟨x0, x1, x2⟩ := hx1.three
  obtain ⟨y0, y1, y2⟩ := hy1.three
  have HB1 := hidv (below_on HBX.out hb1)
  clear hb1 hx1 hy1
  cases d1
  · obtain rfl : d = false := by have := HD.out; simpa using this.symm
    go_wp2_with fail
    go_ret
    exact ⟨rfl, HB1.out⟩
  have HD3 : Hid (d2 = d) := hidv (by simpa using HD.out)
  go_wp2_with fail
  have hcall2 := rowsB_any _ _ ps qs _ ((HB.out.below HB1.out).more HB1.out.size) ((HB'.out.below HB1.out).more HB1.out.size) HS.out.2.1 HT.out.2.1 HS.out.2.2 HT.out.2.2
  rw [HD2.out] at hcall2
  refine hcall2.mono ?_
  rintro e2 w2 ⟨rfl, hb2⟩
  have HB2 := hidv (below_on HB1.out hb2)
  clear hb2
  have hdd := HD3.out
  subst hdd
  go_wp2_with fail
  go_ret
  exact ⟨rfl, HB2.out⟩

set_option maxRecDepth 100000 in
set_option maxHeartbeats 800000 in
theorem implSmB_any (v u : Value) (e f : Int) (xs ys ps qs : List (List Int)) (B C : Nat) (w : World) (hv : Bnd w B v e xs ps) (hu : Bnd w C u f ys qs) (hB : B ≤ w.heap.size) (hC : C ≤ w.heap.size)
    (hx : RowsMax 1048576 xs) (hy : RowsMax 1048576 ys) (hp : RowsMax 1048576 ps) (hq : RowsMax 1048576 qs) (d : Bool) (hd : (decide (e = f) && decide (xs = ys) && decide (ps = qs)) = d) :
    Calls Try.prog 15 #[v, u] w fun e w' => e = .returned (.bool d) ∧ Below w.heap.size w w' := by
  obtain ⟨va, vb, rfl, ha, hb⟩ := hv.more hB
  obtain ⟨ua, ub, rfl, ha', hb'⟩ := hu.more hC
  obtain ⟨d1, hd1⟩ : ∃ d, decide (xs = ys) = d := ⟨_, rfl⟩
  obtain ⟨d2, hd2⟩ : ∃ d, decide (ps = qs) = d := ⟨_, rfl⟩
  rw [hd1, hd2] at hd
  have HD1 := hidv hd1
  have HD2 := hidv hd2
  have HS := hidv (show RowsMax maxLen xs ∧ RowsMax maxLen ps from ⟨hx.wide, hp.wide⟩)
  have HT := hidv (show RowsMax maxLen ys ∧ RowsMax maxLen qs from ⟨hy.wide, hq.wide⟩)
  have HA := hidv ha
  have HB := hidv hb
  have HA' := hidv ha'
  have HB' := hidv hb'
  clear ha hb ha' hb' hv hu hx hy hp hq hd1 hd2 hB hC
  have hbx : Below w.heap.size w ((w.alloc (.cells #[.int .i64 e, va, vb] 27)).alloc (.cells #[.int .i64 f, ua, ub] 27)) := ((Below.refl _ _).alloc (Nat.le_refl _) _).alloc (by simp) _
  have HBX := hidv hbx
  clear hbx
  by_cases hst : ¬ e = f
  · obtain rfl : d = false := by rw [← hd]; simp [hst]
    have hb1 : (e == f) = false := by simpa using hst
    clear hd
    go_enter Try.func15, Try.ntmps15
    go_wp2_with fail
    go_ret
    exact ⟨rfl, HBX.out⟩
  obtain rfl : e = f := Decidable.not_not.mp hst
  have HD : Hid ((d1 && d2) = d) := hidv (by rw [← hd]; simp)
  clear hd
  have hx0 := (Bx.new w 27 #[.int .i64 e, va, vb]).alloc (.cells #[.int .i64 e, ua, ub] 27)
  have hy0 := Bx.new (w.alloc (.cells #[.int .i64 e, va, vb] 27)) 27 #[.int .i64 e, ua, ub]
  rw [World.size_alloc] at hy0
  have HX := hidv hx0
  have HY := hidv hy0
  clear hx0 hy0
  go_enter Try.func15, Try.ntmps15
  go_wp2_with fail
  refine (equalF_any _ _ xs ys _ ((HA.out.below HBX.out).more HBX.out.size) ((HA'.out.below HBX.out).more HBX.out.size) HS.out.1.1 HT.out.1.1 HS.out.1.2 HT.out.1.2 d1 HD1.out).mono ?_
  rintro e1 w1 ⟨rfl, hb1⟩
  have hx1 := HX.out.below hb1
  have hy1 := HY.out.below hb1
  obtain ⟨x0, x1, x2⟩ := hx1.three
  obtain ⟨y0, y1, y2⟩ := hy1.three
  have HB1 := hidv (below_on HBX.out hb1)
  clear hb1 hx1 hy1
  cases d1
  · obtain rfl : d = false := by have := HD.out; simpa using this.symm
    go_wp2_with fail
    go_ret
    exact ⟨rfl, HB1.out⟩
  have HD3 : Hid (d2 = d) := hidv (by simpa using HD.out)
  go_wp2_with fail
  refine (equalF_any _ _ ps qs _ ((HB.out.below HB1.out).more HB1.out.size) ((HB'.out.below HB1.out).more HB1.out.size) HS.out.2.1 HT.out.2.1 HS.out.2.2 HT.out.2.2 d2 HD2.out).mono ?_
  rintro e2 w2 ⟨rfl, hb2⟩
  have HB2 := hidv (below_on HB1.out hb2)
  clear hb2
  have hdd := HD3.out
  subst hdd
  go_wp2_with fail
  go_ret
  exact ⟨rfl, HB2.out⟩

end Go.Proofs.Ytncjfafailefoaa
