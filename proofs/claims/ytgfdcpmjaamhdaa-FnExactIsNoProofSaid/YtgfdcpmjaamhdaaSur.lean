/-
  The surplus of an equation, of the program: a contract.
-/
import Derived.Test.YtgfdcpmjaamhdaaEq
import Derived.Test.YtgfdcpmjaamhdaaKind
namespace Go.Proofs.Ytgfdcpmjaamhdaa
open Go.RowKit Go
set_option linter.unusedVariables false

theorem ix8 (cs : Array Value) (i : Nat) (v : Value) (hi : i < 8) (hv : cs[i]? = some v) (w : World) :
    (Instr.index 49 (.agg cs) (.int .i64 (i : Int))).run Try.prog w = .ok v w := by
  have h1 : (0 : Int) ≤ (i : Int) ∧ (i : Int) < ((8 : Nat) : Int) := by omega
  simp [Instr.index, run_underlying Try.underlying49, asIntOf, part, Try.isAgg2, Try.sizeOf2, go_sem, h1, hv]
  omega

theorem eqnB_sz {l r : ByteArray} (h : eqnB l r = true) : l.size ≤ 24 ∧ r.size ≤ 24 ∧ Wd.termB l.data.toList = true ∧ Wd.termB r.data.toList = true := by
  unfold eqnB at h
  rw [Bool.and_eq_true] at h
  exact ⟨by simpa using Wd.termB_len h.1, by simpa using Wd.termB_len h.2, h.1, h.2⟩

/-- How often more each kind of symbol occurs in the left term than in the right one. -/
def surL (l r : ByteArray) : List Int := List.zipWith (· - ·) (cntL l.data.toList) (cntL r.data.toList)
def surTo (l r : ByteArray) (k : Nat) : List Int := (surL l r).take k ++ (cntL l.data.toList).drop k
theorem surL_length (l r : ByteArray) : (surL l r).length = 8 := by simp [surL, cntL_length]
theorem cntL_get (l : List UInt8) (k : Nat) (hk : k < 8) : ∃ x : Int, (cntL l)[k]? = some x ∧ 0 ≤ x ∧ x ≤ l.length := by
  refine ⟨_, cntL_at l k hk, by omega, ?_⟩
  have := List.countP_le_length (p := fun c => kindN c == k) (l := l)
  omega
theorem surL_get (l r : ByteArray) (k : Nat) {x y : Int} (hx : (cntL l.data.toList)[k]? = some x) (hy : (cntL r.data.toList)[k]? = some y) : (surL l r)[k]? = some (x - y) := by
  rw [surL, List.getElem?_zipWith, hx, hy]
theorem surTo_length (l r : ByteArray) (k : Nat) (hk : k ≤ 8) : (surTo l r k).length = 8 := by
  simp [surTo, surL_length, cntL_length]
  omega
theorem surTo_at (l r : ByteArray) (k : Nat) (hk : k < 8) : (surTo l r k)[k]? = (cntL l.data.toList)[k]? := by
  unfold surTo
  rw [List.getElem?_append_right (by rw [List.length_take, surL_length]; omega), List.length_take, surL_length, Nat.min_eq_left (by omega), Nat.sub_self, List.getElem?_drop, Nat.add_zero]
theorem surTo_set (l r : ByteArray) (k : Nat) (hk : k < 8) {x : Int} (hx : (surL l r)[k]? = some x) : (surTo l r k).set k x = surTo l r (k + 1) := by
  unfold surTo
  have h1 : ((surL l r).take k).length = k := by rw [List.length_take, surL_length]; omega
  rw [List.set_append_right _ _ (by omega), h1, Nat.sub_self]
  have h2 : k < (cntL l.data.toList).length := by rw [cntL_length]; exact hk
  rw [List.drop_eq_getElem_cons h2, List.set_cons_zero]
  have h3 : k < (surL l r).length := by rw [surL_length]; exact hk
  rw [List.take_succ_eq_append_getElem h3]
  rw [List.getElem?_eq_getElem h3] at hx
  injection hx with hx
  rw [hx, List.append_assoc]
  rfl

def arrI (xs : List Int) : Array Value := (xs.map (Value.int .i64)).toArray
theorem arrI_get (xs : List Int) (k : Nat) {x : Int} (h : xs[k]? = some x) : (arrI xs)[k]? = some (.int .i64 x) := by
  simp [arrI, h]
theorem arrI_set (xs : List Int) (k : Nat) (x : Int) : (arrI xs).setIfInBounds k (.int .i64 x) = arrI (xs.set k x) := by
  simp [arrI]

set_option maxRecDepth 100000 in
set_option maxHeartbeats 800000 in
theorem surplus_any (l r : ByteArray) (w : World) (h : eqnB l r = true) :
    Calls Try.prog 25 #[.agg #[.string l, .string r]] w fun e w' => e = .returned (.agg (arrI (surL l r))) ∧ Below w.heap.size w w' := by
  obtain ⟨hl, hr, ht1, ht2⟩ := eqnB_sz h
  have C1 : Hid (∀ W, Calls Try.prog 29 #[.string l] W fun e w' => e = .returned (.agg (arrI (cntL l.data.toList))) ∧ Below W.heap.size W w') := fun W => kindCounts_any l W hl ht1
  have C2 : Hid (∀ W, Calls Try.prog 29 #[.string r] W fun e w' => e = .returned (.agg (arrI (cntL r.data.toList))) ∧ Below W.heap.size W w') := fun W => kindCounts_any r W hr ht2
  have hc1 := fun k hk => cntL_get l.data.toList k hk
  have hc2 := fun k hk => cntL_get r.data.toList k hk
  have HC1 := hidv hc1
  have HC2 := hidv hc2
  have hll : l.data.toList.length ≤ 24 := by simpa using hl
  have hrl : r.data.toList.length ≤ 24 := by simpa using hr
  clear h ht1 ht2 hc1 hc2
  obtain ⟨a0, a1, a2, a3, a4, a5, a6, a7, ha⟩ : ∃ a0 a1 a2 a3 a4 a5 a6 a7, cntL l.data.toList = [a0, a1, a2, a3, a4, a5, a6, a7] := ⟨_, _, _, _, _, _, _, _, rfl⟩
  obtain ⟨x0, x1, x2, x3, x4, x5, x6, x7, hx⟩ : ∃ a0 a1 a2 a3 a4 a5 a6 a7, surL l r = [a0, a1, a2, a3, a4, a5, a6, a7] := ⟨_, _, _, _, _, _, _, _, rfl⟩
  rw [hx]
  rw [ha] at C1
  have C1 : Hid (∀ W, Calls Try.prog 29 #[.string l] W fun e w' => e = .returned (.agg #[.int .i64 a0, .int .i64 a1, .int .i64 a2, .int .i64 a3, .int .i64 a4, .int .i64 a5, .int .i64 a6, .int .i64 a7]) ∧ Below W.heap.size W w') := C1
  obtain ⟨CR, hcr⟩ : ∃ cs, arrI (cntL r.data.toList) = cs := ⟨_, rfl⟩
  rw [hcr] at C2
  have HA := hidv ha
  have HX := hidv hx
  have HCR := hidv hcr
  clear hcr ha hx
  go_enter Try.func25, Try.ntmps25
  go_wp2_with fail
  refine (C1.out _).mono ?_
  rintro e w1 ⟨rfl, hb1⟩
  have hE := ((Bx.new w 41 #[.string l, .string r]).alloc (.cells #[.int .i64 0, .int .i64 0, .int .i64 0, .int .i64 0, .int .i64 0, .int .i64 0, .int .i64 0, .int .i64 0] 49)).below hb1
  have hZ := (Bx.new (w.alloc (.cells #[.string l, .string r] 41)) 49 #[.int .i64 0, .int .i64 0, .int .i64 0, .int .i64 0, .int .i64 0, .int .i64 0, .int .i64 0, .int .i64 0]).below hb1
  rw [World.size_alloc] at hZ
  have HB1 := hidv ((((Below.refl w.heap.size w).alloc (Nat.le_refl _) _).alloc (by simp) _).trans (hb1.mono (by simp; omega)))
  have HE := hidv hE
  have HZ := hidv hZ
  have s1 := hE.lt
  obtain ⟨e0, e1⟩ := hE.two
  clear hE hZ hb1
  go_wp2_with fail
  refine (C2.out _).mono ?_
  rintro e w2 ⟨rfl, hb2⟩
  have HX2 := hidv ((Bx.new w1 49 #[.int .i64 a0, .int .i64 a1, .int .i64 a2, .int .i64 a3, .int .i64 a4, .int .i64 a5, .int .i64 a6, .int .i64 a7]).below hb2)
  have HZ2 := hidv ((HZ.out.alloc (.cells #[.int .i64 a0, .int .i64 a1, .int .i64 a2, .int .i64 a3, .int .i64 a4, .int .i64 a5, .int .i64 a6, .int .i64 a7] 49)).below hb2)
  have HB2 := hidv ((HB1.out.alloc HB1.out.size (.cells #[.int .i64 a0, .int .i64 a1, .int .i64 a2, .int .i64 a3, .int .i64 a4, .int .i64 a5, .int .i64 a6, .int .i64 a7] 49)).trans (hb2.mono (by have := HB1.out.size; simp; omega)))
  have s2 : w.heap.size + 1 < w1.heap.size := HZ.out.lt
  clear hb2 e0 e1
  go_wp2_with fail
  go_loopw [12] (fun i wr => ∃ k : Nat, k ≤ 8 ∧ i = .int .i64 k ∧ Hid (Bx wr w1.heap.size 49 (arrI (surTo l r k))) ∧ Hid (Bx wr (w.heap.size + 1) 49 #[.int .i64 0, .int .i64 0, .int .i64 0, .int .i64 0, .int .i64 0, .int .i64 0, .int .i64 0, .int .i64 0]) ∧ Hid (Below w.heap.size w wr)) (fun i _ => 8 - (intOf i).toNat)
  case atStart => exact ⟨0, by omega, rfl, hidv (by have := HX2.out; unfold surTo; rw [HA.out]; exact this), HZ2, HB2⟩
  case round =>
    obtain ⟨k, hk, rfl, hbx, hbz, hbe⟩ := hrel
    by_cases hlt : k < 8
    · obtain ⟨x, hx1, hx2, hx3⟩ := HC1.out k hlt
      obtain ⟨y, hy1, hy2, hy3⟩ := HC2.out k hlt
      have hix := fun W => ix8 CR k (.int .i64 y) hlt (by rw [← HCR.out]; exact arrI_get _ _ hy1) W
      have c1 : wr.cell? ⟨w1.heap.size, k, none⟩ = some (.int .i64 x) := by
        rw [hbx.out.cell k]
        exact arrI_get _ _ (by rw [surTo_at l r k hlt]; exact hx1)
      have f1 : wr.frozen? ⟨w1.heap.size, k, none⟩ = false := hbx.out.frozen k
      have HN := hidv (surTo_set l r k hlt (surL_get l r k hx1 hy1))
      have i1 : (0 : Int) ≤ (k : Int) := by omega
      have i2 : (k : Int) < 8 := by omega
      clear hx1 hy1
      go_wp2
      go_roundw
      case rel =>
        refine ⟨k + 1, by omega, by go_num, hidv ?_, hidv (hbz.out.far _ (by simp; omega) _), hidv (hbe.out.setCell (by simp; omega) _)⟩
        rw [← HN.out, ← arrI_set]
        exact hbx.out.set _ _
      case measure => simp [intOf]; omega
    · obtain rfl : k = 8 := by omega
      have hfin : surTo l r 8 = [x0, x1, x2, x3, x4, x5, x6, x7] := by
        unfold surTo
        rw [HX.out, HA.out]
        rfl
      rw [hfin] at hbx
      have hbx2 : Bx wr w1.heap.size 49 #[.int .i64 x0, .int .i64 x1, .int .i64 x2, .int .i64 x3, .int .i64 x4, .int .i64 x5, .int .i64 x6, .int .i64 x7] := hbx.out
      have y0 : wr.cell? ⟨w1.heap.size, 0, none⟩ = some (.int .i64 x0) := hbx2.cell 0
      have y1 : wr.cell? ⟨w1.heap.size, 1, none⟩ = some (.int .i64 x1) := hbx2.cell 1
      have y2 : wr.cell? ⟨w1.heap.size, 2, none⟩ = some (.int .i64 x2) := hbx2.cell 2
      have y3 : wr.cell? ⟨w1.heap.size, 3, none⟩ = some (.int .i64 x3) := hbx2.cell 3
      have y4 : wr.cell? ⟨w1.heap.size, 4, none⟩ = some (.int .i64 x4) := hbx2.cell 4
      have y5 : wr.cell? ⟨w1.heap.size, 5, none⟩ = some (.int .i64 x5) := hbx2.cell 5
      have y6 : wr.cell? ⟨w1.heap.size, 6, none⟩ = some (.int .i64 x6) := hbx2.cell 6
      have y7 : wr.cell? ⟨w1.heap.size, 7, none⟩ = some (.int .i64 x7) := hbx2.cell 7
      have z0 : wr.cell? ⟨w.heap.size + 1, 0, none⟩ = some (.int .i64 0) := hbz.out.cell 0
      have f0 : wr.frozen? ⟨w.heap.size + 1, 0, none⟩ = false := hbz.out.frozen 0
      have z1 : wr.cell? ⟨w.heap.size + 1, 1, none⟩ = some (.int .i64 0) := hbz.out.cell 1
      have f1 : wr.frozen? ⟨w.heap.size + 1, 1, none⟩ = false := hbz.out.frozen 1
      have z2 : wr.cell? ⟨w.heap.size + 1, 2, none⟩ = some (.int .i64 0) := hbz.out.cell 2
      have f2 : wr.frozen? ⟨w.heap.size + 1, 2, none⟩ = false := hbz.out.frozen 2
      have z3 : wr.cell? ⟨w.heap.size + 1, 3, none⟩ = some (.int .i64 0) := hbz.out.cell 3
      have f3 : wr.frozen? ⟨w.heap.size + 1, 3, none⟩ = false := hbz.out.frozen 3
      have z4 : wr.cell? ⟨w.heap.size + 1, 4, none⟩ = some (.int .i64 0) := hbz.out.cell 4
      have f4 : wr.frozen? ⟨w.heap.size + 1, 4, none⟩ = false := hbz.out.frozen 4
      have z5 : wr.cell? ⟨w.heap.size + 1, 5, none⟩ = some (.int .i64 0) := hbz.out.cell 5
      have f5 : wr.frozen? ⟨w.heap.size + 1, 5, none⟩ = false := hbz.out.frozen 5
      have z6 : wr.cell? ⟨w.heap.size + 1, 6, none⟩ = some (.int .i64 0) := hbz.out.cell 6
      have f6 : wr.frozen? ⟨w.heap.size + 1, 6, none⟩ = false := hbz.out.frozen 6
      have z7 : wr.cell? ⟨w.heap.size + 1, 7, none⟩ = some (.int .i64 0) := hbz.out.cell 7
      have f7 : wr.frozen? ⟨w.heap.size + 1, 7, none⟩ = false := hbz.out.frozen 7
      have HF := hidv ((((((((hbz.out.set 0 (.int .i64 x0)).set 1 (.int .i64 x1)).set 2 (.int .i64 x2)).set 3 (.int .i64 x3)).set 4 (.int .i64 x4)).set 5 (.int .i64 x5)).set 6 (.int .i64 x6)).set 7 (.int .i64 x7))
      have E0 := hidv (HF.out.cell 0)
      have E1 := hidv (HF.out.cell 1)
      have E2 := hidv (HF.out.cell 2)
      have E3 := hidv (HF.out.cell 3)
      have E4 := hidv (HF.out.cell 4)
      have E5 := hidv (HF.out.cell 5)
      have E6 := hidv (HF.out.cell 6)
      have E7 := hidv (HF.out.cell 7)
      clear hbx2 hfin
      go_wp2
      refine bodyPost_ret (v := .agg #[.int .i64 x0, .int .i64 x1, .int .i64 x2, .int .i64 x3, .int .i64 x4, .int .i64 x5, .int .i64 x6, .int .i64 x7]) ?_ rfl ⟨rfl, ?_⟩
      · simp [results, Try.results25, go_sem, E0.out, E1.out, E2.out, E3.out, E4.out, E5.out, E6.out, E7.out]
      · exact ((((((((hbe.out.setCell (by simp) _).setCell (by simp) _).setCell (by simp) _).setCell (by simp) _).setCell (by simp) _).setCell (by simp) _).setCell (by simp) _).setCell (by simp) _)

end Go.Proofs.Ytgfdcpmjaamhdaa
