/-
  IsQuadratic, of the program and of the model, and the law over them.
-/
import Derived.Test.YtfnlikjdfihggaaEq
import Derived.Test.YtfnlikjdfihggaaKind
import Derived.Test.YtfnlikjdfihggaaCounts
import Derived.Deep.QuietTactic
import Derived.BigQuiet
namespace Go.Proofs.Ytfnlikjdfihggaa
open Go.RowKit Go
set_option linter.unusedVariables false

theorem ix8q (cs : Array Value) (i : Nat) (v : Value) (hi : i < 8) (hv : cs[i]? = some v) (w : World) :
    (Instr.index 70 (.agg cs) (.int .i64 (i : Int))).run Try.prog w = .ok v w := by
  have h1 : (0 : Int) ≤ (i : Int) ∧ (i : Int) < ((8 : Nat) : Int) := by omega
  simp [Instr.index, run_underlying Try.underlying70, asIntOf, part, Try.isAgg2, Try.sizeOf2, go_sem, h1, hv]
  omega

theorem eqnB_q {l r : ByteArray} (h : eqnB l r = true) : l.size ≤ 24 ∧ r.size ≤ 24 ∧ Wd.termB l.data.toList = true ∧ Wd.termB r.data.toList = true := by
  unfold eqnB at h
  rw [Bool.and_eq_true] at h
  exact ⟨by simpa using Wd.termB_len h.1, by simpa using Wd.termB_len h.2, h.1, h.2⟩

/-- How often an unknown occurs in both terms together. -/
def ukCnt (l r : ByteArray) (k : Nat) : Nat := l.data.toList.countP (fun c => kindN c == 4 + k) + r.data.toList.countP (fun c => kindN c == 4 + k)
def quadB (l r : ByteArray) : Bool := decide (ukCnt l r 0 ≤ 2) && decide (ukCnt l r 1 ≤ 2) && decide (ukCnt l r 2 ≤ 2) && decide (ukCnt l r 3 ≤ 2)
theorem quadB_upto {l r : ByteArray} (h : ∀ k, k < 4 → ukCnt l r k ≤ 2) : quadB l r = true := by
  unfold quadB
  simp [h 0 (by omega), h 1 (by omega), h 2 (by omega), h 3 (by omega)]
theorem quadB_not {l r : ByteArray} {k : Nat} (hk : k < 4) (h : 2 < ukCnt l r k) : quadB l r = false := by
  unfold quadB
  have : k = 0 ∨ k = 1 ∨ k = 2 ∨ k = 3 := by omega
  rcases this with rfl | rfl | rfl | rfl
  · rw [decide_eq_false (show ¬ ukCnt l r 0 ≤ 2 by omega)]; simp
  · rw [decide_eq_false (show ¬ ukCnt l r 1 ≤ 2 by omega)]; simp
  · rw [decide_eq_false (show ¬ ukCnt l r 2 ≤ 2 by omega)]; simp
  · rw [decide_eq_false (show ¬ ukCnt l r 3 ≤ 2 by omega)]; simp
def cntN (l : ByteArray) (j : Nat) : Nat := l.data.toList.countP (fun c => kindN c == j)
theorem cntN_le {l : ByteArray} (h : l.size ≤ 24) (j : Nat) : cntN l j ≤ 24 := countP_le (by simpa using h) j
theorem arr_at (l : ByteArray) {k : Nat} (hk : k < 8) : (((cntL l.data.toList).map (Value.int .i64)).toArray)[k]? = some (.int .i64 (cntN l k : Nat)) := by
  rw [List.getElem?_toArray, List.getElem?_map, cntL_at _ _ hk]; rfl

theorem ints_cell {l : ByteArray} {w : World} {B g : Nat} (h : Ints w B (.slice (some ⟨g, 0, none⟩) 8 8) (cntL l.data.toList)) (k : Nat) (hk : k < 8) : w.cell? ⟨g, k, none⟩ = some (.int .i64 (cntN l k : Nat)) := by
  have hrow : w.ownsRow B 2 1 (.slice (some ⟨g, 0, none⟩) 8 8) 8 ((cntL l.data.toList).map (Value.int .i64)) := by
    unfold Ints at h
    rw [cntL_length] at h
    exact h
  rw [hrow.cellAt k (by omega), List.getElem?_map, cntL_at _ _ hk]
  rfl

set_option maxRecDepth 100000 in
set_option maxHeartbeats 1600000 in
theorem specIsQuadratic_ok (l r : ByteArray) (w : World) (h : eqnB l r = true) :
    Calls Try.prog 25 #[.agg #[.string l, .string r]] w fun e w' => e = .returned (.tuple #[.bool (quadB l r), .int .i64 0]) ∧ Below w.heap.size w w' := by
  obtain ⟨hl, hr, t1, t2⟩ := eqnB_q h
  have c1 := fun W => specOk_any l r W (by unfold maxLen; omega) (by unfold maxLen; omega)
  rw [h] at c1
  have c2 := fun W => specCounts_any l W hl t1
  have c3 := fun W => specCounts_any r W hr t2
  have L1 := hidv (fun j => cntN_le hl j)
  have L2 := hidv (fun j => cntN_le hr j)
  obtain ⟨q, hq⟩ : ∃ q, quadB l r = q := ⟨_, rfl⟩
  rw [hq]
  have HQ := hidv hq
  have C1 := hidv c1
  have C2 := hidv c2
  have C3 := hidv c3
  clear c1 c2 c3 h hq t1 t2 hl hr
  go_enter Try.func25, Try.ntmps25
  go_wp2_with fail
  refine (C1.out _).mono ?_
  rintro e w1 ⟨rfl, hb1⟩
  have HX1 := hidv ((Bx.new w 28 #[.string l, .string r]).below hb1)
  have HB1 := hidv (((Below.refl w.heap.size w).alloc (Nat.le_refl _) (.cells #[.string l, .string r] 28)).trans (hb1.mono (by simp)))
  clear hb1
  obtain ⟨x0, x1⟩ := HX1.out.two
  go_wp2_with fail
  refine (C2.out _).mono ?_
  rintro e w2 ⟨g, rfl, hg, hb2⟩
  have HX2 := hidv (HX1.out.below hb2)
  have HB2 := hidv (below_on HB1.out hb2)
  have HG2 := hidv hg
  clear hb2 x0 x1 hg
  obtain ⟨x0, x1⟩ := HX2.out.two
  go_wp2_with fail
  refine (C3.out _).mono ?_
  rintro e w3 ⟨g', rfl, hg', hb3⟩
  have HB3 := hidv (below_on HB2.out hb3)
  have HL3 := hidv (HG2.out.below hb3)
  have HR3 := hidv hg'
  clear hb3 x0 x1 hg'
  have hcl := fun k (hk : k < 8) => ints_cell HL3.out k hk
  have hcr := fun k (hk : k < 8) => ints_cell HR3.out k hk
  have HCL := hidv hcl
  have HCR := hidv hcr
  clear hcl hcr
  go_wp2_with fail
  go_loopw [6] (fun i wr => ∃ k : Nat, 4 ≤ k ∧ k ≤ 8 ∧ i = .int .i64 (k : Int) ∧ Hid (∀ m, 4 + m < k → ukCnt l r m ≤ 2) ∧ ∃ n, wr = w3.drewN n) (fun i _ => 8 - (intOf i).toNat)
  case atStart => exact ⟨4, by omega, by omega, rfl, hidv (fun m hm => by omega), 0, rfl⟩
  case round =>
    obtain ⟨k, hk4, hk, rfl, hall, n, rfl⟩ := hrel
    by_cases hlt : k < 8
    · have c1 := HCL.out k hlt
      have c2 := HCR.out k hlt
      have b1 := L1.out k
      have b2 := L2.out k
      obtain ⟨m, hm⟩ : ∃ m, k = 4 + m := ⟨k - 4, by omega⟩
      have huk : ukCnt l r m = cntN l k + cntN r k := by rw [hm]; rfl
      obtain ⟨x, hx⟩ : ∃ x, cntN l k = x := ⟨_, rfl⟩
      obtain ⟨y, hy⟩ : ∃ x, cntN r k = x := ⟨_, rfl⟩
      rw [hx] at c1 b1 huk
      rw [hy] at c2 b2 huk
      have HM := hidv hm
      have HU := hidv huk
      clear hm huk hx hy
      by_cases hq2 : 2 < x + y
      · have hqi : (2 : Int) < (x : Int) + (y : Int) := by omega
        go_wp2
        go_quiet (fail)
        go_wp2
        go_ret2
        have hf := quadB_not (l := l) (r := r) (k := m) (by have := HM.out; omega) (by rw [HU.out]; exact hq2)
        rw [HQ.out] at hf
        subst hf
        exact ⟨rfl, below_drewN (below_drewN HB3.out _) _⟩
      · have hqi : ¬ (2 : Int) < (x : Int) + (y : Int) := by omega
        go_wp2
        go_quiet (fail)
        go_wp2
        go_roundw
        case rel =>
          refine ⟨k + 1, by omega, by omega, by go_num, hidv fun j hj => ?_, _, rfl⟩
          rcases Nat.lt_or_ge (4 + j) k with h | h
          · exact hall.out j h
          · have : j = m := by have := HM.out; omega
            rw [this, HU.out]; omega
        case measure => simp [intOf]; omega
    · obtain rfl : k = 8 := by omega
      go_wp2
      go_ret2
      have hf := quadB_upto (l := l) (r := r) (fun m hm => hall.out m (by omega))
      rw [HQ.out] at hf
      subst hf
      exact ⟨rfl, below_drewN HB3.out _⟩


end Go.Proofs.Ytfnlikjdfihggaa
