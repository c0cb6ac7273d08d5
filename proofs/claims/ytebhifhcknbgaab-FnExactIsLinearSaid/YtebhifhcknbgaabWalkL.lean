/-
  IsLinear, of the program and of the model: contracts, and the law over them.
-/
import Derived.Test.YtebhifhcknbgaabWalkU
namespace Go.Proofs.Ytebhifhcknbgaab
open Go.RowKit Go

/-- How often the unknown with a number occurs. -/
def unkCnt (l : List UInt8) (k : Nat) : Nat := l.countP (fun c => kindN c == 4 + k)
/-- No unknown occurs twice. -/
def linB (l : List UInt8) : Bool := decide (unkCnt l 0 ≤ 1) && decide (unkCnt l 1 ≤ 1) && decide (unkCnt l 2 ≤ 1) && decide (unkCnt l 3 ≤ 1)

def mx (a b c d : Int) : Nat → Int
  | 0 => a
  | 1 => a
  | 2 => max a b
  | 3 => max a (max b c)
  | _ => max a (max b (max c d))

set_option maxRecDepth 100000 in
set_option maxHeartbeats 800000 in
theorem max_any (g : Nat) (a b c d : Int) (w : World) (h0 : w.cell? ⟨g, 4, none⟩ = some (.int .i64 a)) (h1 : w.cell? ⟨g, 5, none⟩ = some (.int .i64 b)) (h2 : w.cell? ⟨g, 6, none⟩ = some (.int .i64 c)) (h3 : w.cell? ⟨g, 7, none⟩ = some (.int .i64 d)) :
    Calls Try.prog 73 #[.slice (some ⟨g, 4, none⟩) 4 4] w fun e w' => e = .returned (.int .i64 (max a (max b (max c d)))) ∧ w = w' := by
  go_enter Try.func73, Try.ntmps73
  go_wp2
  go_loop [3, 4] (fun m i => ∃ k : Nat, 1 ≤ k ∧ k ≤ 4 ∧ i = .int .i64 k ∧ m = .int .i64 (mx a b c d k)) (fun _ i => 4 - (intOf i).toNat)
  case atStart => exact ⟨1, Nat.le_refl _, by omega, rfl, rfl⟩
  case round =>
    obtain ⟨k, hk1, hk, rfl, rfl⟩ := hrel
    have hk4 : k = 1 ∨ k = 2 ∨ k = 3 ∨ k = 4 := by omega
    clear hk1 hk
    rcases hk4 with rfl | rfl | rfl | rfl
    · go_wp2
      go_round
      case rel => exact ⟨2, by omega, by omega, rfl, by first | rfl | simp [mx, Int.max_assoc]⟩
      case measure => simp [intOf]
    · go_wp2
      go_round
      case rel => exact ⟨3, by omega, by omega, rfl, by first | rfl | simp [mx, Int.max_assoc]⟩
      case measure => simp [intOf]
    · go_wp2
      go_round
      case rel => exact ⟨4, by omega, by omega, rfl, by first | rfl | simp [mx, Int.max_assoc]⟩
      case measure => simp [intOf]
    · go_wp2
      go_ret
      exact ⟨rfl, rfl⟩

set_option maxRecDepth 100000 in
set_option maxHeartbeats 800000 in
theorem implLinear_ok (s : ByteArray) (w : World) (hs : s.size ≤ 24) (hv : Wd.termB s.data.toList = true) :
    Calls Try.prog 44 #[.string s] w fun e w' => e = .returned (.tuple #[.bool (linB s.data.toList), .int .i64 0]) ∧ Below w.heap.size w w' := by
  have c1 := implValidTerm_any s w (by unfold maxLen; omega)
  rw [hv] at c1
  have c2 := kindCounts_any s w hs hv
  obtain ⟨x0, x1, x2, x3, y0, y1, y2, y3, hx, e0, e1, e2, e3⟩ : ∃ (x0 x1 x2 x3 : Int) (y0 y1 y2 y3 : Int), cntL s.data.toList = [x0, x1, x2, x3, y0, y1, y2, y3] ∧ y0 = unkCnt s.data.toList 0 ∧ y1 = unkCnt s.data.toList 1 ∧ y2 = unkCnt s.data.toList 2 ∧ y3 = unkCnt s.data.toList 3 := ⟨_, _, _, _, _, _, _, _, rfl, rfl, rfl, rfl, rfl⟩
  rw [hx] at c2
  have hlin : linB s.data.toList = decide (max y0 (max y1 (max y2 y3)) ≤ 1) := by
    unfold linB
    rw [e0, e1, e2, e3, Bool.eq_iff_iff]
    simp only [Bool.and_eq_true, decide_eq_true_eq]
    omega
  rw [hlin]
  clear hx hv hlin e0 e1 e2 e3
  go_enter Try.func44, Try.ntmps44
  go_wp2_with fail
  refine c1.mono ?_
  rintro e w' ⟨rfl, rfl⟩
  go_wp2_with fail
  refine c2.mono ?_
  rintro e w1 ⟨rfl, hb⟩
  simp only [List.map_cons, List.map_nil]
  go_wp2_with fail
  obtain ⟨w2, hw2⟩ : ∃ w2, w2 = w1.alloc (.cells #[.int .i64 x0, .int .i64 x1, .int .i64 x2, .int .i64 x3, .int .i64 y0, .int .i64 y1, .int .i64 y2, .int .i64 y3] 53) := ⟨_, rfl⟩
  rw [← hw2]
  have hr : w2.heap[w1.heap.size]? = some (.cells #[.int .i64 x0, .int .i64 x1, .int .i64 x2, .int .i64 x3, .int .i64 y0, .int .i64 y1, .int .i64 y2, .int .i64 y3] 53 (0, 0)) := by rw [hw2]; exact heap_alloc_new w1 _
  have hb2 : Below w.heap.size w w2 := by rw [hw2]; exact hb.alloc hb.size _
  have c3 := max_any w1.heap.size y0 y1 y2 y3 w2 (cell_of_row _ _ 4 _ _ _ hr) (cell_of_row _ _ 5 _ _ _ hr) (cell_of_row _ _ 6 _ _ _ hr) (cell_of_row _ _ 7 _ _ _ hr)
  clear hr hw2
  refine c3.mono ?_
  rintro e w3 ⟨rfl, rfl⟩
  go_wp2_with fail
  go_ret2
  exact ⟨rfl, hb2⟩

theorem implLinear_bad (s : ByteArray) (w : World) (hs : s.size ≤ maxLen) (h : Wd.termB s.data.toList = false) :
    Calls Try.prog 44 #[.string s] w fun e w' => e = .returned (.tuple #[.bool false, .int .i64 1]) ∧ Below w.heap.size w w' := by
  have c1 := implValidTerm_any s w hs
  rw [h] at c1
  clear h
  go_enter Try.func44, Try.ntmps44
  go_wp2_with fail
  refine c1.mono ?_
  rintro e w' ⟨rfl, rfl⟩
  go_wp2_with fail
  go_ret2
  exact ⟨rfl, Below.refl _ _⟩

theorem specLinear_bad (s : ByteArray) (w : World) (hs : s.size ≤ maxLen) (h : Wd.termB s.data.toList = false) :
    Calls Try.prog 43 #[.string s] w fun e w' => e = .returned (.tuple #[.bool false, .int .i64 1]) ∧ Below w.heap.size w w' := by
  have c1 := specTerm_any s w hs
  rw [h] at c1
  clear h
  go_enter Try.func43, Try.ntmps43
  go_wp2_with fail
  refine c1.mono ?_
  rintro e w' ⟨rfl, rfl⟩
  go_wp2_with fail
  go_ret2
  exact ⟨rfl, Below.refl _ _⟩

theorem linB_upto {l : List UInt8} (h : ∀ k, k < 4 → unkCnt l k ≤ 1) : linB l = true := by
  unfold linB
  simp [h 0 (by omega), h 1 (by omega), h 2 (by omega), h 3 (by omega)]
theorem linB_not {l : List UInt8} {k : Nat} (hk : k < 4) (h : 1 < unkCnt l k) : linB l = false := by
  unfold linB
  have : k = 0 ∨ k = 1 ∨ k = 2 ∨ k = 3 := by omega
  rcases this with rfl | rfl | rfl | rfl
  · rw [decide_eq_false (show ¬ unkCnt l 0 ≤ 1 by omega)]; simp
  · rw [decide_eq_false (show ¬ unkCnt l 1 ≤ 1 by omega)]; simp
  · rw [decide_eq_false (show ¬ unkCnt l 2 ≤ 1 by omega)]; simp
  · rw [decide_eq_false (show ¬ unkCnt l 3 ≤ 1 by omega)]; simp

set_option maxRecDepth 100000 in
set_option maxHeartbeats 800000 in
theorem specLinear_ok (s : ByteArray) (w : World) (hs : s.size ≤ 24) (hv : Wd.termB s.data.toList = true) :
    Calls Try.prog 43 #[.string s] w fun e w' => e = .returned (.tuple #[.bool (linB s.data.toList), .int .i64 0]) ∧ Below w.heap.size w w' := by
  have c1 := specTerm_any s w (by unfold maxLen; omega)
  rw [hv] at c1
  have c2 := specCounts_any s w hs hv
  clear hv
  obtain ⟨r, hr⟩ : ∃ r, linB s.data.toList = r := ⟨_, rfl⟩
  rw [hr]
  have HR := hidv hr
  clear hr
  go_enter Try.func43, Try.ntmps43
  go_wp2_with fail
  refine c1.mono ?_
  rintro e w' ⟨rfl, rfl⟩
  go_wp2_with fail
  refine c2.mono ?_
  rintro e w1 ⟨g, rfl, hcw, hb⟩
  have HB := hidv hb
  have HC := hidv hcw
  clear hb hcw
  go_wp2_with fail
  go_loop [5] (fun i => ∃ k : Nat, 4 ≤ k ∧ k ≤ 8 ∧ i = .int .i64 k ∧ Hid (∀ m, 4 + m < k → unkCnt s.data.toList m ≤ 1)) (fun i => 8 - (intOf i).toNat)
  case atStart => exact ⟨4, by omega, by omega, rfl, hidv (fun m hm => by omega)⟩
  case round =>
    obtain ⟨k, hk4, hk, rfl, hall⟩ := hrel
    by_cases hlt : k < 8
    · have hrow : w1.ownsRow w.heap.size 2 1 (.slice (some ⟨g, 0, none⟩) 8 8) 8 ((cntL s.data.toList).map (Value.int .i64)) := by
        have := HC.out
        unfold Ints at this
        rw [cntL_length] at this
        exact this
      obtain ⟨m, hm⟩ : ∃ m, k = 4 + m := ⟨k - 4, by omega⟩
      have c3 : w1.cell? ⟨g, k, none⟩ = some (.int .i64 (unkCnt s.data.toList m : Nat)) := by
        rw [hrow.cellAt k (by omega), List.getElem?_map, cntL_at _ _ (by omega), hm]
        rfl
      obtain ⟨q, hq⟩ : ∃ q, unkCnt s.data.toList m = q := ⟨_, rfl⟩
      rw [hq] at c3
      have HQ := hidv hq
      have HM := hidv hm
      clear hq hm hrow
      by_cases hq1 : 1 < q
      · go_wp2
        go_ret2
        have hf := linB_not (l := s.data.toList) (k := m) (by have := HM.out; omega) (by rw [HQ.out]; exact hq1)
        rw [HR.out] at hf
        subst hf
        exact ⟨rfl, HB.out⟩
      · go_wp2
        go_round
        case rel =>
          refine ⟨k + 1, by omega, by omega, by go_num, hidv fun n hn => ?_⟩
          rcases Nat.lt_or_ge (4 + n) k with h | h
          · exact hall.out n h
          · have : n = m := by have := HM.out; omega
            rw [this, HQ.out]; omega
        case measure => simp [intOf]; omega
    · obtain rfl : k = 8 := by omega
      go_wp2
      go_ret2
      have hf := linB_upto (l := s.data.toList) (fun m hm => hall.out m (by omega))
      rw [HR.out] at hf
      subst hf
      exact ⟨rfl, HB.out⟩

set_option maxHeartbeats 400000 in
theorem law_FnExactIsLinear (a0 : ByteArray) (w : World) (w0 : a0.size ≤ maxLen) :
    Calls Try.prog 12 #[.string a0] w fun e w' => e = .returned (.bool true) ∧ Below w.heap.size w w' := by
  obtain ⟨b, c, h1, h2⟩ : ∃ b c, (∀ w, Calls Try.prog 44 #[.string a0] w (fun e w' => e = .returned (.tuple #[.bool b, .int .i64 c]) ∧ Below w.heap.size w w')) ∧ ∀ w, Calls Try.prog 43 #[.string a0] w (fun e w' => e = .returned (.tuple #[.bool b, .int .i64 c]) ∧ Below w.heap.size w w') := by
    cases h : Wd.termB a0.data.toList
    · exact ⟨_, _, fun w => implLinear_bad a0 w w0 h, fun w => specLinear_bad a0 w w0 h⟩
    · have hs0 : a0.size ≤ 24 := by have := Wd.termB_len h; simpa using this
      exact ⟨_, _, fun w => implLinear_ok a0 w hs0 h, fun w => specLinear_ok a0 w hs0 h⟩
  unfold maxLen at w0
  have H1 := hidv h1
  have H2 := hidv h2
  clear h1 h2
  by_cases hl : (1048576 : Int) < a0.size
  · go_enter Try.func12, Try.ntmps12
    go_wp2
    go_ret
    exact ⟨rfl, Below.refl _ _⟩
  · go_enter Try.func12, Try.ntmps12
    go_wp2_with fail
    refine (H2.out _).mono ?_
    rintro e w1 ⟨rfl, hb1⟩
    go_wp2_with fail
    refine (H1.out _).mono ?_
    rintro e w2 ⟨rfl, hb2⟩
    go_wp2_with fail
    go_ret
    exact ⟨rfl, hb1.trans (hb2.mono hb1.size)⟩

end Go.Proofs.Ytebhifhcknbgaab
