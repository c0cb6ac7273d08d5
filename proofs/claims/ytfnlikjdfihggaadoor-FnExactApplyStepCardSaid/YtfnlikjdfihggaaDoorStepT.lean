/-
  Whether a step is valid, as the model decides it, and its text: walks of both, and the law over them.
-/
import Derived.Test.YtfnlikjdfihggaaDoorIsSW
import Derived.Test.YtfnlikjdfihggaaDoorStp
import Derived.Deep.RegionHeld3
import Derived.Deep.QuietTactic
import Derived.BigQuiet
namespace Go.Proofs.YtfnlikjdfihggaaDoor
open Go.RowKit Go
set_option linter.unusedVariables false

theorem bytes_one {y : ByteArray} (h : y.size = 1) (h0 : 0 < y.size) : y.data.toList = [y[0]] := by
  obtain ⟨b, rfl⟩ := lu_one h
  rfl
theorem bytes_two {y : ByteArray} (h : y.size = 2) (h0 : 0 < y.size) (h1 : 1 < y.size) : y.data.toList = [y[0], y[1]] := by
  have h2 : y.data.toList.length = 2 := by simpa using h
  match hs : y.data.toList, h2 with
  | [a, b], _ =>
    have := lu_ba hs
    subst this
    rfl

set_option maxHeartbeats 1600000 in
theorem specStep_any (x : Int) (y : ByteArray) (w : World) (hy : y.size ≤ maxLen) :
    Calls Tryd.prog 45 #[.agg #[.int .i64 x, .string y]] w fun e w' => e = .returned (.bool (stepB x y.data.toList)) ∧ Below w.heap.size w w' := by
  unfold maxLen at hy
  have hlen : y.data.toList.length = y.size := by simp
  obtain ⟨v, hv⟩ : ∃ v, (decide (0 ≤ x) && decide (x ≤ 3)) = v := ⟨_, rfl⟩
  have c0 := fun W => l00In_any x 0 3 W v hv
  have C0 := hidv c0
  clear c0
  cases v
  · rw [show stepB x y.data.toList = false from by
      unfold stepB
      rw [show (decide (0 ≤ x) && decide (x < 4)) = (decide (0 ≤ x) && decide (x ≤ 3)) from by congr 1; rw [decide_eq_decide]; omega, hv]
      rfl]
    clear hv
    go_enter Tryd.func45, Tryd.ntmps45
    go_wp2_with fail
    refine (C0.out _).mono ?_
    rintro e w' ⟨rfl, rfl⟩
    go_wp2_with fail
    go_ret
    exact ⟨rfl, (Below.refl _ _).alloc (Nat.le_refl _) _⟩
  rw [Bool.and_eq_true, decide_eq_true_eq, decide_eq_true_eq] at hv
  obtain ⟨k, rfl⟩ : ∃ k : Nat, x = k := ⟨x.toNat, by omega⟩
  have hk : k < 4 := by omega
  rw [show stepB (k : Int) y.data.toList = specS (k : Int) y.data.toList from by
    unfold stepB
    rw [decide_eq_true (by omega), decide_eq_true (by omega), specS_eq k hk]
    rfl]
  by_cases hz : y.size = 0
  · rw [show specS (k : Int) y.data.toList = true from by rw [show y.data.toList = [] from List.eq_nil_of_length_eq_zero (by omega)]; rfl]
    go_enter Tryd.func45, Tryd.ntmps45
    go_wp2_with fail
    refine (C0.out _).mono ?_
    rintro e w' ⟨rfl, rfl⟩
    go_wp2_with fail
    go_ret
    exact ⟨rfl, (Below.refl _ _).alloc (Nat.le_refl _) _⟩
  by_cases h3 : 2 < y.size
  · rw [show specS (k : Int) y.data.toList = false from by
      match hs : y.data.toList with
      | [] => rw [hs] at hlen; simp at hlen; omega
      | [_] => rw [hs] at hlen; simp at hlen; omega
      | [_, _] => rw [hs] at hlen; simp at hlen; omega
      | _ :: _ :: _ :: _ => rfl]
    go_enter Tryd.func45, Tryd.ntmps45
    go_wp2_with fail
    refine (C0.out _).mono ?_
    rintro e w' ⟨rfl, rfl⟩
    go_wp2_with fail
    go_ret
    exact ⟨rfl, (Below.refl _ _).alloc (Nat.le_refl _) _⟩
  have hp : 0 < y.size := by omega
  have cU := fun W => unknown_any y[0] W
  have cL := fun W => letter_any y[0] W
  obtain ⟨q, hq⟩ : ∃ q, Wd.unkI y[0] = q := ⟨_, rfl⟩
  obtain ⟨bl, hbl⟩ : ∃ b, Wd.isL y[0] = b := ⟨_, rfl⟩
  rw [hq] at cU
  rw [hbl] at cL
  have CU := hidv cU
  have CL := hidv cL
  clear cU cL hlen
  -- what the second place says, where there is one
  have hres : specS (k : Int) y.data.toList = (!(decide (q < 0) && !bl || decide (q = (k : Int))) && (if h : 1 < y.size then decide (Wd.unkI y[1] = (k : Int)) else true)) := by
    by_cases h1 : y.size = 1
    · rw [bytes_one h1 hp, dif_neg (by omega), Bool.and_true, ← hq, ← hbl]
      rfl
    · rw [bytes_two (by omega) hp (by omega), dif_pos (by omega), ← hq, ← hbl]
      rfl
  rw [hres]
  have HQ := hidv hq
  clear hres hq hbl
  by_cases hA : q < 0
  · cases bl
    · rw [show (!(decide (q < 0) && !false || decide (q = (k : Int)))) = false from by rw [decide_eq_true hA]; rfl, Bool.false_and]
      go_enter Tryd.func45, Tryd.ntmps45
      go_wp2_with fail
      obtain ⟨w0, hw0⟩ : ∃ w0, w0 = w.alloc (.cells #[.int .i64 (k : Int), .string y] 33) := ⟨_, rfl⟩
      rw [← hw0]
      have HB0 := hidv (show Below w.heap.size w w0 by rw [hw0]; exact (Below.refl _ _).alloc (Nat.le_refl _) _)
      obtain ⟨x0, x1⟩ := (show Bx w0 w.heap.size 33 #[.int .i64 (k : Int), .string y] by rw [hw0]; exact Bx.new _ _ _).two
      clear hw0
      refine (C0.out _).mono ?_
      rintro e w' ⟨rfl, rfl⟩
      go_wp2_with fail
      refine (CU.out _).mono ?_
      rintro e w' ⟨rfl, rfl⟩
      go_wp2_with fail
      refine (CL.out _).mono ?_
      rintro e w' ⟨rfl, rfl⟩
      go_wp2_with fail
      go_ret
      exact ⟨rfl, HB0.out⟩
    · have hB : ¬ q = (k : Int) := by omega
      rw [show (!(decide (q < 0) && !true || decide (q = (k : Int)))) = true from by rw [decide_eq_false hB]; simp, Bool.true_and]
      have hBb : (q == (k : Int)) = false := by rw [beq_eq_false_iff_ne]; exact hB
      by_cases h1 : 1 < y.size
      · rw [dif_pos h1]
        have cV : ∀ W, Calls Tryd.prog 76 #[.int .u8 (y[1].toNat : Int)] W fun e w' => e = .returned (.int .i64 (Wd.unkI y[1])) ∧ w' = W := fun W => (unknown_any y[1] W).mono fun e w' ⟨h1, h2⟩ => ⟨h1, h2.symm⟩
        obtain ⟨q2, hq2⟩ : ∃ q, Wd.unkI y[1] = q := ⟨_, rfl⟩
        rw [hq2] at cV ⊢
        have CV := hidv cV
        have hs1 : ((y.size : Int) == 1) = false := by rw [beq_eq_false_iff_ne]; omega
        have hi1 : (1 : Int) < (y.size : Int) := by omega
        have he2 : decide (q2 = (k : Int)) = (q2 == (k : Int)) := rfl
        rw [he2]
        clear cV hq2
        go_enter Tryd.func45, Tryd.ntmps45
        go_wp2_with fail
        obtain ⟨w0, hw0⟩ : ∃ w0, w0 = w.alloc (.cells #[.int .i64 (k : Int), .string y] 33) := ⟨_, rfl⟩
        rw [← hw0]
        have HB0 := hidv (show Below w.heap.size w w0 by rw [hw0]; exact (Below.refl _ _).alloc (Nat.le_refl _) _)
        obtain ⟨x0, x1⟩ := (show Bx w0 w.heap.size 33 #[.int .i64 (k : Int), .string y] by rw [hw0]; exact Bx.new _ _ _).two
        clear hw0
        refine (C0.out _).mono ?_
        rintro e w' ⟨rfl, rfl⟩
        go_wp2_with fail
        refine (CU.out _).mono ?_
        rintro e w' ⟨rfl, rfl⟩
        go_wp2_with fail
        refine (CL.out _).mono ?_
        rintro e w' ⟨rfl, rfl⟩
        go_wp2_with fail
        go_quiet (first | (with_reducible exact Calls.quiet_of_same (CV.out _)))
        go_wp2_with fail
        go_ret
        exact ⟨rfl, below_drewN HB0.out _⟩
      · rw [dif_neg h1]
        have hs1 : ((y.size : Int) == 1) = true := by rw [beq_iff_eq]; omega
        go_enter Tryd.func45, Tryd.ntmps45
        go_wp2_with fail
        obtain ⟨w0, hw0⟩ : ∃ w0, w0 = w.alloc (.cells #[.int .i64 (k : Int), .string y] 33) := ⟨_, rfl⟩
        rw [← hw0]
        have HB0 := hidv (show Below w.heap.size w w0 by rw [hw0]; exact (Below.refl _ _).alloc (Nat.le_refl _) _)
        obtain ⟨x0, x1⟩ := (show Bx w0 w.heap.size 33 #[.int .i64 (k : Int), .string y] by rw [hw0]; exact Bx.new _ _ _).two
        clear hw0
        refine (C0.out _).mono ?_
        rintro e w' ⟨rfl, rfl⟩
        go_wp2_with fail
        refine (CU.out _).mono ?_
        rintro e w' ⟨rfl, rfl⟩
        go_wp2_with fail
        refine (CL.out _).mono ?_
        rintro e w' ⟨rfl, rfl⟩
        go_wp2_with fail
        go_quiet (fail)
        go_wp2_with fail
        go_ret
        exact ⟨rfl, below_drewN HB0.out _⟩
  · by_cases hB : q = (k : Int)
    · rw [show (!(decide (q < 0) && !bl || decide (q = (k : Int)))) = false from by rw [decide_eq_true hB]; simp, Bool.false_and]
      have hBb : (q == (k : Int)) = true := by rw [beq_iff_eq]; exact hB
      go_enter Tryd.func45, Tryd.ntmps45
      go_wp2_with fail
      obtain ⟨w0, hw0⟩ : ∃ w0, w0 = w.alloc (.cells #[.int .i64 (k : Int), .string y] 33) := ⟨_, rfl⟩
      rw [← hw0]
      have HB0 := hidv (show Below w.heap.size w w0 by rw [hw0]; exact (Below.refl _ _).alloc (Nat.le_refl _) _)
      obtain ⟨x0, x1⟩ := (show Bx w0 w.heap.size 33 #[.int .i64 (k : Int), .string y] by rw [hw0]; exact Bx.new _ _ _).two
      clear hw0
      refine (C0.out _).mono ?_
      rintro e w' ⟨rfl, rfl⟩
      go_wp2_with fail
      refine (CU.out _).mono ?_
      rintro e w' ⟨rfl, rfl⟩
      go_wp2_with fail
      go_ret
      exact ⟨rfl, HB0.out⟩
    · rw [show (!(decide (q < 0) && !bl || decide (q = (k : Int)))) = true from by rw [decide_eq_false hB, decide_eq_false hA]; simp, Bool.true_and]
      have hBb : (q == (k : Int)) = false := by rw [beq_eq_false_iff_ne]; exact hB
      by_cases h1 : 1 < y.size
      · rw [dif_pos h1]
        have cV : ∀ W, Calls Tryd.prog 76 #[.int .u8 (y[1].toNat : Int)] W fun e w' => e = .returned (.int .i64 (Wd.unkI y[1])) ∧ w' = W := fun W => (unknown_any y[1] W).mono fun e w' ⟨h1, h2⟩ => ⟨h1, h2.symm⟩
        obtain ⟨q2, hq2⟩ : ∃ q, Wd.unkI y[1] = q := ⟨_, rfl⟩
        rw [hq2] at cV ⊢
        have CV := hidv cV
        have hs1 : ((y.size : Int) == 1) = false := by rw [beq_eq_false_iff_ne]; omega
        have hi1 : (1 : Int) < (y.size : Int) := by omega
        have he2 : decide (q2 = (k : Int)) = (q2 == (k : Int)) := rfl
        rw [he2]
        clear cV hq2
        go_enter Tryd.func45, Tryd.ntmps45
        go_wp2_with fail
        obtain ⟨w0, hw0⟩ : ∃ w0, w0 = w.alloc (.cells #[.int .i64 (k : Int), .string y] 33) := ⟨_, rfl⟩
        rw [← hw0]
        have HB0 := hidv (show Below w.heap.size w w0 by rw [hw0]; exact (Below.refl _ _).alloc (Nat.le_refl _) _)
        obtain ⟨x0, x1⟩ := (show Bx w0 w.heap.size 33 #[.int .i64 (k : Int), .string y] by rw [hw0]; exact Bx.new _ _ _).two
        clear hw0
        refine (C0.out _).mono ?_
        rintro e w' ⟨rfl, rfl⟩
        go_wp2_with fail
        refine (CU.out _).mono ?_
        rintro e w' ⟨rfl, rfl⟩
        go_wp2_with fail
        go_quiet (first | (with_reducible exact Calls.quiet_of_same (CV.out _)))
        go_wp2_with fail
        go_ret
        exact ⟨rfl, below_drewN HB0.out _⟩
      · rw [dif_neg h1]
        have hs1 : ((y.size : Int) == 1) = true := by rw [beq_iff_eq]; omega
        go_enter Tryd.func45, Tryd.ntmps45
        go_wp2_with fail
        obtain ⟨w0, hw0⟩ : ∃ w0, w0 = w.alloc (.cells #[.int .i64 (k : Int), .string y] 33) := ⟨_, rfl⟩
        rw [← hw0]
        have HB0 := hidv (show Below w.heap.size w w0 by rw [hw0]; exact (Below.refl _ _).alloc (Nat.le_refl _) _)
        obtain ⟨x0, x1⟩ := (show Bx w0 w.heap.size 33 #[.int .i64 (k : Int), .string y] by rw [hw0]; exact Bx.new _ _ _).two
        clear hw0
        refine (C0.out _).mono ?_
        rintro e w' ⟨rfl, rfl⟩
        go_wp2_with fail
        refine (CU.out _).mono ?_
        rintro e w' ⟨rfl, rfl⟩
        go_wp2_with fail
        go_quiet (fail)
        go_wp2_with fail
        go_ret
        exact ⟨rfl, below_drewN HB0.out _⟩


/-- The text of a step. -/
def stepT (x : Int) (y : ByteArray) : ByteArray := if stepB x y.data.toList then nmB x.toNat ++ ⟨#[61]⟩ ++ y else ⟨#[]⟩

set_option maxHeartbeats 400000 in
theorem implStepText_any (x : Int) (y : ByteArray) (w : World) (hy : y.size ≤ 1048576) :
    Calls Tryd.prog 13 #[.agg #[.int .i64 x, .string y]] w fun e w' => e = .returned (.string (stepT x y)) ∧ Below w.heap.size w w' := by
  have c1 := fun W => isStep_any x y W (by unfold maxLen; omega)
  unfold stepT
  cases hb : stepB x y.data.toList
  · rw [hb] at c1
    have C1 := hidv c1
    clear c1 hb
    go_enter Tryd.func13, Tryd.ntmps13
    go_wp2_with fail
    refine (C1.out _).mono ?_
    rintro e w1 ⟨rfl, hb1⟩
    have HB1 := hidv (((Below.refl w.heap.size w).alloc (Nat.le_refl _) (.cells #[.int .i64 x, .string y] 33)).trans (hb1.mono (by simp)))
    clear hb1
    go_wp2_with fail
    go_ret
    exact ⟨rfl, HB1.out⟩
  · rw [hb] at c1
    have C1 := hidv c1
    have hx : 0 ≤ x ∧ x < 4 := by
      unfold stepB at hb
      simp only [Bool.and_eq_true, decide_eq_true_eq] at hb
      exact hb.1
    clear c1 hb
    obtain ⟨k, rfl⟩ : ∃ k : Nat, x = k := ⟨x.toNat, by omega⟩
    have hk : k < 4 := by omega
    have hns : (nmB k).size = 1 := by rcases nm_four hk with rfl | rfl | rfl | rfl <;> rfl
    have c2 := fun W => name_any k hk y W
    rw [show ((k : Int)).toNat = k by omega]
    obtain ⟨n, hn⟩ : ∃ n, nmB k = n := ⟨_, rfl⟩
    rw [hn] at c2 hns ⊢
    have C2 := hidv c2
    have he : (⟨#[61]⟩ : ByteArray).size = 1 := rfl
    have hn61 : n.size + (⟨#[61]⟩ : ByteArray).size ≤ maxLen := by unfold maxLen; omega
    have hny : (n ++ (⟨#[61]⟩ : ByteArray)).size + y.size ≤ maxLen := by rw [ByteArray.size_append]; unfold maxLen; omega
    have k1 : ¬ (9223372036854775807 < (n ++ (⟨#[61]⟩ : ByteArray)).size + y.size) := by rw [ByteArray.size_append]; omega
    have k2 : ¬ (9223372036854775807 < n.size + (⟨#[61]⟩ : ByteArray).size + y.size) := by omega
    have k3 : ¬ (9223372036854775807 < n.size + 1 + y.size) := by omega
    have k4 : ¬ (9223372036854775807 < 1 + 1 + y.size) := by omega
    have k5 : ¬ (9223372036854775807 < 2 + y.size) := by omega
    clear c2 hn hx
    simp only [reduceIte]
    go_enter Tryd.func13, Tryd.ntmps13
    go_wp2_with fail
    refine (C1.out _).mono ?_
    rintro e w1 ⟨rfl, hb1⟩
    have HX1 := hidv ((Bx.new w 33 #[.int .i64 (k : Int), .string y]).below hb1)
    have HB1 := hidv (((Below.refl w.heap.size w).alloc (Nat.le_refl _) (.cells #[.int .i64 (k : Int), .string y] 33)).trans (hb1.mono (by simp)))
    obtain ⟨x0, x1⟩ := HX1.out.two
    have HS := hidv (fun w' (hw : Below w1.heap.size w1 w') => (show w'.cell? ⟨w.heap.size, 0, none⟩ = some (.int .i64 (k : Int)) ∧ w'.cell? ⟨w.heap.size, 1, none⟩ = some (.string y) ∧ Below w1.heap.size w1 w' from ⟨(HX1.out.below hw).two.1, (HX1.out.below hw).two.2, hw⟩))
    clear hb1
    go_wp2_with fail
    go_region_held3 (fun w' => w'.cell? ⟨w.heap.size, 0, none⟩ = some (.int .i64 (k : Int)) ∧ w'.cell? ⟨w.heap.size, 1, none⟩ = some (.string y) ∧ Below w1.heap.size w1 w') (exact HS.out _ (by repeat (first | assumption | exact Below.refl _ _ | refine Below.drew ?_))) (first | (go_at_call 43; refine (C2.out _).mono ?_; rintro e w3 ⟨rfl, hbw⟩; replace hbw := below_on (show Below w1.heap.size w1 _ from by repeat (first | assumption | exact Below.refl _ _ | refine Below.drew ?_)) hbw))
    all_goals
      go_wp2_with fail
      go_ret
      exact ⟨rfl, below_on HB1.out (by assumption)⟩



end Go.Proofs.YtfnlikjdfihggaaDoor
