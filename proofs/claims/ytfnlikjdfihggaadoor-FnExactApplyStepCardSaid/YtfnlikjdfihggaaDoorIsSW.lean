/-
  Whether a step is valid, its name, and its text: walks, of the program and of the model.
-/
import Derived.Test.YtfnlikjdfihggaaDoorIsS
import Derived.Test.YtfnlikjdfihggaaDoorRow
import Derived.Deep.RegionHeld3
namespace Go.Proofs.YtfnlikjdfihggaaDoor
open Go.RowKit Go
set_option linter.unusedVariables false

def nmB (k : Nat) : ByteArray := ⟨⟨nmL k⟩⟩
theorem nm_four {k : Nat} (h : k < 4) : k = 0 ∨ k = 1 ∨ k = 2 ∨ k = 3 := by omega

theorem unkText_any (k : Nat) (h : k < 4) (w : World) :
    Calls Tryd.prog 82 #[.int .i64 (k : Int)] w fun e w' => e = .returned (.string (nmB k)) ∧ w' = w := by
  rcases nm_four h with rfl | rfl | rfl | rfl
  all_goals
    go_enter Tryd.func82, Tryd.ntmps82
    go_wp2
    go_ret
    exact ⟨rfl, rfl⟩
theorem specName_any (k : Nat) (h : k < 4) (w : World) :
    Calls Tryd.prog 68 #[.int .i64 (k : Int)] w fun e w' => e = .returned (.string (nmB k)) ∧ w' = w := by
  rcases nm_four h with rfl | rfl | rfl | rfl
  all_goals
    go_enter Tryd.func68, Tryd.ntmps68
    go_wp2
    go_ret
    exact ⟨rfl, rfl⟩

theorem name_any (k : Nat) (h : k < 4) (y : ByteArray) (w : World) :
    Calls Tryd.prog 43 #[.agg #[.int .i64 (k : Int), .string y]] w fun e w' => e = .returned (.string (nmB k)) ∧ Below w.heap.size w w' := by
  have c1 := fun W => unkText_any k h W
  obtain ⟨n, hn⟩ : ∃ n, nmB k = n := ⟨_, rfl⟩
  rw [hn] at c1 ⊢
  have C1 := hidv c1
  clear c1 hn
  go_enter Tryd.func43, Tryd.ntmps43
  go_wp2_with fail
  refine (C1.out _).mono ?_
  rintro e w1 ⟨rfl, rfl⟩
  go_wp2_with fail
  go_ret
  exact ⟨rfl, (Below.refl _ _).alloc (Nat.le_refl _) _⟩

set_option maxHeartbeats 400000 in
theorem front_any (k : Nat) (h : k < 4) (y : ByteArray) (w : World) (hy : y.size ≤ maxLen) :
    Calls Tryd.prog 79 #[.agg #[.int .i64 (k : Int), .string y]] w fun e w' => e = .returned (.string ⟨⟨frontL k y.data.toList⟩⟩) ∧ Below w.heap.size w w' := by
  have c1 := fun W => name_any k h y W
  have c2 := fun W => Tryd.strings_TrimSuffix y (nmB k) W (by unfold maxLen at hy; omega)
  have C2 : Hid (∀ W : World, Calls Tryd.prog 108 #[.string y, .string (nmB k)] W fun e w' => e = .returned (.string ⟨⟨frontL k y.data.toList⟩⟩) ∧ w' = W) := c2
  clear c2
  obtain ⟨f, hf⟩ : ∃ n : ByteArray, ⟨⟨frontL k y.data.toList⟩⟩ = n := ⟨_, rfl⟩
  obtain ⟨n, hn⟩ : ∃ n, nmB k = n := ⟨_, rfl⟩
  rw [hn] at c1 C2
  rw [hf] at C2 ⊢
  have C1 := hidv c1
  clear c1 hn hf hy
  go_enter Tryd.func79, Tryd.ntmps79
  go_wp2_with fail
  obtain ⟨w0, hw0⟩ : ∃ w0, w0 = w.alloc (.cells #[.int .i64 (k : Int), .string y] 33) := ⟨_, rfl⟩
  rw [← hw0]
  have HX := hidv (show Bx w0 w.heap.size 33 #[.int .i64 (k : Int), .string y] by rw [hw0]; exact Bx.new _ _ _)
  have HB0 := hidv (show Below w.heap.size w w0 by rw [hw0]; exact (Below.refl _ _).alloc (Nat.le_refl _) _)
  have HS := hidv (fun w' (hw : Below w0.heap.size w0 w') => (show w'.cell? ⟨w.heap.size, 0, none⟩ = some (.int .i64 (k : Int)) ∧ w'.cell? ⟨w.heap.size, 1, none⟩ = some (.string y) ∧ Below w0.heap.size w0 w' from ⟨(HX.out.below hw).two.1, (HX.out.below hw).two.2, hw⟩))
  clear hw0
  go_region_held3 (fun w' => w'.cell? ⟨w.heap.size, 0, none⟩ = some (.int .i64 (k : Int)) ∧ w'.cell? ⟨w.heap.size, 1, none⟩ = some (.string y) ∧ Below w0.heap.size w0 w') (exact HS.out _ (by repeat (first | assumption | exact Below.refl _ _ | refine Below.drew ?_))) (first | (go_at_call 43; refine (C1.out _).mono ?_; rintro e w3 ⟨rfl, hbw⟩; replace hbw := below_on (show Below w0.heap.size w0 _ from by repeat (first | assumption | exact Below.refl _ _ | refine Below.drew ?_)) hbw) | (go_at_call 108; refine (C2.out _).mono ?_; rintro e w' ⟨rfl, rfl⟩))
  all_goals
    go_wp2_with fail
    go_ret
    exact ⟨rfl, below_on HB0.out (by assumption)⟩

set_option maxHeartbeats 800000 in
theorem isStep_any (x : Int) (y : ByteArray) (w : World) (hy : y.size ≤ maxLen) :
    Calls Tryd.prog 42 #[.agg #[.int .i64 x, .string y]] w fun e w' => e = .returned (.bool (stepB x y.data.toList)) ∧ Below w.heap.size w w' := by
  by_cases h0 : x < 0
  · rw [show stepB x y.data.toList = false from by unfold stepB; rw [decide_eq_false (by omega)]; rfl]
    clear hy
    go_enter Tryd.func42, Tryd.ntmps42
    go_wp2_with fail
    go_ret
    exact ⟨rfl, (Below.refl _ _).alloc (Nat.le_refl _) _⟩
  by_cases h4 : 4 ≤ x
  · rw [show stepB x y.data.toList = false from by unfold stepB; rw [decide_eq_false (show ¬ x < 4 by omega)]; simp]
    clear hy
    go_enter Tryd.func42, Tryd.ntmps42
    go_wp2_with fail
    go_ret
    exact ⟨rfl, (Below.refl _ _).alloc (Nat.le_refl _) _⟩
  obtain ⟨k, rfl⟩ : ∃ k : Nat, x = k := ⟨x.toNat, by omega⟩
  have hk : k < 4 := by omega
  rw [show stepB (k : Int) y.data.toList = implS k y.data.toList from by
    unfold stepB
    rw [decide_eq_true (by omega), decide_eq_true (by omega), implS_eq k hk]
    rfl]
  have c1 := fun W => front_any k hk y W hy
  obtain ⟨f, hf⟩ : ∃ n : ByteArray, ⟨⟨frontL k y.data.toList⟩⟩ = n := ⟨_, rfl⟩
  have hfl : frontL k y.data.toList = f.data.toList := by rw [← hf]
  have hfs : f.size ≤ maxLen := by
    have h1 : (frontL k y.data.toList).length ≤ y.data.toList.length := by
      unfold frontL Lib.trimSuffix
      split
      · rw [List.length_take]; omega
      · exact Nat.le_refl _
    rw [hfl] at h1
    have h2 : f.data.toList.length = f.size := by simp
    have h3 : y.data.toList.length = y.size := by simp
    omega
  have c2 := fun W => isL_any f W hfs
  have c3 := fun W => isU_any f W hfs
  have c4 := fun W => name_any k hk y W
  unfold implS
  rw [hfl]
  rw [hf] at c1
  obtain ⟨n, hn⟩ : ∃ n, nmB k = n := ⟨_, rfl⟩
  rw [hn] at c4
  have hq : (f.data.toList == nmL k) = (f.toList == n.toList) := by rw [← hn, ByteArray.toList_eq, ByteArray.toList_eq]; rfl
  have he : y.data.toList.isEmpty = y.toList.isEmpty := by rw [ByteArray.toList_eq]
  rw [hq, he]
  obtain ⟨bl, hbl⟩ : ∃ b, lB f.data.toList = b := ⟨_, rfl⟩
  obtain ⟨bu, hbu⟩ : ∃ b, uB f.data.toList = b := ⟨_, rfl⟩
  rw [hbl] at c2 ⊢
  rw [hbu] at c3 ⊢
  have C1 := hidv c1
  have C2 := hidv c2
  have C3 := hidv c3
  have C4 := hidv c4
  clear c1 c2 c3 c4 hbl hbu hq he hn hfl hf hfs hy h0 h4
  cases hE : y.toList.isEmpty
  · cases bl
    · cases bu
      · go_enter Tryd.func42, Tryd.ntmps42
        go_wp2_with fail
        refine (C1.out _).mono ?_
        rintro e w1 ⟨rfl, hb1⟩
        have HB1 := hidv (((Below.refl w.heap.size w).alloc (Nat.le_refl _) (.cells #[.int .i64 (k : Int), .string y] 33)).trans (hb1.mono (by simp)))
        obtain ⟨x0, x1⟩ := ((Bx.new w 33 #[.int .i64 (k : Int), .string y]).below hb1).two
        clear hb1
        go_wp2_with fail
        refine (C2.out _).mono ?_
        rintro e w2 ⟨rfl, rfl⟩
        go_wp2_with fail
        refine (C3.out _).mono ?_
        rintro e w2 ⟨rfl, rfl⟩
        go_wp2_with fail
        go_ret
        exact ⟨rfl, HB1.out⟩
      · obtain ⟨b, hb⟩ : ∃ b, (f.toList == n.toList) = b := ⟨_, rfl⟩
        rw [hb]
        go_enter Tryd.func42, Tryd.ntmps42
        go_wp2_with fail
        refine (C1.out _).mono ?_
        rintro e w1 ⟨rfl, hb1⟩
        have HB1 := hidv (((Below.refl w.heap.size w).alloc (Nat.le_refl _) (.cells #[.int .i64 (k : Int), .string y] 33)).trans (hb1.mono (by simp)))
        have HX1 := hidv ((Bx.new w 33 #[.int .i64 (k : Int), .string y]).below hb1)
        obtain ⟨x0, x1⟩ := HX1.out.two
        clear hb1
        go_wp2_with fail
        refine (C2.out _).mono ?_
        rintro e w2 ⟨rfl, rfl⟩
        go_wp2_with fail
        refine (C3.out _).mono ?_
        rintro e w2 ⟨rfl, rfl⟩
        go_wp2_with fail
        refine (C4.out _).mono ?_
        rintro e w3 ⟨rfl, hb3⟩
        have HB3 := hidv (below_on HB1.out hb3)
        clear hb3 x0 x1
        cases b
        all_goals
          go_wp2_with fail
          go_ret
          exact ⟨rfl, HB3.out⟩
    · go_enter Tryd.func42, Tryd.ntmps42
      go_wp2_with fail
      refine (C1.out _).mono ?_
      rintro e w1 ⟨rfl, hb1⟩
      have HB1 := hidv (((Below.refl w.heap.size w).alloc (Nat.le_refl _) (.cells #[.int .i64 (k : Int), .string y] 33)).trans (hb1.mono (by simp)))
      obtain ⟨x0, x1⟩ := ((Bx.new w 33 #[.int .i64 (k : Int), .string y]).below hb1).two
      clear hb1
      go_wp2_with fail
      refine (C2.out _).mono ?_
      rintro e w2 ⟨rfl, rfl⟩
      go_wp2_with fail
      go_ret
      exact ⟨rfl, HB1.out⟩
  · go_enter Tryd.func42, Tryd.ntmps42
    go_wp2_with fail
    refine (C1.out _).mono ?_
    rintro e w1 ⟨rfl, hb1⟩
    have HB1 := hidv (((Below.refl w.heap.size w).alloc (Nat.le_refl _) (.cells #[.int .i64 (k : Int), .string y] 33)).trans (hb1.mono (by simp)))
    obtain ⟨x0, x1⟩ := ((Bx.new w 33 #[.int .i64 (k : Int), .string y]).below hb1).two
    clear hb1
    go_wp2_with fail
    go_ret
    exact ⟨rfl, HB1.out⟩

end Go.Proofs.YtfnlikjdfihggaaDoor
