/-
  Whether a number is among others (program and model); the model's map of a word: contracts.
-/
import Derived.Test.YtjoleenehdfkkaaMw
namespace Go.Proofs.Ytjoleenehdfkkaa
open Go.RowKit Go
set_option linter.unusedVariables false

theorem Try.infoI5 : (Try.prog.info? 2).map (fun i => (i.zero, i.size, i.bytes)) = some (some (.int .i64 0), 1, 8) := by kernel_rfl
theorem one_new5 (w : World) (x : Value) (t : TypeId) : ∀ (j : Nat) (u : Value), [x][j]? = some u → (w.alloc (.cells #[x] t)).cell? ((⟨w.heap.size, 0, none⟩ : Addr).add j) = some u := by
  intro j u hj
  match j with
  | 0 =>
    simp at hj
    subst hj
    exact (Bx.new w t #[x]).cell 0
  | j + 1 => simp at hj
theorem one_cell5 (n : Int) : ∀ u : Value, u ∈ [Value.int .i64 n] → u.oneCell' = true := by
  intro u hu
  obtain rfl : u = _ := by simpa using hu
  rfl
theorem grow5 {w wr w1 : World} {e : TypeId} {n : Nat} {v : Value} {xs : List Value} {o : Obj} (hb : Below w.heap.size w wr) (hown : wr.ownsRow w.heap.size e 1 v n xs)
    (hg : (wr.alloc o).grownBy w1 v.ownBlock) : Below w.heap.size w w1 := by
  have h1 : Below w.heap.size w (wr.alloc o) := hb.alloc hb.size o
  exact h1.grown hg h1.size (fun k hk => (hown.lt k hk).1)

set_option maxHeartbeats 400000 in
theorem has5_any (v : Value) (xs : List Int) (y : Int) (B : Nat) (w : World) (hv : Row w B v (ints xs)) (hx : xs.length ≤ maxLen) (d : Bool) (hd : d = true ↔ y ∈ xs) :
    Calls Try.prog 66 #[v, .int .i64 y] w fun e w' => e = .returned (.bool d) ∧ w' = w := by
  unfold maxLen at hx
  obtain ⟨A, c, rfl, hA⟩ := hv
  rw [show (ints xs).length = xs.length by simp [ints]] at hA ⊢
  obtain ⟨m, hm⟩ : ∃ m, xs.length = m := ⟨_, rfl⟩
  have HA := hidv hA
  have HD := hidv hd
  rw [hm] at hx ⊢
  have HM := hidv hm
  clear hA hd hm
  go_enter Try.func66, Try.ntmps66
  go_wp2
  go_loop [5] (fun i => ∃ k : Nat, k ≤ m ∧ i = .int .i64 k ∧ Hid (∀ j (h : j < xs.length), j < k → xs[j] ≠ y)) (fun i => m - (intOf i).toNat)
  case atStart => exact ⟨0, by omega, rfl, hidv (fun j h hj => by omega)⟩
  case round =>
    obtain ⟨k, hk, rfl, hall⟩ := hrel
    by_cases hlt : k < m
    · have hkx : k < xs.length := by have := HM.out; omega
      obtain ⟨g, o, rfl, hg, hc⟩ := HA.out (by have := HM.out; omega)
      have c1 := hc k _ (map_int_at hkx)
      obtain ⟨x, hx1⟩ : ∃ x, xs[k] = x := ⟨_, rfl⟩
      rw [hx1] at c1
      have HX := hidv hx1
      clear hx1 hc
      by_cases h0 : x = y
      · subst h0
        obtain rfl : d = true := iff_yes HD.out (by rw [← HX.out]; exact List.getElem_mem _)
        go_wp2
        go_ret
        exact ⟨rfl, rfl⟩
      · have hall2 : ∀ j (h : j < xs.length), j < k + 1 → xs[j] ≠ y := fun j h hj => by
          rcases Nat.lt_or_ge j k with h2 | h2
          · exact hall.out j h h2
          · obtain rfl : j = k := by omega
            rw [HX.out]; exact h0
        have HALL := hidv hall2
        have hne : (x == y) = false := by simpa using h0
        clear hall2 h0
        go_wp2
        go_round
        case rel => exact ⟨k + 1, by omega, by go_num, HALL⟩
        case measure => simp [intOf]; omega
    · obtain rfl : d = false := iff_no HD.out (fun h => by
        obtain ⟨j, hj, he⟩ := List.getElem_of_mem h
        exact hall.out j hj (by have := HM.out; omega) he)
      go_wp2
      go_ret
      exact ⟨rfl, rfl⟩

set_option maxHeartbeats 400000 in
theorem index5_any (v : Value) (xs : List Int) (y : Int) (B : Nat) (w : World) (hv : Row w B v (ints xs)) (hx : xs.length ≤ maxLen) :
    Calls Try.prog 70 #[v, .int .i64 y] w fun e w' => ∃ i : Int, e = .returned (.int .i64 i) ∧ (0 ≤ i ↔ y ∈ xs) ∧ -1 ≤ i ∧ w' = w := by
  unfold maxLen at hx
  obtain ⟨A, c, rfl, hA⟩ := hv
  rw [show (ints xs).length = xs.length by simp [ints]] at hA ⊢
  obtain ⟨m, hm⟩ : ∃ m, xs.length = m := ⟨_, rfl⟩
  have HA := hidv hA
  rw [hm] at hx ⊢
  have HM := hidv hm
  clear hA hm
  go_enter Try.func70, Try.ntmps70
  go_wp2
  go_loop [8] (fun i => ∃ k : Nat, k ≤ m ∧ i = .int .i64 k ∧ Hid (∀ j (h : j < xs.length), j < k → xs[j] ≠ y)) (fun i => m - (intOf i).toNat)
  case atStart => exact ⟨0, by omega, rfl, hidv (fun j h hj => by omega)⟩
  case round =>
    obtain ⟨k, hk, rfl, hall⟩ := hrel
    by_cases hlt : k < m
    · have hkx : k < xs.length := by have := HM.out; omega
      obtain ⟨g, o, rfl, hg, hc⟩ := HA.out (by have := HM.out; omega)
      have c1 := hc k _ (map_int_at hkx)
      obtain ⟨x, hx1⟩ : ∃ x, xs[k] = x := ⟨_, rfl⟩
      rw [hx1] at c1
      have HX := hidv hx1
      clear hx1 hc
      by_cases h0 : x = y
      · subst h0
        go_wp2
        go_ret
        exact ⟨_, rfl, ⟨fun _ => by rw [← HX.out]; exact List.getElem_mem _, fun _ => by omega⟩, by omega, rfl⟩
      · have hall2 : ∀ j (h : j < xs.length), j < k + 1 → xs[j] ≠ y := fun j h hj => by
          rcases Nat.lt_or_ge j k with h2 | h2
          · exact hall.out j h h2
          · obtain rfl : j = k := by omega
            rw [HX.out]; exact h0
        have HALL := hidv hall2
        have hne : (y == x) = false := by simpa using fun h => h0 h.symm
        clear hall2 h0
        go_wp2
        go_round
        case rel => exact ⟨k + 1, by omega, by go_num, HALL⟩
        case measure => simp [intOf]; omega
    · go_wp2
      go_ret
      refine ⟨_, rfl, ⟨fun h => by omega, fun h => ?_⟩, by omega, rfl⟩
      obtain ⟨j, hj, he⟩ := List.getElem_of_mem h
      exact absurd he (hall.out j hj (by have := HM.out; omega))

theorem contains5_any (v : Value) (xs : List Int) (y : Int) (B : Nat) (w : World) (hv : Row w B v (ints xs)) (hx : xs.length ≤ maxLen) (d : Bool) (hd : d = true ↔ y ∈ xs) :
    Calls Try.prog 50 #[v, .int .i64 y] w fun e w' => e = .returned (.bool d) ∧ w' = w := by
  have C := hidv (index5_any v xs y B w hv hx)
  obtain ⟨A, c, rfl, hA⟩ := hv
  have HD := hidv hd
  clear hd hA
  go_enter Try.func50, Try.ntmps50
  go_wp2_with fail
  refine C.out.mono ?_
  rintro e w1 ⟨i, rfl, hi, hi1, hw1⟩
  obtain rfl : w = w1 := hw1.symm
  have HI := hidv hi
  clear hi
  go_wp2_with fail
  go_ret
  refine ⟨ret_bool ?_, rfl⟩
  by_cases h : 0 ≤ i
  · rw [decide_eq_true h]; exact (iff_yes HD.out (HI.out.mp h)).symm
  · rw [decide_eq_false h]; exact (iff_no HD.out (fun h2 => h (HI.out.mpr h2))).symm

end Go.Proofs.Ytjoleenehdfkkaa
