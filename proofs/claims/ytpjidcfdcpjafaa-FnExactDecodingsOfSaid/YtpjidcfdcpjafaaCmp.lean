/-
  The order of words: cmp.Compare at numbers and at texts, cmp.Or, the program's compareWords, the model's l07Sooner: contracts.
-/
import Derived.Test.YtpjidcfdcpjafaaRow
import Derived.Deep.QuietTactic
import Derived.BigQuiet
namespace Go.Proofs.Ytpjidcfdcpjafaa
open Go.RowKit Go
set_option linter.unusedVariables false

theorem nanI_any (x : Int) (w : World) : Calls Try.prog 123 #[.int .i64 x] w fun e w' => e = .returned (.bool false) ∧ w = w' := by
  go_enter Try.func123, Try.ntmps123
  go_wp2
  go_ret
  exact ⟨rfl, rfl⟩
theorem nanS_any (x : ByteArray) (w : World) : Calls Try.prog 124 #[.string x] w fun e w' => e = .returned (.bool false) ∧ w = w' := by
  go_enter Try.func124, Try.ntmps124
  go_wp2
  go_ret
  exact ⟨rfl, rfl⟩

theorem compareI_any (x y : Int) (w : World) : Calls Try.prog 120 #[.int .i64 x, .int .i64 y] w fun e w' => e = .returned (.int .i64 (if x < y then -1 else if y < x then 1 else 0)) ∧ w = w' := by
  rcases (show x < y ∨ (¬ x < y ∧ y < x) ∨ (¬ x < y ∧ ¬ y < x) by omega) with h | ⟨h1, h⟩ | ⟨h1, h⟩
  · rw [if_pos h]
    go_enter Try.func120, Try.ntmps120
    go_wp2_with (go_at_call 123; refine (nanI_any _ _).mono ?_; rintro e w' ⟨rfl, rfl⟩)
    go_ret
    exact ⟨rfl, rfl⟩
  · rw [if_neg h1, if_pos h]
    go_enter Try.func120, Try.ntmps120
    go_wp2_with (go_at_call 123; refine (nanI_any _ _).mono ?_; rintro e w' ⟨rfl, rfl⟩)
    go_ret
    exact ⟨rfl, rfl⟩
  · rw [if_neg h1, if_neg h]
    go_enter Try.func120, Try.ntmps120
    go_wp2_with (go_at_call 123; refine (nanI_any _ _).mono ?_; rintro e w' ⟨rfl, rfl⟩)
    go_ret
    exact ⟨rfl, rfl⟩

def cmpB (x y : ByteArray) : Int := if Op.bytesLess x.toList y.toList then -1 else if x.toList == y.toList then 0 else 1
/-- A word comes before another one, by its length, then as a text. -/
def soonB (x y : ByteArray) : Bool := if x.size = y.size then Op.bytesLess x.toList y.toList else decide (x.size < y.size)
def cmpW (x y : ByteArray) : Int := if x.size < y.size then -1 else if y.size < x.size then 1 else cmpB x y
theorem cmpB_range (x y : ByteArray) : -1 ≤ cmpB x y ∧ cmpB x y ≤ 1 := by
  unfold cmpB
  split
  · omega
  · split <;> omega
theorem cmpW_range (x y : ByteArray) : -1 ≤ cmpW x y ∧ cmpW x y ≤ 1 := by
  unfold cmpW
  split
  · omega
  · split
    · omega
    · exact cmpB_range x y
theorem cmpW_neg (x y : ByteArray) : decide (0 ≤ cmpW x y) = !(soonB x y) := by
  unfold cmpW soonB
  rcases Nat.lt_trichotomy x.size y.size with h | h | h
  · rw [if_pos h, if_neg (by omega), decide_eq_true h]; rfl
  · rw [if_neg (by omega), if_neg (by omega), if_pos h]
    unfold cmpB
    cases Op.bytesLess x.toList y.toList
    · simp only [Bool.false_eq_true, if_false]
      split <;> rfl
    · rfl
  · have hd : decide (x.size < y.size) = false := decide_eq_false (by omega)
    rw [if_neg (by omega), if_pos h, if_neg (by omega), hd]; rfl

theorem compareS_any (x y : ByteArray) (w : World) : Calls Try.prog 121 #[.string x, .string y] w fun e w' => e = .returned (.int .i64 (cmpB x y)) ∧ w = w' := by
  unfold cmpB
  cases hb : Op.bytesLess x.toList y.toList
  · cases he : (x.toList == y.toList)
    · go_enter Try.func121, Try.ntmps121
      go_wp2_with (go_at_call 124; refine (nanS_any _ _).mono ?_; rintro e w' ⟨rfl, rfl⟩)
      go_ret
      exact ⟨rfl, rfl⟩
    · go_enter Try.func121, Try.ntmps121
      go_wp2_with (go_at_call 124; refine (nanS_any _ _).mono ?_; rintro e w' ⟨rfl, rfl⟩)
      go_ret
      exact ⟨rfl, rfl⟩
  · go_enter Try.func121, Try.ntmps121
    go_wp2_with (go_at_call 124; refine (nanS_any _ _).mono ?_; rintro e w' ⟨rfl, rfl⟩)
    go_ret
    exact ⟨rfl, rfl⟩

theorem sooner_any (x y : ByteArray) (w : World) : Calls Try.prog 89 #[.string x, .string y] w fun e w' => e = .returned (.bool (soonB x y)) ∧ w = w' := by
  unfold soonB
  by_cases h : x.size = y.size
  · have hn : ((x.size : Int) != (y.size : Int)) = false := by rw [h]; simp
    rw [if_pos h]
    go_enter Try.func89, Try.ntmps89
    go_wp2
    go_ret
    exact ⟨rfl, rfl⟩
  · have hn : ((x.size : Int) != (y.size : Int)) = true := by rw [bne_iff_ne]; omega
    rw [if_neg h]
    go_enter Try.func89, Try.ntmps89
    go_wp2
    go_ret
    exact ⟨rfl, rfl⟩

/-- cmp.Or at two numbers. -/
theorem orI_any (v : Value) (x y : Int) (B : Nat) (w : World) (hv : Row w B v [.int .i64 x, .int .i64 y]) : Calls Try.prog 119 #[v] w fun e w' => e = .returned (.int .i64 (if x = 0 then y else x)) ∧ w = w' := by
  obtain ⟨A, c, rfl, hA⟩ := hv
  obtain ⟨g, o, rfl, hg, hc⟩ := hA (by simp)
  have c0 : w.cell? ⟨g, o, none⟩ = some (.int .i64 x) := hc 0 _ rfl
  have c1 : w.cell? ⟨g, o + 1, none⟩ = some (.int .i64 y) := hc 1 _ rfl
  clear hc hA hg
  by_cases hx : x = 0
  · rw [if_pos hx]
    subst hx
    by_cases hy : y = 0
    · subst hy
      go_enter Try.func119, Try.ntmps119
      go_wp2
      refine wp_loop_rounds 3 ?_
      rw [rounds_succ]
      go_wp2
      rw [rounds_succ]
      go_wp2
      rw [rounds_succ]
      go_wp2
      go_ret
      exact ⟨rfl, rfl⟩
    · have hn : (y != 0) = true := by rw [bne_iff_ne]; exact hy
      go_enter Try.func119, Try.ntmps119
      go_wp2
      refine wp_loop_rounds 2 ?_
      rw [rounds_succ]
      go_wp2
      rw [rounds_succ]
      go_wp2
      go_ret
      exact ⟨rfl, rfl⟩
  · have hn : (x != 0) = true := by rw [bne_iff_ne]; exact hx
    rw [if_neg hx]
    go_enter Try.func119, Try.ntmps119
    go_wp2
    refine wp_loop_rounds 1 ?_
    rw [rounds_succ]
    go_wp2
    go_ret
    exact ⟨rfl, rfl⟩

set_option maxHeartbeats 800000 in
theorem compareWords_any (x y : ByteArray) (w : World) (hx : x.size ≤ maxLen) (hy : y.size ≤ maxLen) : Calls Try.prog 111 #[.string x, .string y] w fun e w' => e = .returned (.int .i64 (cmpW x y)) ∧ Below w.heap.size w w' := by
  have C1 := hidv (fun W => compareI_any (x.size : Int) (y.size : Int) W)
  have C2 := hidv (fun W => compareS_any x y W)
  obtain ⟨a, ha⟩ : ∃ a, (if (x.size : Int) < y.size then (-1 : Int) else if (y.size : Int) < x.size then 1 else 0) = a := ⟨_, rfl⟩
  obtain ⟨b, hb⟩ : ∃ a, cmpB x y = a := ⟨_, rfl⟩
  have hr : cmpW x y = if a = 0 then b else a := by
    unfold cmpW
    rw [← ha, ← hb]
    rcases Nat.lt_trichotomy x.size y.size with h | h | h
    · have e1 : (x.size : Int) < y.size := by omega
      rw [if_pos h, if_pos e1]; rfl
    · have e1 : ¬ x.size < y.size := by omega
      have e2 : ¬ y.size < x.size := by omega
      have e3 : ¬ (x.size : Int) < y.size := by omega
      have e4 : ¬ (y.size : Int) < x.size := by omega
      rw [if_neg e1, if_neg e2, if_neg e3, if_neg e4, if_pos rfl]
    · have e1 : ¬ x.size < y.size := by omega
      have e3 : ¬ (x.size : Int) < y.size := by omega
      have e4 : (y.size : Int) < x.size := by omega
      rw [if_neg e1, if_pos h, if_neg e3, if_pos e4]; rfl
  rw [hr]
  rw [ha] at C1
  rw [hb] at C2
  have C3 := hidv (fun v B W hv => orI_any v a b B W hv)
  obtain ⟨c, hc⟩ : ∃ c, (if a = 0 then b else a) = c := ⟨_, rfl⟩
  rw [hc] at C3 ⊢
  clear ha hb hr hc
  unfold maxLen at hx hy
  go_enter Try.func111, Try.ntmps111
  go_wp2_with (first | (go_at_call 120; refine (C1.out _).mono ?_; rintro e w' ⟨rfl, rfl⟩) | (go_at_call 121; refine (C2.out _).mono ?_; rintro e w' ⟨rfl, rfl⟩))
  have hrow : Row (w.alloc (.cells #[.int .i64 a, .int .i64 b] 3)) (w.heap.size + 1) (.slice (some ⟨w.heap.size, 0, none⟩) 2 2) [.int .i64 a, .int .i64 b] := by
    refine ⟨_, 2, rfl, fun _ => ⟨w.heap.size, 0, rfl, by omega, fun i x hi => ?_⟩⟩
    rw [Nat.zero_add, (Bx.new w 3 #[.int .i64 a, .int .i64 b]).cell i]
    rw [← Array.getElem?_toList]
    exact hi
  refine (C3.out _ _ _ hrow).mono ?_
  rintro e w' ⟨rfl, rfl⟩
  go_wp2_with fail
  go_ret
  exact ⟨rfl, (Below.refl _ _).alloc (Nat.le_refl _) _⟩

end Go.Proofs.Ytpjidcfdcpjafaa
