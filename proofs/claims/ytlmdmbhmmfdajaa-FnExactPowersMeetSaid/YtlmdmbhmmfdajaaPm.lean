/-
  PowersMeet, of the program and of the model: contracts, and the law's walk.
-/
import Derived.Test.YtlmdmbhmmfdajaaWalkW
import Derived.Test.YtlmdmbhmmfdajaaAb
import Derived.Test.YtlmdmbhmmfdajaaShelf
import Derived.Below
namespace Go.Proofs.Ytlmdmbhmmfdajaa
open Go.RowKit Go
set_option linter.unusedVariables false

/-- A word several times. -/
def timesB (s : ByteArray) (n : Nat) : ByteArray := ⟨(Lib.repeatL s.data.toList n).toArray⟩
theorem timesB_succ (s : ByteArray) (n : Nat) : timesB s n ++ s = timesB s (n + 1) := by
  apply ByteArray.ext
  apply Array.toList_inj.mp
  simp [timesB, Lib.repeatL_add, Lib.repeatL_one]
theorem timesB_size (s : ByteArray) (n : Nat) : (timesB s n).size = n * s.size := by
  show (Lib.repeatL s.data.toList n).toArray.size = _
  simp [Lib.repeatL_length]

set_option maxHeartbeats 400000 in
theorem times_any (s : ByteArray) (n : Nat) (w : World) (hs : s.size ≤ 1000) (hn : n ≤ 1000000) :
    Calls Try.prog 45 #[.string s, .int .i64 n] w fun e w' => e = .returned (.string (timesB s n)) ∧ w = w' := by
  go_enter Try.func45, Try.ntmps45
  go_wp2
  go_loop [5, 6] (fun o i => ∃ k : Nat, k ≤ n ∧ i = .int .i64 k ∧ o = .string (timesB s k)) (fun _ i => n - (intOf i).toNat)
  case atStart => exact ⟨0, by omega, rfl, rfl⟩
  case round =>
    obtain ⟨k, hk, rfl, rfl⟩ := hrel
    by_cases hlt : k < n
    · have h1 := timesB_size s k
      have h2 : k * s.size ≤ 1000000 * 1000 := Nat.mul_le_mul (by omega) hs
      have h3 := timesB_succ s k
      obtain ⟨o, ho⟩ : ∃ o, timesB s k = o := ⟨_, rfl⟩
      rw [ho] at h1 h3 ⊢
      have H3 := hidv h3
      have h4 : ¬ (9223372036854775807 < o.size + s.size) := by omega
      clear h1 h2 h3 ho
      go_wp2
      go_round
      case rel => exact ⟨k + 1, by omega, by go_num, by rw [H3.out]⟩
      case measure => simp [intOf]; omega
    · obtain rfl : k = n := by omega
      go_wp2
      go_ret
      exact ⟨rfl, rfl⟩

theorem sizeP {u : ByteArray} (h : Wd.wordB u.data.toList = true) : u.size ≤ 60 := by
  have := Wd.wordB_len h
  simpa using this
theorem row_three (w : World) (e : TypeId) (i j k : Int) : Row (w.alloc (.cells #[.int .i64 i, .int .i64 j, .int .i64 k] e)) (w.heap.size + 1) (.slice (some ⟨w.heap.size, 0, none⟩) 3 3) (ints [i, j, k]) := by
  refine ⟨_, 3, rfl, fun _ => ⟨w.heap.size, 0, rfl, by omega, fun n x hx => ?_⟩⟩
  have hb := Bx.new w e #[.int .i64 i, .int .i64 j, .int .i64 k]
  rcases n with _ | _ | _ | n
  · simp [ints] at hx; subst hx; exact hb.cell 0
  · simp [ints] at hx; subst hx; exact hb.cell 1
  · simp [ints] at hx; subst hx; exact hb.cell 2
  · simp [ints] at hx

set_option maxHeartbeats 400000 in
theorem implPm_bad (x y z : ByteArray) (i j k : Int) (w : World) (sx : x.size ≤ maxLen) (sy : y.size ≤ maxLen) (sz : z.size ≤ maxLen) (h : (Wd.wordB x.data.toList && Wd.wordB y.data.toList && Wd.wordB z.data.toList) = false) :
    Calls Try.prog 25 #[.string x, .string y, .string z, .int .i64 i, .int .i64 j, .int .i64 k] w fun e w' => e = .returned (.tuple #[.bool false, .int .i64 1]) ∧ Below w.heap.size w w' := by
  have c0 := implValidWord_any x w sx
  have c1 := implValidWord_any y w sy
  have c2 := implValidWord_any z w sz
  cases h0 : Wd.wordB x.data.toList
  · rw [h0] at c0
    clear h
    clear h0
    go_enter Try.func25, Try.ntmps25
    go_wp2_with fail
    refine c0.mono ?_
    rintro e w' ⟨rfl, rfl⟩
    go_wp2
    go_ret2
    exact ⟨rfl, Below.refl _ _⟩
  · rw [h0] at c0
    cases h1 : Wd.wordB y.data.toList
    · rw [h1] at c1
      clear h
      clear h0
      clear h1
      go_enter Try.func25, Try.ntmps25
      go_wp2_with fail
      refine c0.mono ?_
      rintro e w' ⟨rfl, rfl⟩
      go_wp2_with fail
      refine c1.mono ?_
      rintro e w' ⟨rfl, rfl⟩
      go_wp2
      go_ret2
      exact ⟨rfl, Below.refl _ _⟩
    · rw [h1] at c1
      have h2 : Wd.wordB z.data.toList = false := by simpa [h0, h1] using h
      rw [h2] at c2
      clear h
      clear h0
      clear h1
      clear h2
      go_enter Try.func25, Try.ntmps25
      go_wp2_with fail
      refine c0.mono ?_
      rintro e w' ⟨rfl, rfl⟩
      go_wp2_with fail
      refine c1.mono ?_
      rintro e w' ⟨rfl, rfl⟩
      go_wp2_with fail
      refine c2.mono ?_
      rintro e w' ⟨rfl, rfl⟩
      go_wp2
      go_ret2
      exact ⟨rfl, Below.refl _ _⟩

set_option maxHeartbeats 400000 in
theorem implPm_range (x y z : ByteArray) (i j k : Int) (w : World) (sx : x.size ≤ 60) (sy : y.size ≤ 60) (sz : z.size ≤ 60) (hx : Wd.wordB x.data.toList = true) (hy : Wd.wordB y.data.toList = true) (hz : Wd.wordB z.data.toList = true) (hd : ¬ InN 61 [i, j, k]) :
    Calls Try.prog 25 #[.string x, .string y, .string z, .int .i64 i, .int .i64 j, .int .i64 k] w fun e w' => e = .returned (.tuple #[.bool false, .int .i64 2]) ∧ Below w.heap.size w w' := by
  have c0 := implValidWord_any x w (by unfold maxLen; omega)
  rw [hx] at c0
  have c1 := implValidWord_any y w (by unfold maxLen; omega)
  rw [hy] at c1
  have c2 := implValidWord_any z w (by unfold maxLen; omega)
  rw [hz] at c2
  clear hx
  clear hy
  clear hz
  have HD := hidv hd
  clear hd
  go_enter Try.func25, Try.ntmps25
  go_wp2_with fail
  refine c0.mono ?_
  rintro e w' ⟨rfl, rfl⟩
  go_wp2_with fail
  refine c1.mono ?_
  rintro e w' ⟨rfl, rfl⟩
  go_wp2_with fail
  refine c2.mono ?_
  rintro e w' ⟨rfl, rfl⟩
  go_wp2_with fail
  have hbl : Below w.heap.size w (w.alloc (.cells #[.int .i64 i, .int .i64 j, .int .i64 k] 2)) := (Below.refl _ _).alloc (Nat.le_refl _) _
  have hrow := row_three w 2 i j k
  obtain ⟨W, hW⟩ : ∃ W, w.alloc (.cells #[.int .i64 i, .int .i64 j, .int .i64 k] 2) = W := ⟨_, rfl⟩
  rw [hW] at hbl hrow ⊢
  clear hW
  refine (areBelow_any _ [i, j, k] _ 61 W hrow (by simp [maxLen]) false ⟨fun h => by simp at h, fun h => absurd h HD.out⟩).mono ?_
  rintro e w1 ⟨rfl, rfl⟩
  clear hrow
  go_wp2
  go_ret2
  exact ⟨rfl, hbl⟩

set_option maxHeartbeats 400000 in
theorem implPm_ok (x y z : ByteArray) (i j k : Nat) (w : World) (sx : x.size ≤ 60) (sy : y.size ≤ 60) (sz : z.size ≤ 60) (hx : Wd.wordB x.data.toList = true) (hy : Wd.wordB y.data.toList = true) (hz : Wd.wordB z.data.toList = true) (hi : i ≤ 60) (hj : j ≤ 60) (hk : k ≤ 60) (b : Bool) (hb : ((timesB x i ++ timesB y j).toList == (timesB z k).toList) = b) :
    Calls Try.prog 25 #[.string x, .string y, .string z, .int .i64 i, .int .i64 j, .int .i64 k] w fun e w' => e = .returned (.tuple #[.bool b, .int .i64 0]) ∧ Below w.heap.size w w' := by
  have c0 := implValidWord_any x w (by unfold maxLen; omega)
  rw [hx] at c0
  have c1 := implValidWord_any y w (by unfold maxLen; omega)
  rw [hy] at c1
  have c2 := implValidWord_any z w (by unfold maxLen; omega)
  rw [hz] at c2
  clear hx
  clear hy
  clear hz
  have m1 : i * x.size ≤ 60 * 60 := Nat.mul_le_mul hi sx
  have m2 : j * y.size ≤ 60 * 60 := Nat.mul_le_mul hj sy
  have m3 : k * z.size ≤ 60 * 60 := Nat.mul_le_mul hk sz
  have z1 := timesB_size x i
  have z2 := timesB_size y j
  have z3 := timesB_size z k
  have r1 := fun W => Try.strings_Repeat x i W (by omega) (by rw [Nat.mul_comm]; omega)
  have r2 := fun W => Try.strings_Repeat y j W (by omega) (by rw [Nat.mul_comm]; omega)
  have r3 := fun W => Try.strings_Repeat z k W (by omega) (by rw [Nat.mul_comm]; omega)
  rw [show (({ data := (Lib.repeatL x.data.toList i).toArray } : ByteArray)) = timesB x i from rfl] at r1
  rw [show (({ data := (Lib.repeatL y.data.toList j).toArray } : ByteArray)) = timesB y j from rfl] at r2
  rw [show (({ data := (Lib.repeatL z.data.toList k).toArray } : ByteArray)) = timesB z k from rfl] at r3
  obtain ⟨u1, h1⟩ : ∃ u, timesB x i = u := ⟨_, rfl⟩
  obtain ⟨u2, h2⟩ : ∃ u, timesB y j = u := ⟨_, rfl⟩
  obtain ⟨u3, h3⟩ : ∃ u, timesB z k = u := ⟨_, rfl⟩
  rw [h1] at r1 z1 hb
  rw [h2] at r2 z2 hb
  rw [h3] at r3 z3 hb
  have hu : ¬ (9223372036854775807 < u1.size + u2.size) := by omega
  have R1 := hidv r1
  have R2 := hidv r2
  have R3 := hidv r3
  clear r1 r2 r3 h1 h2 h3 z1 z2 z3 m1 m2 m3
  go_enter Try.func25, Try.ntmps25
  go_wp2_with fail
  refine c0.mono ?_
  rintro e w' ⟨rfl, rfl⟩
  go_wp2_with fail
  refine c1.mono ?_
  rintro e w' ⟨rfl, rfl⟩
  go_wp2_with fail
  refine c2.mono ?_
  rintro e w' ⟨rfl, rfl⟩
  go_wp2_with fail
  have hbl : Below w.heap.size w (w.alloc (.cells #[.int .i64 i, .int .i64 j, .int .i64 k] 2)) := (Below.refl _ _).alloc (Nat.le_refl _) _
  have hrow := row_three w 2 i j k
  obtain ⟨W, hW⟩ : ∃ W, w.alloc (.cells #[.int .i64 i, .int .i64 j, .int .i64 k] 2) = W := ⟨_, rfl⟩
  rw [hW] at hbl hrow ⊢
  clear hW
  refine (areBelow_any _ [(i : Int), j, k] _ 61 W hrow (by simp [maxLen]) true ⟨fun _ n hn => ?_, fun _ => rfl⟩).mono ?_
  · rcases n with _ | _ | _ | n
    · show (0 : Int) ≤ i ∧ (i : Int) < 61; omega
    · show (0 : Int) ≤ j ∧ (j : Int) < 61; omega
    · show (0 : Int) ≤ k ∧ (k : Int) < 61; omega
    · exfalso; have hn3 : n + 1 + 1 + 1 < 3 := hn; omega
  rintro e w1 ⟨rfl, rfl⟩
  clear hrow
  go_wp2_with fail
  refine (R1.out _).mono ?_
  rintro e w2 ⟨rfl, hb2⟩
  go_wp2_with fail
  refine (R2.out _).mono ?_
  rintro e w3 ⟨rfl, hb3⟩
  go_wp2_with fail
  refine (R3.out _).mono ?_
  rintro e w4 ⟨rfl, hb4⟩
  have HBE := hidv (below_on (below_on (below_on hbl hb2) hb3) hb4)
  clear hb2 hb3 hb4
  go_wp2
  go_ret2
  exact ⟨rfl, HBE.out⟩

set_option maxHeartbeats 400000 in
theorem specPm_bad (x y z : ByteArray) (i j k : Int) (w : World) (sx : x.size ≤ maxLen) (sy : y.size ≤ maxLen) (sz : z.size ≤ maxLen) (h : (Wd.wordB x.data.toList && Wd.wordB y.data.toList && Wd.wordB z.data.toList) = false) :
    Calls Try.prog 24 #[.string x, .string y, .string z, .int .i64 i, .int .i64 j, .int .i64 k] w fun e w' => e = .returned (.tuple #[.bool false, .int .i64 1]) ∧ Below w.heap.size w w' := by
  have c0 := specWord_any x w sx
  have c1 := specWord_any y w sy
  have c2 := specWord_any z w sz
  cases h0 : Wd.wordB x.data.toList
  · rw [h0] at c0
    clear h
    clear h0
    go_enter Try.func24, Try.ntmps24
    go_wp2_with fail
    refine c0.mono ?_
    rintro e w' ⟨rfl, rfl⟩
    go_wp2
    go_ret2
    exact ⟨rfl, Below.refl _ _⟩
  · rw [h0] at c0
    cases h1 : Wd.wordB y.data.toList
    · rw [h1] at c1
      clear h
      clear h0
      clear h1
      go_enter Try.func24, Try.ntmps24
      go_wp2_with fail
      refine c0.mono ?_
      rintro e w' ⟨rfl, rfl⟩
      go_wp2_with fail
      refine c1.mono ?_
      rintro e w' ⟨rfl, rfl⟩
      go_wp2
      go_ret2
      exact ⟨rfl, Below.refl _ _⟩
    · rw [h1] at c1
      have h2 : Wd.wordB z.data.toList = false := by simpa [h0, h1] using h
      rw [h2] at c2
      clear h
      clear h0
      clear h1
      clear h2
      go_enter Try.func24, Try.ntmps24
      go_wp2_with fail
      refine c0.mono ?_
      rintro e w' ⟨rfl, rfl⟩
      go_wp2_with fail
      refine c1.mono ?_
      rintro e w' ⟨rfl, rfl⟩
      go_wp2_with fail
      refine c2.mono ?_
      rintro e w' ⟨rfl, rfl⟩
      go_wp2
      go_ret2
      exact ⟨rfl, Below.refl _ _⟩

set_option maxHeartbeats 400000 in
theorem specPm_range (x y z : ByteArray) (i j k : Int) (w : World) (sx : x.size ≤ 60) (sy : y.size ≤ 60) (sz : z.size ≤ 60) (hx : Wd.wordB x.data.toList = true) (hy : Wd.wordB y.data.toList = true) (hz : Wd.wordB z.data.toList = true) (hd : ¬ InN 61 [i, j, k]) :
    Calls Try.prog 24 #[.string x, .string y, .string z, .int .i64 i, .int .i64 j, .int .i64 k] w fun e w' => e = .returned (.tuple #[.bool false, .int .i64 2]) ∧ Below w.heap.size w w' := by
  have c0 := specWord_any x w (by unfold maxLen; omega)
  rw [hx] at c0
  have c1 := specWord_any y w (by unfold maxLen; omega)
  rw [hy] at c1
  have c2 := specWord_any z w (by unfold maxLen; omega)
  rw [hz] at c2
  clear hx
  clear hy
  clear hz
  have c3 := fun v => l00In_any i 0 60 w v
  have c4 := fun v => l00In_any j 0 60 w v
  have c5 := fun v => l00In_any k 0 60 w v
  by_cases h1 : 0 ≤ i ∧ i ≤ 60
  · have C3 := hidv (c3 true (by simp [h1]))
    by_cases h2 : 0 ≤ j ∧ j ≤ 60
    · have C4 := hidv (c4 true (by simp [h2]))
      have h3 : ¬ (0 ≤ k ∧ k ≤ 60) := fun h3 => hd (fun n hn => by
        rcases n with _ | _ | _ | n
        · show (0 : Int) ≤ i ∧ (i : Int) < 61; omega
        · show (0 : Int) ≤ j ∧ (j : Int) < 61; omega
        · show (0 : Int) ≤ k ∧ (k : Int) < 61; omega
        · exfalso; have hn3 : n + 1 + 1 + 1 < 3 := hn; omega)
      have C5 := hidv (c5 false (by rw [← Bool.not_eq_true, Bool.and_eq_true, decide_eq_true_eq, decide_eq_true_eq]; exact h3))
      clear c3 c4 c5 h1 h2 h3 hd
      go_enter Try.func24, Try.ntmps24
      go_wp2_with fail
      refine c0.mono ?_
      rintro e w' ⟨rfl, rfl⟩
      go_wp2_with fail
      refine c1.mono ?_
      rintro e w' ⟨rfl, rfl⟩
      go_wp2_with fail
      refine c2.mono ?_
      rintro e w' ⟨rfl, rfl⟩
      go_wp2_with fail
      refine C3.out.mono ?_
      rintro e w' ⟨rfl, rfl⟩
      go_wp2_with fail
      refine C4.out.mono ?_
      rintro e w' ⟨rfl, rfl⟩
      go_wp2_with fail
      refine C5.out.mono ?_
      rintro e w' ⟨rfl, rfl⟩
      go_wp2
      go_ret2
      exact ⟨rfl, Below.refl _ _⟩
    · have C4 := hidv (c4 false (by rw [← Bool.not_eq_true, Bool.and_eq_true, decide_eq_true_eq, decide_eq_true_eq]; exact h2))
      clear c3 c4 c5 h1 h2 hd
      go_enter Try.func24, Try.ntmps24
      go_wp2_with fail
      refine c0.mono ?_
      rintro e w' ⟨rfl, rfl⟩
      go_wp2_with fail
      refine c1.mono ?_
      rintro e w' ⟨rfl, rfl⟩
      go_wp2_with fail
      refine c2.mono ?_
      rintro e w' ⟨rfl, rfl⟩
      go_wp2_with fail
      refine C3.out.mono ?_
      rintro e w' ⟨rfl, rfl⟩
      go_wp2_with fail
      refine C4.out.mono ?_
      rintro e w' ⟨rfl, rfl⟩
      go_wp2
      go_ret2
      exact ⟨rfl, Below.refl _ _⟩
  · have C3 := hidv (c3 false (by rw [← Bool.not_eq_true, Bool.and_eq_true, decide_eq_true_eq, decide_eq_true_eq]; exact h1))
    clear c3 c4 c5 h1 hd
    go_enter Try.func24, Try.ntmps24
    go_wp2_with fail
    refine c0.mono ?_
    rintro e w' ⟨rfl, rfl⟩
    go_wp2_with fail
    refine c1.mono ?_
    rintro e w' ⟨rfl, rfl⟩
    go_wp2_with fail
    refine c2.mono ?_
    rintro e w' ⟨rfl, rfl⟩
    go_wp2_with fail
    refine C3.out.mono ?_
    rintro e w' ⟨rfl, rfl⟩
    go_wp2
    go_ret2
    exact ⟨rfl, Below.refl _ _⟩

set_option maxHeartbeats 400000 in
theorem specPm_ok (x y z : ByteArray) (i j k : Nat) (w : World) (sx : x.size ≤ 60) (sy : y.size ≤ 60) (sz : z.size ≤ 60) (hx : Wd.wordB x.data.toList = true) (hy : Wd.wordB y.data.toList = true) (hz : Wd.wordB z.data.toList = true) (hi : i ≤ 60) (hj : j ≤ 60) (hk : k ≤ 60) (b : Bool) (hb : ((timesB x i ++ timesB y j).toList == (timesB z k).toList) = b) :
    Calls Try.prog 24 #[.string x, .string y, .string z, .int .i64 i, .int .i64 j, .int .i64 k] w fun e w' => e = .returned (.tuple #[.bool b, .int .i64 0]) ∧ Below w.heap.size w w' := by
  have c0 := specWord_any x w (by unfold maxLen; omega)
  rw [hx] at c0
  have c1 := specWord_any y w (by unfold maxLen; omega)
  rw [hy] at c1
  have c2 := specWord_any z w (by unfold maxLen; omega)
  rw [hz] at c2
  clear hx
  clear hy
  clear hz
  have m1 : i * x.size ≤ 60 * 60 := Nat.mul_le_mul hi sx
  have m2 : j * y.size ≤ 60 * 60 := Nat.mul_le_mul hj sy
  have z1 := timesB_size x i
  have z2 := timesB_size y j
  have r1 := fun W => times_any x i W (by omega) (by omega)
  have r2 := fun W => times_any y j W (by omega) (by omega)
  have r3 := fun W => times_any z k W (by omega) (by omega)
  have C3 := hidv (l00In_any i 0 60 w true (by simp; omega))
  have C4 := hidv (l00In_any j 0 60 w true (by simp; omega))
  have C5 := hidv (l00In_any k 0 60 w true (by simp; omega))
  obtain ⟨u1, h1⟩ : ∃ u, timesB x i = u := ⟨_, rfl⟩
  obtain ⟨u2, h2⟩ : ∃ u, timesB y j = u := ⟨_, rfl⟩
  obtain ⟨u3, h3⟩ : ∃ u, timesB z k = u := ⟨_, rfl⟩
  rw [h1] at r1 z1 hb
  rw [h2] at r2 z2 hb
  rw [h3] at r3 hb
  have hu : ¬ (9223372036854775807 < u1.size + u2.size) := by omega
  have R1 := hidv r1
  have R2 := hidv r2
  have R3 := hidv r3
  clear r1 r2 r3 h1 h2 h3 z1 z2 m1 m2
  go_enter Try.func24, Try.ntmps24
  go_wp2_with fail
  refine c0.mono ?_
  rintro e w' ⟨rfl, rfl⟩
  go_wp2_with fail
  refine c1.mono ?_
  rintro e w' ⟨rfl, rfl⟩
  go_wp2_with fail
  refine c2.mono ?_
  rintro e w' ⟨rfl, rfl⟩
  go_wp2_with fail
  refine C3.out.mono ?_
  rintro e w' ⟨rfl, rfl⟩
  go_wp2_with fail
  refine C4.out.mono ?_
  rintro e w' ⟨rfl, rfl⟩
  go_wp2_with fail
  refine C5.out.mono ?_
  rintro e w' ⟨rfl, rfl⟩
  go_wp2_with fail
  refine (R1.out _).mono ?_
  rintro e w' ⟨rfl, rfl⟩
  go_wp2_with fail
  refine (R2.out _).mono ?_
  rintro e w' ⟨rfl, rfl⟩
  go_wp2_with fail
  refine (R3.out _).mono ?_
  rintro e w' ⟨rfl, rfl⟩
  go_wp2
  go_ret2
  exact ⟨rfl, Below.refl _ _⟩

theorem pm_both (x y z : ByteArray) (i j k : Int) (sx : x.size ≤ maxLen) (sy : y.size ≤ maxLen) (sz : z.size ≤ maxLen) :
    ∃ b c, (∀ w, Calls Try.prog 25 #[.string x, .string y, .string z, .int .i64 i, .int .i64 j, .int .i64 k] w (fun e w' => e = .returned (.tuple #[.bool b, .int .i64 c]) ∧ Below w.heap.size w w')) ∧ (∀ w, Calls Try.prog 24 #[.string x, .string y, .string z, .int .i64 i, .int .i64 j, .int .i64 k] w (fun e w' => e = .returned (.tuple #[.bool b, .int .i64 c]) ∧ Below w.heap.size w w')) := by
  cases h : (Wd.wordB x.data.toList && Wd.wordB y.data.toList && Wd.wordB z.data.toList)
  · exact ⟨_, _, fun w => implPm_bad x y z i j k w sx sy sz h, fun w => specPm_bad x y z i j k w sx sy sz h⟩
  · simp only [Bool.and_eq_true] at h
    obtain ⟨⟨hx, hy⟩, hz⟩ := h
    have lx := sizeP hx
    have ly := sizeP hy
    have lz := sizeP hz
    by_cases hd : InN 61 [i, j, k]
    · have h1 := hd 0 (by simp)
      have h2 := hd 1 (by simp)
      have h3 := hd 2 (by simp)
      simp only [List.getElem_cons_zero, List.getElem_cons_succ] at h1 h2 h3
      obtain ⟨i, rfl⟩ := Int.eq_ofNat_of_zero_le h1.1
      obtain ⟨j, rfl⟩ := Int.eq_ofNat_of_zero_le h2.1
      obtain ⟨k, rfl⟩ := Int.eq_ofNat_of_zero_le h3.1
      exact ⟨_, _, fun w => implPm_ok x y z i j k w lx ly lz hx hy hz (by omega) (by omega) (by omega) _ rfl, fun w => specPm_ok x y z i j k w lx ly lz hx hy hz (by omega) (by omega) (by omega) _ rfl⟩
    · exact ⟨_, _, fun w => implPm_range x y z i j k w lx ly lz hx hy hz hd, fun w => specPm_range x y z i j k w lx ly lz hx hy hz hd⟩

set_option maxHeartbeats 400000 in
theorem law_FnExactPowersMeet (a0 a1 a2 : ByteArray) (a3 a4 a5 : Int) (w : World) (w0 : a0.size ≤ maxLen) (w1 : a1.size ≤ maxLen) (w2 : a2.size ≤ maxLen) (w3 : (Lit.int .i64 a3).wf = true) (w4 : (Lit.int .i64 a4).wf = true) (w5 : (Lit.int .i64 a5).wf = true) :
    Calls Try.prog 8 #[.string a0, .string a1, .string a2, .int .i64 a3, .int .i64 a4, .int .i64 a5] w fun e w' => e = .returned (.bool true) ∧ Below w.heap.size w w' := by
  obtain ⟨v1, v2, h1, h2⟩ := pm_both a0 a1 a2 a3 a4 a5 w0 w1 w2
  have H1 := hidv h1
  have H2 := hidv h2
  clear h1 h2
  unfold maxLen at w0 w1 w2
  go_enter Try.func8, Try.ntmps8
  go_wp2_with (first | (go_at_call 24; refine (H2.out _).mono ?_; rintro e w1 ⟨rfl, hb1⟩) | (go_at_call 25; refine (H1.out _).mono ?_; rintro e w2 ⟨rfl, hb2⟩))
  all_goals
    go_ret
    exact ⟨rfl, by first | exact below_on hb1 hb2 | exact Below.refl _ _⟩

end Go.Proofs.Ytlmdmbhmmfdajaa
