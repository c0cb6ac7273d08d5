/-
  RootOf and CommonRoot, of the program and of the model, return what the plain words say: contracts, and the laws over them.
-/
import Derived.Test.YtebhifhcknbgaaaWalkR
namespace Go.Proofs.Ytebhifhcknbgaaa
open Go.RowKit Go

theorem quoI_of (n k : Nat) (hn : n ≤ 1000) : IntKind.i64.wrap ((n : Int) / (k : Int)) = ((n / k : Nat) : Int) := by
  show IntKind.i64.wrap ((n / k : Nat) : Int) = _
  exact IntWalk.i64_in _ (by have := Nat.div_le_self n k; generalize n / k = q at *; omega)
theorem quoT_of (n k : Nat) (hn : n ≤ 1000) : IntKind.i64.wrap ((n : Int).tdiv (k : Int)) = ((n / k : Nat) : Int) := by
  rw [quo_of]
  exact IntWalk.i64_in _ (by have := Nat.div_le_self n k; generalize n / k = q at *; omega)

set_option maxHeartbeats 400000 in
theorem rootOf_some (u : ByteArray) (w : World) (h : Wd.wordB u.data.toList = true) (h0 : 0 < u.size) (hs : u.size ≤ 60) :
    Calls Try.prog 19 #[.string u] w (fun e w' => e = .returned (.tuple #[.string (u.extract 0 (Wd.rootLen u.data.toList)), .int .i64 (u.size / Wd.rootLen u.data.toList : Nat), .int .i64 0]) ∧ Below w.heap.size w w') := by
  have c1 := implValidWord_any u w (by unfold maxLen; omega)
  have c2 := implRoot_any u w (by omega) h0
  have hb := rootLen_bounds u h0
  rw [h] at c1
  generalize Wd.rootLen u.data.toList = n at c2 hb ⊢
  obtain ⟨hn1, hn2⟩ := hb
  have he : u.toList.isEmpty = false := by
    rw [ByteArray.toList_eq, List.isEmpty_eq_false_iff]
    intro hx
    have : u.size = 0 := by have := congrArg List.length hx; simpa using this
    omega
  have e2 := quoI_of u.size n (by omega)
  have e3 := quoT_of u.size n (by omega)
  have hn0 : ¬ n = 0 := by omega
  clear h
  obtain ⟨q, hq⟩ : ∃ q, u.size / n = q := ⟨_, rfl⟩
  rw [hq] at e2 e3 ⊢
  clear hq
  go_enter Try.func19, Try.ntmps19
  go_wp2_with fail
  refine c1.mono ?_
  rintro e w' ⟨rfl, rfl⟩
  go_wp2_with fail
  refine c2.mono ?_
  rintro e w1 ⟨rfl, hb⟩
  go_wp2_with fail
  go_quiet (fail)
  go_wp2
  go_ret3
  exact ⟨rfl, below_drewN hb _⟩


theorem sRootOf_no (u : ByteArray) (w : World) (hu : u.size ≤ maxLen) (h : Wd.wordB u.data.toList = false) :
    Calls Try.prog 37 #[.string u] w (fun e w' => e = .returned (.tuple #[.string ⟨#[]⟩, .int .i64 0, .int .i64 1]) ∧ Below w.heap.size w w') := by
  have c1 := specWord_any u w hu
  rw [h] at c1
  clear h
  go_enter Try.func37, Try.ntmps37
  go_wp2_with fail
  refine c1.mono ?_
  rintro e w' ⟨rfl, rfl⟩
  go_wp2_with fail
  go_ret3
  exact ⟨rfl, Below.refl _ _⟩

theorem word_of_empty {u : ByteArray} (hu : u.size = 0) : Wd.wordB u.data.toList = true := by
  have hd : u.data.toList = [] := by
    have : u.data.toList.length = 0 := by simpa using hu
    exact List.eq_nil_of_length_eq_zero this
  rw [hd]; decide

theorem sRootOf_empty (u : ByteArray) (w : World) (hu : u.size = 0) :
    Calls Try.prog 37 #[.string u] w (fun e w' => e = .returned (.tuple #[.string ⟨#[]⟩, .int .i64 0, .int .i64 4]) ∧ Below w.heap.size w w') := by
  have c1 := specWord_any u w (by rw [hu]; exact Nat.zero_le _)
  rw [word_of_empty hu] at c1
  go_enter Try.func37, Try.ntmps37
  go_wp2_with fail
  refine c1.mono ?_
  rintro e w' ⟨rfl, rfl⟩
  go_wp2_with fail
  go_ret3
  exact ⟨rfl, Below.refl _ _⟩

set_option maxHeartbeats 400000 in
theorem sRootOf_some (u : ByteArray) (w : World) (h : Wd.wordB u.data.toList = true) (h0 : 0 < u.size) (hs : u.size ≤ 60) :
    Calls Try.prog 37 #[.string u] w (fun e w' => e = .returned (.tuple #[.string (u.extract 0 (Wd.rootLen u.data.toList)), .int .i64 (u.size / Wd.rootLen u.data.toList : Nat), .int .i64 0]) ∧ Below w.heap.size w w') := by
  have c1 := specWord_any u w (by unfold maxLen; omega)
  have c2 := specRoot_any u w (by omega) h0
  have hb := rootLen_bounds u h0
  rw [h] at c1
  generalize Wd.rootLen u.data.toList = n at c2 hb ⊢
  obtain ⟨hn1, hn2⟩ := hb
  have e2 := quoI_of u.size n (by omega)
  have e3 := quoT_of u.size n (by omega)
  have hn0 : ¬ n = 0 := by omega
  have he : ((u.size : Int) == 0) = false := by rw [beq_eq_false_iff_ne]; omega
  clear h
  obtain ⟨q, hq⟩ : ∃ q, u.size / n = q := ⟨_, rfl⟩
  rw [hq] at e2 e3 ⊢
  clear hq
  obtain ⟨r, hr⟩ : ∃ r, u.extract 0 n = r := ⟨_, rfl⟩
  have hrs : r.size = n := by rw [← hr]; simp; omega
  rw [hr] at c2 ⊢
  clear hr
  go_enter Try.func37, Try.ntmps37
  go_wp2_with fail
  refine c1.mono ?_
  rintro e w' ⟨rfl, rfl⟩
  go_wp2_with fail
  refine c2.mono ?_
  rintro e w1 ⟨rfl, hb⟩
  go_wp2_with fail
  go_quiet (fail)
  go_wp2
  go_ret3
  exact ⟨rfl, below_drewN hb _⟩

set_option maxHeartbeats 400000 in
theorem law_FnExactRootOf (a0 : ByteArray) (w : World) (w0 : a0.size ≤ maxLen) :
    Calls Try.prog 8 #[.string a0] w fun e w' => e = .returned (.bool true) ∧ Below w.heap.size w w' := by
  obtain ⟨r, a, c, h1, h2⟩ : ∃ r a c, (∀ w, Calls Try.prog 19 #[.string a0] w (fun e w' => e = .returned (.tuple #[.string r, .int .i64 a, .int .i64 c]) ∧ Below w.heap.size w w')) ∧ ∀ w, Calls Try.prog 37 #[.string a0] w (fun e w' => e = .returned (.tuple #[.string r, .int .i64 a, .int .i64 c]) ∧ Below w.heap.size w w') := by
    by_cases h0 : a0.size = 0
    · exact ⟨_, _, _, fun w => rootOf_empty a0 w h0, fun w => sRootOf_empty a0 w h0⟩
    · cases h : Wd.wordB a0.data.toList
      · exact ⟨_, _, _, fun w => rootOf_no a0 w w0 h, fun w => sRootOf_no a0 w w0 h⟩
      · have hs : a0.size ≤ 60 := by have := Wd.wordB_len h; simpa using this
        exact ⟨_, _, _, fun w => rootOf_some a0 w h (by omega) hs, fun w => sRootOf_some a0 w h (by omega) hs⟩
  unfold maxLen at w0
  have H1 := hidv h1
  have H2 := hidv h2
  clear h1 h2
  by_cases hl : (1048576 : Int) < a0.size
  · go_enter Try.func8, Try.ntmps8
    go_wp2
    go_ret
    exact ⟨rfl, Below.refl _ _⟩
  · go_enter Try.func8, Try.ntmps8
    go_wp2_with fail
    refine (H2.out _).mono ?_
    rintro e w1 ⟨rfl, hb1⟩
    go_wp2_with fail
    refine (H1.out _).mono ?_
    rintro e w2 ⟨rfl, hb2⟩
    go_wp2_with fail
    go_ret
    exact ⟨rfl, hb1.trans (hb2.mono hb1.size)⟩

end Go.Proofs.Ytebhifhcknbgaaa
