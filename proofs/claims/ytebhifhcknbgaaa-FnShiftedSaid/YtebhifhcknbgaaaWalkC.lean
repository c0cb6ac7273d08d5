/-
  CommonRoot, of the program and of the model, returns what the plain words say: contracts, and the law over them.
-/
import Derived.Test.YtebhifhcknbgaaaWalkS
namespace Go.Proofs.Ytebhifhcknbgaaa
open Go.RowKit Go

theorem results_tmp4 {fn : Func} {t u v x : Tmp} (h : fn.results = #[.tmp t, .tmp u, .tmp v, .tmp x]) (tmps : Array Value) (P : Program) (w : World) :
    (results fn tmps).run P w = .ok (.tuple #[tmps.getD t undef, tmps.getD u undef, tmps.getD v undef, tmps.getD x undef]) w := by
  simp [results, h]

theorem cat_len (u t : ByteArray) : (u ++ t).toList.length = u.size + t.size := by
  rw [ByteArray.toList_eq, ← ByteArray.size_append]
  rfl
theorem cat_data (u t : ByteArray) : (u ++ t).data.toList = u.data.toList ++ t.data.toList := by
  rw [ByteArray.data_append, Array.toList_append]

theorem implCommonRoot_bad (u t : ByteArray) (w : World) (hu : u.size ≤ maxLen) (ht : t.size ≤ maxLen) (h : (Wd.wordB u.data.toList && Wd.wordB t.data.toList) = false) :
    Calls Try.prog 18 #[.string u, .string t] w fun e w' => e = .returned (.tuple #[.string ⟨#[]⟩, .int .i64 0, .int .i64 0, .int .i64 1]) ∧ Below w.heap.size w w' := by
  have c1 := implValidWord_any u w hu
  have c2 := implValidWord_any t w ht
  cases h1 : Wd.wordB u.data.toList
  · rw [h1] at c1
    clear h1 h
    go_enter Try.func18, Try.ntmps18
    go_wp2_with fail
    refine c1.mono ?_
    rintro e w' ⟨rfl, rfl⟩
    go_wp2_with fail
    refine bodyPost_ret (results_tmp4 rfl _ _ _) rfl ?_
    exact ⟨rfl, Below.refl _ _⟩
  · rw [h1] at c1
    rw [show Wd.wordB t.data.toList = false by simpa [h1] using h] at c2
    clear h1 h
    go_enter Try.func18, Try.ntmps18
    go_wp2_with fail
    refine c1.mono ?_
    rintro e w' ⟨rfl, rfl⟩
    go_wp2_with fail
    refine c2.mono ?_
    rintro e w' ⟨rfl, rfl⟩
    go_wp2_with fail
    refine bodyPost_ret (results_tmp4 rfl _ _ _) rfl ?_
    exact ⟨rfl, Below.refl _ _⟩

theorem specCommonRoot_bad (u t : ByteArray) (w : World) (hu : u.size ≤ maxLen) (ht : t.size ≤ maxLen) (h : (Wd.wordB u.data.toList && Wd.wordB t.data.toList) = false) :
    Calls Try.prog 39 #[.string u, .string t] w fun e w' => e = .returned (.tuple #[.string ⟨#[]⟩, .int .i64 0, .int .i64 0, .int .i64 1]) ∧ Below w.heap.size w w' := by
  have c1 := specWord_any u w hu
  have c2 := specWord_any t w ht
  cases h1 : Wd.wordB u.data.toList
  · rw [h1] at c1
    clear h1 h
    go_enter Try.func39, Try.ntmps39
    go_wp2_with fail
    refine c1.mono ?_
    rintro e w' ⟨rfl, rfl⟩
    go_wp2_with fail
    refine bodyPost_ret (results_tmp4 rfl _ _ _) rfl ?_
    exact ⟨rfl, Below.refl _ _⟩
  · rw [h1] at c1
    rw [show Wd.wordB t.data.toList = false by simpa [h1] using h] at c2
    clear h1 h
    go_enter Try.func39, Try.ntmps39
    go_wp2_with fail
    refine c1.mono ?_
    rintro e w' ⟨rfl, rfl⟩
    go_wp2_with fail
    refine c2.mono ?_
    rintro e w' ⟨rfl, rfl⟩
    go_wp2_with fail
    refine bodyPost_ret (results_tmp4 rfl _ _ _) rfl ?_
    exact ⟨rfl, Below.refl _ _⟩

/-- Two words that do not commute, or are both empty. -/
theorem implCommonRoot_state (u t : ByteArray) (w : World) (hu : u.size ≤ 60) (ht : t.size ≤ 60) (h1 : Wd.wordB u.data.toList = true) (h2 : Wd.wordB t.data.toList = true)
    (h : u.size + t.size = 0 ∨ 0 < u.size + t.size ∧ ((u ++ t).toList == (t ++ u).toList) = false) :
    Calls Try.prog 18 #[.string u, .string t] w fun e w' => e = .returned (.tuple #[.string ⟨#[]⟩, .int .i64 0, .int .i64 0, .int .i64 4]) ∧ Below w.heap.size w w' := by
  have c1 := implValidWord_any u w (by unfold maxLen; omega)
  have c2 := implValidWord_any t w (by unfold maxLen; omega)
  rw [h1] at c1
  rw [h2] at c2
  clear h1 h2
  rcases h with h | ⟨h0, h⟩
  · have he : (u ++ t).toList = [] := by
      refine List.eq_nil_of_length_eq_zero ?_
      rw [cat_len]
      omega
    go_enter Try.func18, Try.ntmps18
    go_wp2_with fail
    refine c1.mono ?_
    rintro e w' ⟨rfl, rfl⟩
    go_wp2_with fail
    refine c2.mono ?_
    rintro e w' ⟨rfl, rfl⟩
    go_wp2_with fail
    refine bodyPost_ret (results_tmp4 rfl _ _ _) rfl ?_
    exact ⟨rfl, Below.refl _ _⟩
  · have he : (u ++ t).toList.isEmpty = false := by
      rw [List.isEmpty_eq_false_iff]
      intro hx
      have := congrArg List.length hx
      rw [cat_len, List.length_nil] at this
      omega
    go_enter Try.func18, Try.ntmps18
    go_wp2_with fail
    refine c1.mono ?_
    rintro e w' ⟨rfl, rfl⟩
    go_wp2_with fail
    refine c2.mono ?_
    rintro e w' ⟨rfl, rfl⟩
    go_wp2_with fail
    refine bodyPost_ret (results_tmp4 rfl _ _ _) rfl ?_
    exact ⟨rfl, Below.refl _ _⟩


theorem specCommonRoot_state (u t : ByteArray) (w : World) (hu : u.size ≤ 60) (ht : t.size ≤ 60) (h1 : Wd.wordB u.data.toList = true) (h2 : Wd.wordB t.data.toList = true)
    (h : u.size + t.size = 0 ∨ 0 < u.size + t.size ∧ ((u ++ t).toList == (t ++ u).toList) = false) :
    Calls Try.prog 39 #[.string u, .string t] w fun e w' => e = .returned (.tuple #[.string ⟨#[]⟩, .int .i64 0, .int .i64 0, .int .i64 4]) ∧ Below w.heap.size w w' := by
  have c1 := specWord_any u w (by unfold maxLen; omega)
  have c2 := specWord_any t w (by unfold maxLen; omega)
  rw [h1] at c1
  rw [h2] at c2
  clear h1 h2
  rcases h with h | ⟨h0, h⟩
  · have he : (u ++ t).toList = [] := by
      refine List.eq_nil_of_length_eq_zero ?_
      rw [cat_len]
      omega
    have he2 : (t ++ u).toList = [] := by
      refine List.eq_nil_of_length_eq_zero ?_
      rw [cat_len]
      omega
    have e3 : ((u.size : Int) + (t.size : Int) == 0) = true := by rw [beq_iff_eq]; omega
    go_enter Try.func39, Try.ntmps39
    go_wp2_with fail
    refine c1.mono ?_
    rintro e w' ⟨rfl, rfl⟩
    go_wp2_with fail
    refine c2.mono ?_
    rintro e w' ⟨rfl, rfl⟩
    go_wp2_with fail
    refine bodyPost_ret (results_tmp4 rfl _ _ _) rfl ?_
    exact ⟨rfl, Below.refl _ _⟩
  · have e3 : (!((u ++ t).toList == (t ++ u).toList)) = true := by rw [h]; rfl
    go_enter Try.func39, Try.ntmps39
    go_wp2_with fail
    refine c1.mono ?_
    rintro e w' ⟨rfl, rfl⟩
    go_wp2_with fail
    refine c2.mono ?_
    rintro e w' ⟨rfl, rfl⟩
    go_wp2_with fail
    refine bodyPost_ret (results_tmp4 rfl _ _ _) rfl ?_
    exact ⟨rfl, Below.refl _ _⟩

set_option maxHeartbeats 800000 in
theorem implCommonRoot_some (u t : ByteArray) (w : World) (hu : u.size ≤ 60) (ht : t.size ≤ 60) (h1 : Wd.wordB u.data.toList = true) (h2 : Wd.wordB t.data.toList = true)
    (h0 : 0 < u.size + t.size) (h : ((u ++ t).toList == (t ++ u).toList) = true) :
    Calls Try.prog 18 #[.string u, .string t] w fun e w' => e = .returned (.tuple #[.string ((u ++ t).extract 0 (Wd.rootLen (u ++ t).data.toList)), .int .i64 (u.size / Wd.rootLen (u ++ t).data.toList : Nat), .int .i64 (t.size / Wd.rootLen (u ++ t).data.toList : Nat), .int .i64 0]) ∧ Below w.heap.size w w' := by
  have c1 := implValidWord_any u w (by unfold maxLen; omega)
  have c2 := implValidWord_any t w (by unfold maxLen; omega)
  have hc : (u ++ t).size = u.size + t.size := ByteArray.size_append
  have c3 := implRoot_any (u ++ t) w (by omega) (by omega)
  have hb := rootLen_bounds (u ++ t) (by omega)
  rw [h1] at c1
  rw [h2] at c2
  clear h1 h2
  have he : (u ++ t).toList.isEmpty = false := by
    rw [List.isEmpty_eq_false_iff]
    intro hx
    have := congrArg List.length hx
    rw [cat_len, List.length_nil] at this
    omega
  generalize Wd.rootLen (u ++ t).data.toList = n at c3 hb ⊢
  obtain ⟨hn1, hn2⟩ := hb
  rw [hc] at hn2
  have e2 := quoI_of u.size n (by omega)
  have e3 := quoT_of u.size n (by omega)
  have e4 := quoI_of t.size n (by omega)
  have e5 := quoT_of t.size n (by omega)
  have hn0 : ¬ n = 0 := by omega
  obtain ⟨q, hq⟩ : ∃ q, u.size / n = q := ⟨_, rfl⟩
  obtain ⟨p, hp⟩ : ∃ p, t.size / n = p := ⟨_, rfl⟩
  rw [hq] at e2 e3 ⊢
  rw [hp] at e4 e5 ⊢
  clear hq hp hc
  go_enter Try.func18, Try.ntmps18
  go_wp2_with fail
  refine c1.mono ?_
  rintro e w' ⟨rfl, rfl⟩
  go_wp2_with fail
  refine c2.mono ?_
  rintro e w' ⟨rfl, rfl⟩
  go_wp2_with fail
  refine c3.mono ?_
  rintro e w1 ⟨rfl, hb⟩
  go_wp2_with fail
  go_quiet (fail)
  go_wp2
  refine bodyPost_ret (results_tmp4 rfl _ _ _) rfl ?_
  exact ⟨rfl, below_drewN hb _⟩

set_option maxHeartbeats 800000 in
theorem specCommonRoot_some (u t : ByteArray) (w : World) (hu : u.size ≤ 60) (ht : t.size ≤ 60) (h1 : Wd.wordB u.data.toList = true) (h2 : Wd.wordB t.data.toList = true)
    (h0 : 0 < u.size + t.size) (h : ((u ++ t).toList == (t ++ u).toList) = true) :
    Calls Try.prog 39 #[.string u, .string t] w fun e w' => e = .returned (.tuple #[.string ((u ++ t).extract 0 (Wd.rootLen (u ++ t).data.toList)), .int .i64 (u.size / Wd.rootLen (u ++ t).data.toList : Nat), .int .i64 (t.size / Wd.rootLen (u ++ t).data.toList : Nat), .int .i64 0]) ∧ Below w.heap.size w w' := by
  have c1 := specWord_any u w (by unfold maxLen; omega)
  have c2 := specWord_any t w (by unfold maxLen; omega)
  have hc : (u ++ t).size = u.size + t.size := ByteArray.size_append
  have c3 := specRoot_any (u ++ t) w (by omega) (by omega)
  have hb := rootLen_bounds (u ++ t) (by omega)
  rw [h1] at c1
  rw [h2] at c2
  clear h1 h2
  generalize Wd.rootLen (u ++ t).data.toList = n at c3 hb ⊢
  obtain ⟨hn1, hn2⟩ := hb
  have e2 := quoI_of u.size n (by omega)
  have e3 := quoT_of u.size n (by omega)
  have e4 := quoI_of t.size n (by omega)
  have e5 := quoT_of t.size n (by omega)
  have hn0 : ¬ n = 0 := by omega
  have e6 : (!((u ++ t).toList == (t ++ u).toList)) = false := by rw [h]; rfl
  have e7 : ((u.size : Int) + (t.size : Int) == 0) = false := by rw [beq_eq_false_iff_ne]; omega
  obtain ⟨q, hq⟩ : ∃ q, u.size / n = q := ⟨_, rfl⟩
  obtain ⟨p, hp⟩ : ∃ p, t.size / n = p := ⟨_, rfl⟩
  rw [hq] at e2 e3 ⊢
  rw [hp] at e4 e5 ⊢
  obtain ⟨r, hr⟩ : ∃ r, (u ++ t).extract 0 n = r := ⟨_, rfl⟩
  have hrs : r.size = n := by rw [← hr]; simp; omega
  rw [hr] at c3 ⊢
  clear hq hp hc hr
  go_enter Try.func39, Try.ntmps39
  go_wp2_with fail
  refine c1.mono ?_
  rintro e w' ⟨rfl, rfl⟩
  go_wp2_with fail
  refine c2.mono ?_
  rintro e w' ⟨rfl, rfl⟩
  go_wp2_with fail
  refine c3.mono ?_
  rintro e w1 ⟨rfl, hb⟩
  go_wp2_with fail
  go_quiet (fail)
  go_wp2
  refine bodyPost_ret (results_tmp4 rfl _ _ _) rfl ?_
  exact ⟨rfl, below_drewN hb _⟩

set_option maxHeartbeats 400000 in
theorem law_FnExactCommonRoot (a0 a1 : ByteArray) (w : World) (w0 : a0.size ≤ maxLen) (w1 : a1.size ≤ maxLen) :
    Calls Try.prog 10 #[.string a0, .string a1] w fun e w' => e = .returned (.bool true) ∧ Below w.heap.size w w' := by
  obtain ⟨r, a, b, c, h1, h2⟩ : ∃ r a b c, (∀ w, Calls Try.prog 18 #[.string a0, .string a1] w (fun e w' => e = .returned (.tuple #[.string r, .int .i64 a, .int .i64 b, .int .i64 c]) ∧ Below w.heap.size w w')) ∧ ∀ w, Calls Try.prog 39 #[.string a0, .string a1] w (fun e w' => e = .returned (.tuple #[.string r, .int .i64 a, .int .i64 b, .int .i64 c]) ∧ Below w.heap.size w w') := by
    cases h : (Wd.wordB a0.data.toList && Wd.wordB a1.data.toList)
    · exact ⟨_, _, _, _, fun w => implCommonRoot_bad a0 a1 w w0 w1 h, fun w => specCommonRoot_bad a0 a1 w w0 w1 h⟩
    · rw [Bool.and_eq_true] at h
      have hs0 : a0.size ≤ 60 := by have := Wd.wordB_len h.1; simpa using this
      have hs1 : a1.size ≤ 60 := by have := Wd.wordB_len h.2; simpa using this
      by_cases h0 : a0.size + a1.size = 0
      · exact ⟨_, _, _, _, fun w => implCommonRoot_state a0 a1 w hs0 hs1 h.1 h.2 (.inl h0), fun w => specCommonRoot_state a0 a1 w hs0 hs1 h.1 h.2 (.inl h0)⟩
      · cases hq : ((a0 ++ a1).toList == (a1 ++ a0).toList)
        · exact ⟨_, _, _, _, fun w => implCommonRoot_state a0 a1 w hs0 hs1 h.1 h.2 (.inr ⟨by omega, hq⟩), fun w => specCommonRoot_state a0 a1 w hs0 hs1 h.1 h.2 (.inr ⟨by omega, hq⟩)⟩
        · exact ⟨_, _, _, _, fun w => implCommonRoot_some a0 a1 w hs0 hs1 h.1 h.2 (by omega) hq, fun w => specCommonRoot_some a0 a1 w hs0 hs1 h.1 h.2 (by omega) hq⟩
  unfold maxLen at w0 w1
  have H1 := hidv h1
  have H2 := hidv h2
  clear h1 h2
  by_cases hl : (1048576 : Int) < a0.size
  · go_enter Try.func10, Try.ntmps10
    go_wp2
    go_ret
    exact ⟨rfl, Below.refl _ _⟩
  by_cases hl2 : (1048576 : Int) < a1.size
  · go_enter Try.func10, Try.ntmps10
    go_wp2
    go_ret
    exact ⟨rfl, Below.refl _ _⟩
  · go_enter Try.func10, Try.ntmps10
    go_wp2_with fail
    refine (H2.out _).mono ?_
    rintro e w1 ⟨rfl, hb1⟩
    go_wp2_with fail
    refine (H1.out _).mono ?_
    rintro e w2 ⟨rfl, hb2⟩
    go_wp2_with fail
    go_ret
    exact ⟨rfl, hb1.trans (hb2.mono hb1.size)⟩

end Go.Proofs.Ytebhifhcknbgaaa
