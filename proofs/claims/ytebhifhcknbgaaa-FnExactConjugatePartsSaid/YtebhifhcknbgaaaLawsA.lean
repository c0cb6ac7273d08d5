/-
  The laws on words and terms, walked: each call returns true and turns nothing that was there. No condition but that strings are such as Go can hold.
-/
import Derived.Test.YtebhifhcknbgaaaWalkW
namespace Go.Proofs.Ytebhifhcknbgaaa
open Go.RowKit Go

theorem specValidWord_any (s : ByteArray) (w : World) (hs : s.size ≤ maxLen) :
    Calls Try.prog 35 #[.string s] w fun e w' => e = .returned (.bool (Wd.wordB s.data.toList)) ∧ w = w' := by
  have hm := specWord_any s w hs
  go_enter Try.func35, Try.ntmps35
  go_wp2_with (go_at_call 62; refine hm.mono ?_; rintro e w' ⟨rfl, rfl⟩)
  go_ret
  exact ⟨rfl, rfl⟩

theorem specValidTerm_any (s : ByteArray) (w : World) (hs : s.size ≤ maxLen) :
    Calls Try.prog 48 #[.string s] w fun e w' => e = .returned (.bool (Wd.termB s.data.toList)) ∧ w = w' := by
  have hm := specTerm_any s w hs
  go_enter Try.func48, Try.ntmps48
  go_wp2_with (go_at_call 55; refine hm.mono ?_; rintro e w' ⟨rfl, rfl⟩)
  go_ret
  exact ⟨rfl, rfl⟩

set_option maxHeartbeats 400000 in
theorem law_FnExactValidWord (a0 : ByteArray) (w : World) (w0 : a0.size ≤ maxLen) :
    Calls Try.prog 7 #[.string a0] w fun e w' => e = .returned (.bool true) ∧ Below w.heap.size w w' := by
  have h1 := specValidWord_any a0 w w0
  have h2 := implValidWord_any a0 w w0
  unfold maxLen at w0
  generalize Wd.wordB a0.data.toList = v at h1 h2
  go_enter Try.func7, Try.ntmps7
  go_wp2_with (first | (go_at_call 35; refine h1.mono ?_; rintro e w' ⟨rfl, rfl⟩) | (go_at_call 36; refine h2.mono ?_; rintro e w' ⟨rfl, rfl⟩))
  all_goals
    go_ret
    exact ⟨rfl, Below.refl _ _⟩

set_option maxHeartbeats 400000 in
theorem law_FnExactValidTerm (a0 : ByteArray) (w : World) (w0 : a0.size ≤ maxLen) :
    Calls Try.prog 13 #[.string a0] w fun e w' => e = .returned (.bool true) ∧ Below w.heap.size w w' := by
  have h1 := specValidTerm_any a0 w w0
  have h2 := implValidTerm_any a0 w w0
  unfold maxLen at w0
  generalize Wd.termB a0.data.toList = v at h1 h2
  go_enter Try.func13, Try.ntmps13
  go_wp2_with (first | (go_at_call 48; refine h1.mono ?_; rintro e w' ⟨rfl, rfl⟩) | (go_at_call 49; refine h2.mono ?_; rintro e w' ⟨rfl, rfl⟩))
  all_goals
    go_ret
    exact ⟨rfl, Below.refl _ _⟩


theorem implCommute_bad (u t : ByteArray) (w : World) (hu : u.size ≤ maxLen) (ht : t.size ≤ maxLen) (h : (Wd.wordB u.data.toList && Wd.wordB t.data.toList) = false) :
    Calls Try.prog 17 #[.string u, .string t] w fun e w' => e = .returned (.tuple #[.bool false, .int .i64 1]) ∧ w = w' := by
  have c1 := implValidWord_any u w hu
  have c2 := implValidWord_any t w ht
  cases h1 : Wd.wordB u.data.toList
  · rw [h1] at c1
    clear h1 h
    go_enter Try.func17, Try.ntmps17
    go_wp2_with fail
    refine c1.mono ?_
    rintro e w' ⟨rfl, rfl⟩
    go_wp2_with fail
    go_ret2
    exact ⟨rfl, rfl⟩
  · rw [h1] at c1
    rw [show Wd.wordB t.data.toList = false by simpa [h1] using h] at c2
    clear h1 h
    go_enter Try.func17, Try.ntmps17
    go_wp2_with fail
    refine c1.mono ?_
    rintro e w' ⟨rfl, rfl⟩
    go_wp2_with fail
    refine c2.mono ?_
    rintro e w' ⟨rfl, rfl⟩
    go_wp2_with fail
    go_ret2
    exact ⟨rfl, rfl⟩

theorem implCommute_ok (u t : ByteArray) (w : World) (hu : u.size ≤ 60) (ht : t.size ≤ 60) (h1 : Wd.wordB u.data.toList = true) (h2 : Wd.wordB t.data.toList = true) (v : Bool) (hv : ((u ++ t).toList == (t ++ u).toList) = v) :
    Calls Try.prog 17 #[.string u, .string t] w fun e w' => e = .returned (.tuple #[.bool v, .int .i64 0]) ∧ w = w' := by
  have c1 := implValidWord_any u w (by unfold maxLen; omega)
  have c2 := implValidWord_any t w (by unfold maxLen; omega)
  rw [h1] at c1
  rw [h2] at c2
  clear h1 h2
  go_enter Try.func17, Try.ntmps17
  go_wp2_with fail
  refine c1.mono ?_
  rintro e w' ⟨rfl, rfl⟩
  go_wp2_with fail
  refine c2.mono ?_
  rintro e w' ⟨rfl, rfl⟩
  go_wp2_with fail
  go_ret2
  exact ⟨rfl, rfl⟩

theorem specCommute_bad (u t : ByteArray) (w : World) (hu : u.size ≤ maxLen) (ht : t.size ≤ maxLen) (h : (Wd.wordB u.data.toList && Wd.wordB t.data.toList) = false) :
    Calls Try.prog 38 #[.string u, .string t] w fun e w' => e = .returned (.tuple #[.bool false, .int .i64 1]) ∧ w = w' := by
  have c1 := specWord_any u w hu
  have c2 := specWord_any t w ht
  cases h1 : Wd.wordB u.data.toList
  · rw [h1] at c1
    clear h1 h
    go_enter Try.func38, Try.ntmps38
    go_wp2_with fail
    refine c1.mono ?_
    rintro e w' ⟨rfl, rfl⟩
    go_wp2_with fail
    go_ret2
    exact ⟨rfl, rfl⟩
  · rw [h1] at c1
    rw [show Wd.wordB t.data.toList = false by simpa [h1] using h] at c2
    clear h1 h
    go_enter Try.func38, Try.ntmps38
    go_wp2_with fail
    refine c1.mono ?_
    rintro e w' ⟨rfl, rfl⟩
    go_wp2_with fail
    refine c2.mono ?_
    rintro e w' ⟨rfl, rfl⟩
    go_wp2_with fail
    go_ret2
    exact ⟨rfl, rfl⟩

theorem specCommute_ok (u t : ByteArray) (w : World) (hu : u.size ≤ 60) (ht : t.size ≤ 60) (h1 : Wd.wordB u.data.toList = true) (h2 : Wd.wordB t.data.toList = true) (v : Bool) (hv : ((u ++ t).toList == (t ++ u).toList) = v) :
    Calls Try.prog 38 #[.string u, .string t] w fun e w' => e = .returned (.tuple #[.bool v, .int .i64 0]) ∧ w = w' := by
  have c1 := specWord_any u w (by unfold maxLen; omega)
  have c2 := specWord_any t w (by unfold maxLen; omega)
  rw [h1] at c1
  rw [h2] at c2
  clear h1 h2
  go_enter Try.func38, Try.ntmps38
  go_wp2_with fail
  refine c1.mono ?_
  rintro e w' ⟨rfl, rfl⟩
  go_wp2_with fail
  refine c2.mono ?_
  rintro e w' ⟨rfl, rfl⟩
  go_wp2_with fail
  go_ret2
  exact ⟨rfl, rfl⟩

theorem size_of_word {u : ByteArray} (h : Wd.wordB u.data.toList = true) : u.size ≤ 60 := by
  have := Wd.wordB_len h
  simpa using this

set_option maxHeartbeats 400000 in
theorem law_FnExactCommute (a0 a1 : ByteArray) (w : World) (w0 : a0.size ≤ maxLen) (w1 : a1.size ≤ maxLen) :
    Calls Try.prog 9 #[.string a0, .string a1] w fun e w' => e = .returned (.bool true) ∧ Below w.heap.size w w' := by
  obtain ⟨v1, v2, h1, h2⟩ : ∃ v1 v2, Calls Try.prog 17 #[.string a0, .string a1] w (fun e w' => e = .returned (.tuple #[.bool v1, .int .i64 v2]) ∧ w = w') ∧ Calls Try.prog 38 #[.string a0, .string a1] w (fun e w' => e = .returned (.tuple #[.bool v1, .int .i64 v2]) ∧ w = w') := by
    cases h : (Wd.wordB a0.data.toList && Wd.wordB a1.data.toList)
    · exact ⟨_, _, implCommute_bad a0 a1 w w0 w1 h, specCommute_bad a0 a1 w w0 w1 h⟩
    · rw [Bool.and_eq_true] at h
      exact ⟨_, _, implCommute_ok a0 a1 w (size_of_word h.1) (size_of_word h.2) h.1 h.2 _ rfl, specCommute_ok a0 a1 w (size_of_word h.1) (size_of_word h.2) h.1 h.2 _ rfl⟩
  unfold maxLen at w0 w1
  go_enter Try.func9, Try.ntmps9
  go_wp2_with (first | (go_at_call 38; refine h2.mono ?_; rintro e w' ⟨rfl, rfl⟩) | (go_at_call 17; refine h1.mono ?_; rintro e w' ⟨rfl, rfl⟩))
  all_goals
    go_ret
    exact ⟨rfl, Below.refl _ _⟩

end Go.Proofs.Ytebhifhcknbgaaa
