/-
  The law on TurnTerm, walked.
-/
import Derived.Test.YtebhifhcknbgaabTurn
namespace Go.Proofs.Ytebhifhcknbgaab
open Go.RowKit Go

theorem turn_both (s : ByteArray) (hs : s.size ≤ maxLen) : ∃ (a : ByteArray) (c : Int),
    (∀ w, Calls Try.prog 33 #[.string s] w fun e w' => e = .returned (.tuple #[.string a, .int .i64 c]) ∧ Below w.heap.size w w') ∧
    ∀ w, Calls Try.prog 32 #[.string s] w fun e w' => e = .returned (.tuple #[.string a, .int .i64 c]) ∧ Below w.heap.size w w' := by
  cases h : Wd.termB s.data.toList
  · exact ⟨⟨#[]⟩, 1, fun w => implTurn_bad s w hs h, fun w => specTurn_bad s w hs h⟩
  · have hs0 : s.size ≤ 24 := by have := Wd.termB_len h; simpa using this
    exact ⟨_, 0, fun w => implTurn_ok s w hs0 h, fun w => specTurn_ok s w hs0 h⟩

set_option maxHeartbeats 400000 in
theorem law_FnExactTurnTerm (a0 : ByteArray) (w : World) (w0 : a0.size ≤ maxLen) :
    Calls Try.prog 9 #[.string a0] w fun e w' => e = .returned (.bool true) ∧ Below w.heap.size w w' := by
  obtain ⟨a, c, h1, h2⟩ := turn_both a0 w0
  have H1 := hidv h1
  have H2 := hidv h2
  clear h1 h2
  unfold maxLen at w0
  by_cases hl0 : (1048576 : Int) < a0.size
  · go_enter Try.func9, Try.ntmps9
    go_wp2
    go_ret
    exact ⟨rfl, Below.refl _ _⟩
  · go_enter Try.func9, Try.ntmps9
    go_wp2_with fail
    refine (H2.out _).mono ?_
    rintro e wa ⟨rfl, hba⟩
    go_wp2_with fail
    refine (H1.out _).mono ?_
    rintro e wb ⟨rfl, hbb⟩
    go_wp2_with fail
    go_ret
    exact ⟨rfl, hba.trans (hbb.mono hba.size)⟩

end Go.Proofs.Ytebhifhcknbgaab
