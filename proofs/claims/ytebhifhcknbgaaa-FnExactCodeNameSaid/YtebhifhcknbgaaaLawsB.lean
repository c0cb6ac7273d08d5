/-
  The law on names of codes, walked: the call returns true and turns nothing that was there. No condition.
-/
import Derived.Test.YtebhifhcknbgaaaWalkW
namespace Go.Proofs.Ytebhifhcknbgaaa
open Go.RowKit Go

/-- The names of the codes 0 to 8, and nothing for other numbers. -/
def Wd.codeName (n : Int) : ByteArray :=
  if n = 0 then ⟨#[111, 107]⟩ else if n = 1 then ⟨#[105, 110, 118, 97, 108, 105, 100]⟩ else if n = 2 then ⟨#[114, 97, 110, 103, 101]⟩
  else if n = 3 then ⟨#[108, 105, 109, 105, 116]⟩ else if n = 4 then ⟨#[115, 116, 97, 116, 101]⟩ else if n = 5 then ⟨#[115, 121, 110, 116, 97, 120]⟩
  else if n = 6 then ⟨#[110, 111, 116, 102, 111, 117, 110, 100]⟩ else if n = 7 then ⟨#[98, 117, 100, 103, 101, 116]⟩ else if n = 8 then ⟨#[112, 114, 111, 111, 102]⟩ else ⟨#[]⟩

theorem codeName_out (n : Int) (h : n < 0 ∨ 9 ≤ n) : Wd.codeName n = ⟨#[]⟩ := by
  unfold Wd.codeName
  rw [if_neg (by omega), if_neg (by omega), if_neg (by omega), if_neg (by omega), if_neg (by omega), if_neg (by omega), if_neg (by omega), if_neg (by omega), if_neg (by omega)]

set_option maxHeartbeats 1000000 in
theorem specCodeName_any (n : Int) (w : World) :
    Calls Try.prog 33 #[.int .i64 n] w fun e w' => e = .returned (.string (Wd.codeName n)) ∧ Below w.heap.size w w' := by
  by_cases h : n < 0 ∨ 9 ≤ n
  · rw [codeName_out n h]
    have hin := fun (wx : World) => l00In_any n 0 8 wx false (by simp; omega)
    clear h
    go_enter Try.func33, Try.ntmps33
    go_wp2_with (go_at_call 68; refine (hin _).mono ?_; rintro e w' ⟨rfl, rfl⟩)
    go_ret
    exact ⟨rfl, by repeat (first | exact Below.refl _ _ | refine Below.drew ?_ | refine Below.alloc ?_ (by simp) _ | refine Below.setCell ?_ (by simp) _)⟩
  · have h3 : n = 0 ∨ n = 1 ∨ n = 2 ∨ n = 3 ∨ n = 4 ∨ n = 5 ∨ n = 6 ∨ n = 7 ∨ n = 8 := by omega
    have hin := fun (wx : World) => l00In_any n 0 8 wx true (by simp; omega)
    clear h
    rcases h3 with rfl | rfl | rfl | rfl | rfl | rfl | rfl | rfl | rfl
    all_goals
      go_enter Try.func33, Try.ntmps33
      go_wp2_with (go_at_call 68; refine (hin _).mono ?_; rintro e w' ⟨rfl, rfl⟩)
      go_ret
      exact ⟨rfl, by repeat (first | exact Below.refl _ _ | refine Below.drew ?_ | refine Below.alloc ?_ (by simp) _ | refine Below.setCell ?_ (by simp) _)⟩

set_option maxHeartbeats 1000000 in
theorem implCodeName_any (n : Int) (w : World) :
    Calls Try.prog 34 #[.int .i64 n] w fun e w' => e = .returned (.string (Wd.codeName n)) ∧ Below w.heap.size w w' := by
  by_cases h : n < 0
  · rw [codeName_out n (.inl h)]
    go_enter Try.func34, Try.ntmps34
    go_wp2
    go_ret
    exact ⟨rfl, by repeat (first | exact Below.refl _ _ | refine Below.drew ?_ | refine Below.alloc ?_ (by simp) _ | refine Below.setCell ?_ (by simp) _)⟩
  by_cases h9 : 9 ≤ n
  · rw [codeName_out n (.inr h9)]
    have h0 : (0 : Int) ≤ n := by omega
    clear h
    go_enter Try.func34, Try.ntmps34
    go_wp2
    go_ret
    exact ⟨rfl, by repeat (first | exact Below.refl _ _ | refine Below.drew ?_ | refine Below.alloc ?_ (by simp) _ | refine Below.setCell ?_ (by simp) _)⟩
  · have h3 : n = 0 ∨ n = 1 ∨ n = 2 ∨ n = 3 ∨ n = 4 ∨ n = 5 ∨ n = 6 ∨ n = 7 ∨ n = 8 := by omega
    clear h h9
    rcases h3 with rfl | rfl | rfl | rfl | rfl | rfl | rfl | rfl | rfl
    all_goals
      go_enter Try.func34, Try.ntmps34
      go_wp2
      go_ret
      exact ⟨rfl, by repeat (first | exact Below.refl _ _ | refine Below.drew ?_ | refine Below.alloc ?_ (by simp) _ | refine Below.setCell ?_ (by simp) _)⟩

set_option maxHeartbeats 400000 in
theorem law_FnExactCodeName (a0 : Int) (w : World) (_w0 : (Lit.int .i64 a0).wf = true) :
    Calls Try.prog 6 #[.int .i64 a0] w fun e w' => e = .returned (.bool true) ∧ Below w.heap.size w w' := by
  have h1 := specCodeName_any a0
  have h2 := implCodeName_any a0
  clear _w0
  generalize Wd.codeName a0 = v at h1 h2
  go_enter Try.func6, Try.ntmps6
  go_wp2_with fail
  refine (h1 _).mono ?_
  rintro e w1 ⟨rfl, hb1⟩
  go_wp2_with fail
  refine (h2 _).mono ?_
  rintro e w2 ⟨rfl, hb2⟩
  go_wp2_with fail
  go_ret
  exact ⟨rfl, hb1.trans (hb2.mono hb1.size)⟩

end Go.Proofs.Ytebhifhcknbgaaa
