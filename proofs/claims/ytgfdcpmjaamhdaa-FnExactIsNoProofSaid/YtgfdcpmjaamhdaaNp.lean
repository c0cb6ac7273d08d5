/-
  What it means that factors prove that a system has no solution.
-/
import Derived.Test.YtgfdcpmjaamhdaaLenR
namespace Go.Proofs.Ytgfdcpmjaamhdaa
open Go.RowKit Go
set_option linter.unusedVariables false

theorem iffNo {P : Prop} {d : Bool} (h : d = true ↔ P) (hn : ¬ P) : d = false := by
  cases d
  · rfl
  · exact absurd (h.mp rfl) hn
theorem iffEx (P : Prop) : ∃ d : Bool, d = true ↔ P := by
  rcases Classical.em P with h | h
  · exact ⟨true, fun _ => h, fun _ => rfl⟩
  · exact ⟨false, fun e => (by cases e), fun e => absurd e h⟩

/-- The weight of an equation for a letter, and the weighted sum of a kind over the first equations. -/
def wgt (F : List Int) (i c : Nat) : Int := F.getD (5 * i) 0 + F.getD (5 * i + 1 + c) 0
def totN (S : List (List Int)) (F : List Int) (c k : Nat) : Nat → Int
  | 0 => 0
  | m + 1 => totN S F c k m + wgt F m c * (S.getD m []).getD k 0
def ltrN (S : List (List Int)) (F : List Int) (n : Nat) : Nat → Int
  | 0 => 0
  | c + 1 => ltrN S F n c + totN S F c c n
def NpP (S : List (List Int)) (F : List Int) (n : Nat) : Prop := (∀ c < 4, ∀ x < 4, 0 ≤ totN S F c (4 + x) n) ∧ 0 < ltrN S F n 4
/-- Factors and rows within their bounds. -/
def NpOk (S : List (List Int)) (F : List Int) (n : Nat) : Prop := n ≤ 4 ∧ S.length = n ∧ F.length = 5 * n ∧ (∀ f ∈ F, -9 ≤ f ∧ f ≤ 9) ∧ ∀ s ∈ S, s.length = 8 ∧ ∀ x ∈ s, -24 ≤ x ∧ x ≤ 24
theorem NpOk.fac {S : List (List Int)} {F : List Int} {n : Nat} (h : NpOk S F n) {j : Nat} (hj : j < 5 * n) : ∃ x : Int, F[j]? = some x ∧ F.getD j 0 = x ∧ -9 ≤ x ∧ x ≤ 9 := by
  have hl : j < F.length := by rw [h.2.2.1]; exact hj
  have hb := h.2.2.2.1 F[j] (List.getElem_mem _)
  exact ⟨F[j], by simp [hl], by simp [hl], hb.1, hb.2⟩
theorem NpOk.row {S : List (List Int)} {F : List Int} {n : Nat} (h : NpOk S F n) {i k : Nat} (hi : i < n) (hk : k < 8) : ∃ (hr : i < S.length) (x : Int), S[i].length = 8 ∧ (S[i])[k]? = some x ∧ (S.getD i []).getD k 0 = x ∧ -24 ≤ x ∧ x ≤ 24 := by
  have hr : i < S.length := by rw [h.2.1]; exact hi
  have hs := h.2.2.2.2 S[i] (List.getElem_mem _)
  have hl : k < (S[i]).length := by rw [hs.1]; exact hk
  have hb := hs.2 (S[i])[k] (List.getElem_mem _)
  exact ⟨hr, (S[i])[k], hs.1, by simp [hl], by simp [hr, hl], hb.1, hb.2⟩
theorem mul_bound {a b : Int} (h1 : -18 ≤ a) (h2 : a ≤ 18) (h3 : -24 ≤ b) (h4 : b ≤ 24) : -432 ≤ a * b ∧ a * b ≤ 432 := by
  have e : a = -18 ∨ a = -17 ∨ a = -16 ∨ a = -15 ∨ a = -14 ∨ a = -13 ∨ a = -12 ∨ a = -11 ∨ a = -10 ∨ a = -9 ∨ a = -8 ∨ a = -7 ∨ a = -6 ∨ a = -5 ∨ a = -4 ∨ a = -3 ∨ a = -2 ∨ a = -1 ∨ a = 0 ∨ a = 1 ∨ a = 2 ∨ a = 3 ∨ a = 4 ∨ a = 5 ∨ a = 6 ∨ a = 7 ∨ a = 8 ∨ a = 9 ∨ a = 10 ∨ a = 11 ∨ a = 12 ∨ a = 13 ∨ a = 14 ∨ a = 15 ∨ a = 16 ∨ a = 17 ∨ a = 18 := by omega
  rcases e with rfl | rfl | rfl | rfl | rfl | rfl | rfl | rfl | rfl | rfl | rfl | rfl | rfl | rfl | rfl | rfl | rfl | rfl | rfl | rfl | rfl | rfl | rfl | rfl | rfl | rfl | rfl | rfl | rfl | rfl | rfl | rfl | rfl | rfl | rfl | rfl | rfl <;> omega
theorem wgt_bound {S : List (List Int)} {F : List Int} {n : Nat} (h : NpOk S F n) {i c : Nat} (hi : i < n) (hc : c < 4) : -18 ≤ wgt F i c ∧ wgt F i c ≤ 18 := by
  obtain ⟨x, _, e1, a1, a2⟩ := h.fac (j := 5 * i) (by omega)
  obtain ⟨y, _, e2, b1, b2⟩ := h.fac (j := 5 * i + 1 + c) (by omega)
  unfold wgt
  rw [e1, e2]
  omega
theorem tot_bound {S : List (List Int)} {F : List Int} {n : Nat} (h : NpOk S F n) {c k : Nat} (hc : c < 4) (hk : k < 8) : ∀ m : Nat, m ≤ n → -(432 * (m : Int)) ≤ totN S F c k m ∧ totN S F c k m ≤ 432 * (m : Int)
  | 0, _ => by simp [totN]
  | m + 1, hm => by
    have ih := tot_bound h hc hk m (by omega)
    obtain ⟨_, x, _, _, e, b1, b2⟩ := h.row (i := m) (k := k) (by omega) hk
    have hw := wgt_bound h (i := m) (by omega) hc
    have hmul := mul_bound hw.1 hw.2 b1 b2
    unfold totN
    rw [e]
    push_cast
    omega
theorem ltr_bound {S : List (List Int)} {F : List Int} {n : Nat} (h : NpOk S F n) : ∀ c : Nat, c ≤ 4 → -(1728 * (c : Int)) ≤ ltrN S F n c ∧ ltrN S F n c ≤ 1728 * (c : Int)
  | 0, _ => by simp [ltrN]
  | c + 1, hc => by
    have ih := ltr_bound h c (by omega)
    have ht := tot_bound h (c := c) (k := c) (by omega) (by omega) n (Nat.le_refl _)
    have hn := h.1
    unfold ltrN
    push_cast
    omega

end Go.Proofs.Ytgfdcpmjaamhdaa
