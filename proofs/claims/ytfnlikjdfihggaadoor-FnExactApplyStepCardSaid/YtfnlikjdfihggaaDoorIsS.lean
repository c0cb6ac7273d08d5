/-
  Whether a step is valid, and its name: contracts of the program's own and of the model's.
-/
import Derived.Test.YtfnlikjdfihggaaDoorLU
namespace Go.Proofs.YtfnlikjdfihggaaDoor
open Go.RowKit Go
set_option linter.unusedVariables false

/-- The name of an unknown. -/
def nmL (k : Nat) : List UInt8 := (([88, 89, 90, 87] : List UInt8).drop k).take 1
/-- What a step may put in. -/
def byB (k : Nat) : List UInt8 → Bool
  | [] => true
  | [a] => lB [a] || uB [a] && !([a] == nmL k)
  | [a, b] => (lB [a] || uB [a] && !([a] == nmL k)) && ([b] == nmL k)
  | _ => false
def frontL (k : Nat) (l : List UInt8) : List UInt8 := Lib.trimSuffix l (nmL k)
/-- A step is valid. -/
def stepB (x : Int) (l : List UInt8) : Bool := decide (0 ≤ x) && decide (x < 4) && byB x.toNat l

theorem nmL_eq {k : Nat} (h : k < 4) : ∃ u, nmL k = [u] ∧ Wd.isU u = true ∧ Wd.isL u = false ∧ Wd.unkI u = (k : Int) := by
  have : k = 0 ∨ k = 1 ∨ k = 2 ∨ k = 3 := by omega
  rcases this with rfl | rfl | rfl | rfl
  · exact ⟨88, rfl, by decide, by decide, by decide⟩
  · exact ⟨89, rfl, by decide, by decide, by decide⟩
  · exact ⟨90, rfl, by decide, by decide, by decide⟩
  · exact ⟨87, rfl, by decide, by decide, by decide⟩
theorem unkI_inj {a : UInt8} {k : Nat} (h : Wd.unkI a = (k : Int)) : [a] = nmL k ∧ k < 4 := by
  unfold Wd.unkI at h
  by_cases h0 : a = 88
  · subst h0; have : k = 0 := by simp at h; omega
    subst this; exact ⟨rfl, by omega⟩
  by_cases h1 : a = 89
  · subst h1; have : k = 1 := by simp at h; omega
    subst this; exact ⟨rfl, by omega⟩
  by_cases h2 : a = 90
  · subst h2; have : k = 2 := by simp at h; omega
    subst this; exact ⟨rfl, by omega⟩
  by_cases h3 : a = 87
  · subst h3; have : k = 3 := by simp at h; omega
    subst this; exact ⟨rfl, by omega⟩
  rw [if_neg h0, if_neg h1, if_neg h2, if_neg h3] at h
  omega
theorem unkI_isU {a : UInt8} : decide (Wd.unkI a < 0) = !Wd.isU a := unkI_neg a

/-- As the program decides it. -/
def implS (k : Nat) (l : List UInt8) : Bool := l.isEmpty || lB (frontL k l) || (uB (frontL k l) && !(frontL k l == nmL k))
theorem front_one {u a : UInt8} {k : Nat} (hu : nmL k = [u]) : frontL k [a] = if a = u then [] else [a] := by
  unfold frontL Lib.trimSuffix Lib.hasSuffix
  rw [hu]
  by_cases h : a = u
  · subst h; simp
  · rw [if_neg h, if_neg]
    simp [List.isSuffixOf, List.isPrefixOf]
    exact fun e => h e.symm
theorem front_two {u a b : UInt8} {k : Nat} (hu : nmL k = [u]) : frontL k [a, b] = if b = u then [a] else [a, b] := by
  unfold frontL Lib.trimSuffix Lib.hasSuffix
  rw [hu]
  by_cases h : b = u
  · subst h; simp [List.isSuffixOf, List.isPrefixOf]
  · rw [if_neg h, if_neg]
    simp [List.isSuffixOf, List.isPrefixOf]
    exact fun e => h e.symm
theorem front_len (k : Nat) (l : List UInt8) (hk : k < 4) : l.length ≤ (frontL k l).length + 1 := by
  obtain ⟨u, hu, _⟩ := nmL_eq hk
  unfold frontL Lib.trimSuffix
  rw [hu]
  split
  · rw [List.length_take]; simp; omega
  · omega
theorem implS_eq (k : Nat) (hk : k < 4) (l : List UInt8) : implS k l = byB k l := by
  obtain ⟨u, hu, hU, hL, _⟩ := nmL_eq hk
  match l with
  | [] => rfl
  | [a] =>
    unfold implS byB
    rw [front_one hu, hu]
    by_cases h : a = u
    · subst h; simp [lB, uB, hL, hU]
    · rw [if_neg h]; rfl
  | [a, b] =>
    unfold implS byB
    rw [front_two hu, hu]
    by_cases h : b = u
    · subst h; simp
    · rw [if_neg h]; simp [lB, uB, h]
  | a :: b :: c :: l =>
    have hl := front_len k (a :: b :: c :: l) hk
    simp only [List.length_cons] at hl
    unfold implS byB
    rw [lB_not (by omega), uB_not (by omega)]
    rfl

/-- As the model decides it. -/
def specS (x : Int) (l : List UInt8) : Bool :=
  match l with
  | [] => true
  | [a] => !(decide (Wd.unkI a < 0) && !Wd.isL a || decide (Wd.unkI a = x))
  | [a, b] => !(decide (Wd.unkI a < 0) && !Wd.isL a || decide (Wd.unkI a = x)) && decide (Wd.unkI b = x)
  | _ => false
theorem one_nm {u a : UInt8} {k : Nat} (hu : nmL k = [u]) (hI : Wd.unkI u = (k : Int)) : decide (Wd.unkI a = (k : Int)) = ([a] == nmL k) := by
  rw [Bool.eq_iff_iff]
  simp only [decide_eq_true_eq, beq_iff_eq]
  exact ⟨fun h => (unkI_inj h).1, fun h => by rw [hu] at h; injection h with h1; subst h1; exact hI⟩
theorem specS_eq (k : Nat) (hk : k < 4) (l : List UInt8) : specS (k : Int) l = byB k l := by
  obtain ⟨u, hu, hU, hL, hI⟩ := nmL_eq hk
  have key : ∀ a, (!(decide (Wd.unkI a < 0) && !Wd.isL a || decide (Wd.unkI a = (k : Int)))) = (lB [a] || uB [a] && !([a] == nmL k)) := by
    intro a
    rw [one_nm hu hI, unkI_isU]
    show (!(!Wd.isU a && !Wd.isL a || [a] == nmL k)) = (Wd.isL a || Wd.isU a && !([a] == nmL k))
    cases h1 : Wd.isL a
    · cases Wd.isU a <;> cases ([a] == nmL k) <;> rfl
    · have hne : ([a] == nmL k) = false := by
        rw [beq_eq_false_iff_ne, hu]
        intro e; injection e with e1; subst e1; rw [hL] at h1; cases h1
      rw [hne]; cases Wd.isU a <;> rfl
  match l with
  | [] => rfl
  | [a] => exact key a
  | [a, b] =>
    show ((!(decide (Wd.unkI a < 0) && !Wd.isL a || decide (Wd.unkI a = (k : Int)))) && decide (Wd.unkI b = (k : Int))) = ((lB [a] || uB [a] && !([a] == nmL k)) && ([b] == nmL k))
    rw [key a, one_nm hu hI]
  | _ :: _ :: _ :: _ => rfl

end Go.Proofs.YtfnlikjdfihggaaDoor
