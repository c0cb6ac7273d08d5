/-
  Whether a text is a letter, or an unknown: contracts of the program's own, at any text.
-/
import Derived.Test.YtamhhgcghjhifaaDoorRow
import Derived.Test.YtamhhgcghjhifaaDoorWalkW
import Derived.Test.YtamhhgcghjhifaaDoorShelf
namespace Go.Proofs.YtamhhgcghjhifaaDoor
open Go.RowKit Go
set_option linter.unusedVariables false

theorem lu_ba {x : ByteArray} {l : List UInt8} (h : x.data.toList = l) : x = ⟨⟨l⟩⟩ := by
  cases x with
  | mk a => cases a with
    | mk t => simp at h; rw [h]
theorem lu_one {s : ByteArray} (h : s.size = 1) : ∃ b, s = ⟨#[b]⟩ := by
  have h1 : s.data.toList.length = 1 := by simpa using h
  match hs : s.data.toList, h1 with
  | [b], _ => exact ⟨b, lu_ba hs⟩

/-- A text is a letter; an unknown. -/
def lB : List UInt8 → Bool | [b] => Wd.isL b | _ => false
def uB : List UInt8 → Bool | [b] => Wd.isU b | _ => false
theorem lB_not {l : List UInt8} (h : l.length ≠ 1) : lB l = false := by
  match l, h with
  | [], _ => rfl
  | [_], h => exact absurd rfl h
  | _ :: _ :: _, _ => rfl
theorem uB_not {l : List UInt8} (h : l.length ≠ 1) : uB l = false := by
  match l, h with
  | [], _ => rfl
  | [_], h => exact absurd rfl h
  | _ :: _ :: _, _ => rfl

theorem dec_contains (t : List UInt8) (b : UInt8) : decide (0 ≤ Lib.indexByte t b) = t.contains b := by
  have := Wd.indexByte_neg t b
  rw [Bool.eq_iff_iff] at this ⊢
  simp at this ⊢
  cases h : t.contains b
  · simp at h; simp [h] at this ⊢; omega
  · simp at h; simp [h] at this ⊢; omega
theorem contains_letters (b : UInt8) : ([97, 98, 99, 100] : List UInt8).contains b = Wd.isL b := by
  unfold Wd.isL
  rw [Bool.eq_iff_iff]
  simp [← UInt8.toNat_inj]
  omega
theorem contains_unknowns (b : UInt8) : ([88, 89, 90, 87] : List UInt8).contains b = Wd.isU b := by
  unfold Wd.isU
  rw [Bool.eq_iff_iff]
  simp [or_assoc]


set_option maxHeartbeats 400000 in
theorem isU_any (s : ByteArray) (w : World) (hs : s.size ≤ maxLen) :
    Calls Tryd.prog 18 #[.string s] w fun e w' => e = .returned (.bool (uB s.data.toList)) ∧ w' = w := by
  by_cases h1 : s.size = 1
  · obtain ⟨b, rfl⟩ := lu_one h1
    have c0 := fun W => (Tryd.strings_Contains_one ⟨#[88, 89, 90, 87]⟩ b W)
    have hc : decide (0 ≤ Lib.indexByte [88, 89, 90, 87] b) = uB [b] := by rw [dec_contains, contains_unknowns]; rfl
    show Calls _ _ _ _ fun e w' => e = .returned (.bool (uB [b])) ∧ w' = w
    obtain ⟨p, hp⟩ : ∃ p, uB [b] = p := ⟨_, rfl⟩
    rw [hp] at hc ⊢
    have C0 : Hid (∀ W : World, Calls Tryd.prog 28 #[.string ⟨#[88, 89, 90, 87]⟩, .string ⟨#[b]⟩] W fun e w' => e = .returned (.bool p) ∧ w' = W) := by
      intro W
      have := c0 W
      rw [show decide (0 ≤ Lib.indexByte (⟨#[88, 89, 90, 87]⟩ : ByteArray).data.toList b) = p from hc] at this
      exact this
    clear c0 hc hp
    go_enter Tryd.func18, Tryd.ntmps18
    go_wp2_with fail
    refine (C0.out _).mono ?_
    rintro e w' ⟨rfl, rfl⟩
    go_wp2_with fail
    go_ret
    exact ⟨rfl, rfl⟩
  · have hb : ((s.size : Int) == 1) = false := by rw [beq_eq_false_iff_ne]; omega
    rw [uB_not (by simpa using h1)]
    unfold maxLen at hs
    clear h1
    go_enter Tryd.func18, Tryd.ntmps18
    go_wp2_with fail
    go_ret
    exact ⟨rfl, rfl⟩

end Go.Proofs.YtamhhgcghjhifaaDoor
