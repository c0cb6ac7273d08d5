/-
  The model's questions whether a word begins, or ends, with another one: contracts.
-/
import Derived.Test.YtpjidcfdcpjafaaWalkW
import Derived.WalkSpells
namespace Go.Proofs.Ytpjidcfdcpjafaa
open Go.RowKit Go
set_option linter.unusedVariables false

theorem begins_iff (x y : ByteArray) (h : y.size ≤ x.size) : ((x.extract 0 y.size).toList == y.toList) = Lib.hasPrefix x.data.toList y.data.toList := by
  rw [Bool.eq_iff_iff, beq_iff_eq, ByteArray.toList_eq, ByteArray.toList_eq, Lib.extract_data]
  unfold Lib.hasPrefix
  rw [List.isPrefixOf_iff_prefix, List.prefix_iff_eq_take]
  have e : y.data.toList.length = y.size := by simp
  rw [e, List.drop_zero, Nat.sub_zero]
  exact ⟨fun h => h.symm, fun h => h.symm⟩
theorem begins_no (x y : ByteArray) (h : x.size < y.size) : Lib.hasPrefix x.data.toList y.data.toList = false := by
  rw [Bool.eq_false_iff]
  intro hp
  unfold Lib.hasPrefix at hp
  rw [List.isPrefixOf_iff_prefix] at hp
  have := hp.length_le
  have e : y.data.toList.length = y.size := by simp
  have e2 : x.data.toList.length = x.size := by simp
  omega
theorem ends_iff (x y : ByteArray) (h : y.size ≤ x.size) : ((x.extract (x.size - y.size) x.size).toList == y.toList) = Lib.hasSuffix x.data.toList y.data.toList := by
  rw [Bool.eq_iff_iff, beq_iff_eq, ByteArray.toList_eq, ByteArray.toList_eq, Lib.extract_data]
  unfold Lib.hasSuffix
  rw [List.isSuffixOf_iff_suffix, List.suffix_iff_eq_drop]
  have e : y.data.toList.length = y.size := by simp
  have e2 : x.data.toList.length = x.size := by simp
  rw [e, e2, List.take_of_length_le (by rw [List.length_drop, e2]; omega)]
  exact ⟨fun h => h.symm, fun h => h.symm⟩
theorem ends_no (x y : ByteArray) (h : x.size < y.size) : Lib.hasSuffix x.data.toList y.data.toList = false := by
  rw [Bool.eq_false_iff]
  intro hp
  unfold Lib.hasSuffix at hp
  rw [List.isSuffixOf_iff_suffix] at hp
  have := hp.length_le
  have e : y.data.toList.length = y.size := by simp
  have e2 : x.data.toList.length = x.size := by simp
  omega

set_option maxHeartbeats 400000 in
theorem begins_any (x y : ByteArray) (w : World) (hx : x.size ≤ maxLen) (hy : y.size ≤ maxLen) :
    Calls Try.prog 110 #[.string x, .string y] w fun e w' => e = .returned (.bool (Lib.hasPrefix x.data.toList y.data.toList)) ∧ w = w' := by
  unfold maxLen at hx hy
  by_cases h : y.size ≤ x.size
  · have hb := hidv (begins_iff x y h)
    obtain ⟨q, hq⟩ : ∃ q, Lib.hasPrefix x.data.toList y.data.toList = q := ⟨_, rfl⟩
    rw [hq] at hb ⊢
    clear hq
    go_enter Try.func110, Try.ntmps110
    go_wp2_with fail
    go_ret
    exact ⟨ret_bool hb.out, rfl⟩
  · rw [begins_no x y (by omega)]
    go_enter Try.func110, Try.ntmps110
    go_wp2_with fail
    go_ret
    exact ⟨rfl, rfl⟩

set_option maxHeartbeats 400000 in
theorem ends_any (x y : ByteArray) (w : World) (hx : x.size ≤ maxLen) (hy : y.size ≤ maxLen) :
    Calls Try.prog 108 #[.string x, .string y] w fun e w' => e = .returned (.bool (Lib.hasSuffix x.data.toList y.data.toList)) ∧ w = w' := by
  unfold maxLen at hx hy
  by_cases h : y.size ≤ x.size
  · have hb := hidv (ends_iff x y h)
    obtain ⟨q, hq⟩ : ∃ q, Lib.hasSuffix x.data.toList y.data.toList = q := ⟨_, rfl⟩
    rw [hq] at hb ⊢
    clear hq
    go_enter Try.func108, Try.ntmps108
    go_wp2_with fail
    go_ret
    exact ⟨ret_bool hb.out, rfl⟩
  · rw [ends_no x y (by omega)]
    go_enter Try.func108, Try.ntmps108
    go_wp2_with fail
    go_ret
    exact ⟨rfl, rfl⟩

end Go.Proofs.Ytpjidcfdcpjafaa
