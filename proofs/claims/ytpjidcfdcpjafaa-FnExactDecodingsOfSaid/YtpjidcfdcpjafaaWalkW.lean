/-
  The functions on words and terms return what the plain words say: contracts, each for every argument that Go can hold.
-/
import Derived.Test.YtpjidcfdcpjafaaShelf
import Derived.Test.YtpjidcfdcpjafaaWords
import Derived.WalkKit
import Derived.WalkLawsBesides
import Derived.Outline
namespace Go.Proofs.Ytpjidcfdcpjafaa
open Go.RowKit Go

theorem hidv {p : Prop} (h : p) : RowKit.Hid p := h

theorem ret_bool {a b : Bool} (h : a = b) : Ending.returned (.bool a) = .returned (.bool b) := by rw [h]

theorem all_take_succ (l : List UInt8) (f : UInt8 → Bool) (k : Nat) (h : k < l.length) : (l.take (k + 1)).all f = ((l.take k).all f && f l[k]) := by
  rw [List.take_succ_eq_append_getElem h, List.all_append]
  simp

theorem all_false_of (l : List UInt8) (f : UInt8 → Bool) (k : Nat) (h : k < l.length) (hf : f l[k] = false) : l.all f = false := by
  rw [List.all_eq_false]
  exact ⟨l[k], List.getElem_mem h, by simp [hf]⟩

set_option maxHeartbeats 400000 in
theorem madeOf_any (s t : ByteArray) (most : Int) (w : World) (hs : s.size ≤ maxLen) :
    Calls Try.prog 67 #[.string s, .string t, .int .i64 most] w fun e w' => e = .returned (.bool (Wd.madeB s.data.toList t.data.toList most)) ∧ w = w' := by
  unfold maxLen at hs
  obtain ⟨v, hv⟩ : ∃ v, Wd.madeB s.data.toList t.data.toList most = v := ⟨_, rfl⟩
  rw [hv]
  by_cases hm : most < (s.size : Int)
  · have hv : v = false := by
      rw [← hv]
      unfold Wd.madeB
      have : decide ((s.data.toList.length : Int) ≤ most) = false := by simpa using hm
      rw [this, Bool.false_and]
    subst hv
    go_enter Try.func67, Try.ntmps67
    go_wp2
    go_ret
    exact ⟨rfl, rfl⟩
  · have HV : Hid (v = s.data.toList.all (fun c => t.data.toList.contains c)) := by
      show _ = _
      rw [← hv]
      unfold Wd.madeB
      have : decide ((s.data.toList.length : Int) ≤ most) = true := by simpa using hm
      rw [this, Bool.true_and]
    clear hv
    go_enter Try.func67, Try.ntmps67
    go_wp2
    go_loop [14] (fun i => ∃ k : Nat, k ≤ s.size ∧ i = .int .i64 k ∧ Hid ((s.data.toList.take k).all (fun c => t.data.toList.contains c) = true)) (fun i => s.size - (intOf i).toNat)
    case atStart => exact ⟨0, Nat.zero_le _, rfl, hidv (by simp)⟩
    case round =>
      obtain ⟨k, hk, rfl, hall⟩ := hrel
      by_cases hlt : k < s.size
      · go_wp2_with (go_at_call 94; refine (Try.strings_IndexByte _ _ _).mono ?_; rintro e w' ⟨rfl, rfl⟩)
        · have hneg := Wd.indexByte_neg t.data.toList s[k]
          have h0 : Lib.indexByte t.data.toList s[k] < 0 := by assumption
          go_ret
          refine ⟨ret_bool ?_, rfl⟩
          rw [HV.out]
          refine (all_false_of _ _ k (by simpa using hlt) ?_).symm
          rw [decide_eq_true h0] at hneg
          show t.data.toList.contains s[k] = false
          simpa using hneg
        · have hneg := Wd.indexByte_neg t.data.toList s[k]
          have h0 : 0 ≤ Lib.indexByte t.data.toList s[k] := by assumption
          go_round
          case rel =>
            refine ⟨k + 1, by omega, by go_num, hidv ?_⟩
            rw [all_take_succ _ _ k (by simpa using hlt), hall.out, Bool.true_and]
            rw [decide_eq_false (by omega)] at hneg
            show t.data.toList.contains s[k] = true
            simpa using hneg
          case measure => simp [intOf]; omega
      · go_wp2
        go_ret
        exact ⟨ret_bool (by rw [HV.out]; have := hall.out; rw [List.take_of_length_le (by simp; omega)] at this; exact this.symm), rfl⟩


theorem isL_true {b : UInt8} (h1 : (97 : Int) ≤ b.toNat) (h2 : (b.toNat : Int) ≤ 100) : Wd.isL b = true := by
  unfold Wd.isL; simp; omega
theorem isL_false {b : UInt8} (h : ¬ ((97 : Int) ≤ b.toNat ∧ (b.toNat : Int) ≤ 100)) : Wd.isL b = false := by
  unfold Wd.isL; rw [Bool.eq_false_iff]; simp; omega

set_option maxHeartbeats 400000 in
theorem letter_any (b : UInt8) (w : World) :
    Calls Try.prog 107 #[.int .u8 b.toNat] w fun e w' => e = .returned (.bool (Wd.isL b)) ∧ w = w' := by
  obtain ⟨v, hv⟩ : ∃ v, Wd.isL b = v := ⟨_, rfl⟩
  rw [hv]
  by_cases h1 : (97 : Int) ≤ b.toNat
  · by_cases h2 : (b.toNat : Int) ≤ 100
    · obtain rfl : v = true := by rw [← hv]; exact isL_true h1 h2
      clear hv
      go_enter Try.func107, Try.ntmps107
      go_wp2
      go_ret
      exact ⟨rfl, rfl⟩
    · obtain rfl : v = false := by rw [← hv]; exact isL_false (fun h => h2 h.2)
      clear hv
      go_enter Try.func107, Try.ntmps107
      go_wp2
      go_ret
      exact ⟨rfl, rfl⟩
  · obtain rfl : v = false := by rw [← hv]; exact isL_false (fun h => h1 h.1)
    clear hv
    go_enter Try.func107, Try.ntmps107
    go_wp2
    go_ret
    exact ⟨rfl, rfl⟩

/-- The number of an unknown, -1 if a byte is none. -/
def Wd.unkI (b : UInt8) : Int := if b = 88 then 0 else if b = 89 then 1 else if b = 90 then 2 else if b = 87 then 3 else -1

theorem ret_int {k : IntKind} {a b : Int} (h : a = b) : Ending.returned (.int k a) = .returned (.int k b) := by rw [h]

set_option maxHeartbeats 400000 in
theorem specWord_any (s : ByteArray) (w : World) (hs : s.size ≤ maxLen) :
    Calls Try.prog 76 #[.string s] w fun e w' => e = .returned (.bool (Wd.wordB s.data.toList)) ∧ w = w' := by
  unfold maxLen at hs
  obtain ⟨v, hv⟩ : ∃ v, Wd.wordB s.data.toList = v := ⟨_, rfl⟩
  rw [hv]
  have HV : Hid (v = (decide (s.data.toList.length ≤ 60) && s.data.toList.all Wd.isL)) := hv.symm
  clear hv
  go_enter Try.func76, Try.ntmps76
  go_wp2
  go_loop [3] (fun i => ∃ k : Nat, k ≤ s.size ∧ i = .int .i64 k ∧ Hid ((s.data.toList.take k).all Wd.isL = true)) (fun i => s.size - (intOf i).toNat)
  case atStart => exact ⟨0, Nat.zero_le _, rfl, hidv (by simp)⟩
  case round =>
    obtain ⟨k, hk, rfl, hall⟩ := hrel
    by_cases hlt : k < s.size
    · go_wp2_with (go_at_call 107; refine (letter_any s[k] _).mono ?_; rintro e w' ⟨rfl, rfl⟩)
      · have hf : (!Wd.isL s[k]) = true := by assumption
        go_ret
        refine ⟨ret_bool ?_, rfl⟩
        rw [HV.out, all_false_of s.data.toList Wd.isL k (by simpa using hlt) (by show Wd.isL s[k] = false; simpa using hf), Bool.and_false]
      · have hf : (!Wd.isL s[k]) = false := by assumption
        go_round
        case rel =>
          refine ⟨k + 1, by omega, by go_num, hidv ?_⟩
          rw [all_take_succ _ _ k (by simpa using hlt), hall.out, Bool.true_and]
          show Wd.isL s[k] = true
          simpa using hf
        case measure => simp [intOf]; omega
    · go_wp2
      go_ret
      refine ⟨ret_bool ?_, rfl⟩
      have h2 := hall.out
      rw [List.take_of_length_le (by simp; omega)] at h2
      rw [HV.out, h2, Bool.and_true, Bool.eq_iff_iff]
      simp; omega

theorem unkI_neg (b : UInt8) : decide (Wd.unkI b < 0) = !Wd.isU b := by
  unfold Wd.unkI Wd.isU
  by_cases h1 : b = 88
  · subst h1; decide
  by_cases h2 : b = 89
  · subst h2; decide
  by_cases h3 : b = 90
  · subst h3; decide
  by_cases h4 : b = 87
  · subst h4; decide
  rw [if_neg h1, if_neg h2, if_neg h3, if_neg h4, beq_eq_false_iff_ne.2 h1, beq_eq_false_iff_ne.2 h2, beq_eq_false_iff_ne.2 h3, beq_eq_false_iff_ne.2 h4]
  decide

theorem implValidWord_any (s : ByteArray) (w : World) (hs : s.size ≤ maxLen) :
    Calls Try.prog 55 #[.string s] w fun e w' => e = .returned (.bool (Wd.wordB s.data.toList)) ∧ w = w' := by
  have hm := madeOf_any s { data := #[97, 98, 99, 100] } 60 w hs
  rw [show Wd.madeB s.data.toList ({ data := #[97, 98, 99, 100] } : ByteArray).data.toList 60 = Wd.wordB s.data.toList from Wd.madeB_word _] at hm
  go_enter Try.func55, Try.ntmps55
  go_wp2_with (go_at_call 67; refine hm.mono ?_; rintro e w' ⟨rfl, rfl⟩)
  go_ret
  exact ⟨rfl, rfl⟩


set_option maxHeartbeats 400000 in
theorem l00In_any (n lo hi : Int) (w : World) (v : Bool) (hv : (decide (lo ≤ n) && decide (n ≤ hi)) = v) :
    Calls Try.prog 54 #[.int .i64 n, .int .i64 lo, .int .i64 hi] w fun e w' => e = .returned (.bool v) ∧ w = w' := by
  by_cases h1 : lo ≤ n
  · by_cases h2 : n ≤ hi
    · obtain rfl : v = true := by rw [← hv]; simp [h1, h2]
      clear hv
      go_enter Try.func54, Try.ntmps54
      go_wp2
      go_ret
      exact ⟨rfl, rfl⟩
    · obtain rfl : v = false := by rw [← hv]; simp [h2]
      clear hv
      go_enter Try.func54, Try.ntmps54
      go_wp2
      go_ret
      exact ⟨rfl, rfl⟩
  · obtain rfl : v = false := by rw [← hv]; simp [h1]
    clear hv
    go_enter Try.func54, Try.ntmps54
    go_wp2
    go_ret
    exact ⟨rfl, rfl⟩

end Go.Proofs.Ytpjidcfdcpjafaa
