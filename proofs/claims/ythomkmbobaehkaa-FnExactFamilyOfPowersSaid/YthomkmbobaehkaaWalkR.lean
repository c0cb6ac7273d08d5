/-
  The functions on the roots of words return what the plain words say: contracts.
-/
import Derived.Test.YthomkmbobaehkaaWalkW
import Derived.Test.YthomkmbobaehkaaRow
import Derived.Test.YthomkmbobaehkaaRoots
import Derived.Deep.QuietTactic
import Derived.BigQuiet
import Derived.Deep.RegionWith
import Derived.Deep.RegionHeld3
import Derived.IntWalk
import Derived.Lib.Strings
namespace Go.Proofs.Ythomkmbobaehkaa
open Go.RowKit Go

theorem rem_of (n k : Nat) : ((n : Int).tmod (k : Int)) = ((n % k : Nat) : Int) := by
  rw [Int.tmod_eq_emod_of_nonneg (by omega)]; rfl
theorem quo_of (n k : Nat) : ((n : Int).tdiv (k : Int)) = ((n / k : Nat) : Int) := by
  rw [Int.tdiv_eq_ediv_of_nonneg (by omega)]; rfl

theorem rootAt_of (s : ByteArray) (k : Nat) (hm : s.size % k = 0) (h : ((s.extract k s.size).toList == (s.extract 0 (s.size - k)).toList) = true) : Wd.rootAt s.data.toList k = true := by
  rw [ByteArray.toList_eq, ByteArray.toList_eq, Lib.extract_data, Lib.extract_data] at h
  unfold Wd.rootAt
  have e : s.data.toList.length = s.size := by simp
  rw [e]
  simp only [hm, decide_true, Bool.true_and]
  rw [List.drop_zero, Nat.sub_zero, List.take_of_length_le (by simp)] at h
  exact h
theorem not_rootAt_of (s : ByteArray) (k : Nat) (h : ((s.extract k s.size).toList == (s.extract 0 (s.size - k)).toList) = false) : Wd.rootAt s.data.toList k = false := by
  rw [ByteArray.toList_eq, ByteArray.toList_eq, Lib.extract_data, Lib.extract_data] at h
  unfold Wd.rootAt
  have e : s.data.toList.length = s.size := by simp
  rw [e]
  rw [List.drop_zero, Nat.sub_zero, List.take_of_length_le (by simp)] at h
  rw [h, Bool.and_false]
theorem not_rootAt_mod (s : ByteArray) (k : Nat) (hm : ¬ s.size % k = 0) : Wd.rootAt s.data.toList k = false := by
  unfold Wd.rootAt
  have e : s.data.toList.length = s.size := by simp
  rw [e, decide_eq_false hm, Bool.false_and]

theorem ret_str {a b : ByteArray} (h : a = b) : Ending.returned (.string a) = .returned (.string b) := by rw [h]


theorem upto_succ {l : List UInt8} {k : Nat} (h : ∀ m, 1 ≤ m → m < k → Wd.rootAt l m = false) (hk : Wd.rootAt l k = false) : ∀ m, 1 ≤ m → m < k + 1 → Wd.rootAt l m = false := by
  intro m h1 h2
  rcases Nat.lt_or_ge m k with h3 | h3
  · exact h m h1 h3
  · rw [show m = k by omega]; exact hk

set_option maxHeartbeats 400000 in
theorem specRoot_any (s : ByteArray) (w : World) (hs : s.size ≤ 1000) (h0 : 0 < s.size) :
    Calls Try.prog 107 #[.string s] w fun e w' => e = .returned (.string (s.extract 0 (Wd.rootLen s.data.toList))) ∧ Below w.heap.size w w' := by
  obtain ⟨v, hv⟩ : ∃ v, Wd.rootLen s.data.toList = v := ⟨_, rfl⟩
  rw [hv]
  have HV := hidv hv
  clear hv
  go_enter Try.func107, Try.ntmps107
  go_wp2
  go_loopw [3] (fun i wr => ∃ k : Nat, 1 ≤ k ∧ k ≤ s.size ∧ i = .int .i64 k ∧ Hid (∀ m, 1 ≤ m → m < k → Wd.rootAt s.data.toList m = false) ∧ Below w.heap.size w wr) (fun i _ => s.size - (intOf i).toNat)
  case atStart => exact ⟨1, Nat.le_refl _, by omega, rfl, hidv (fun m h1 h2 => by omega), Below.refl _ _⟩
  case round =>
    obtain ⟨k, hk1, hk, rfl, hall, hb⟩ := hrel
    by_cases hlt : k < s.size
    · by_cases hm : s.size % k = 0
      · have e1 : (((s.size : Int) % (k : Int)) == 0) = true := by
          rw [beq_iff_eq]; omega
        have hk0 : ¬ k = 0 := by omega
        have e2 : IntKind.i64.wrap ((s.size : Int) - (k : Int)) = ((s.size - k : Nat) : Int) := by
          rw [show ((s.size : Int) - (k : Int)) = ((s.size - k : Nat) : Int) by omega]
          exact IntWalk.i64_in _ (by omega)
        go_wp2
        go_quiet (fail)
        go_wp2
        · have hq : ((s.extract k s.size).toList == (s.extract 0 (s.size - k)).toList) = true := by assumption
          go_ret
          have hr : Wd.rootAt s.data.toList k = true := rootAt_of s k hm hq
          have := HV.out
          rw [Wd.rootLen_at s.data.toList k hk1 (by simpa using hlt) hr hall.out] at this
          subst this
          exact ⟨rfl, below_drewN hb _⟩
        · have hq : ((s.extract k s.size).toList == (s.extract 0 (s.size - k)).toList) = false := by assumption
          go_roundw
          case rel => exact ⟨k + 1, by omega, by omega, by go_num, hidv (upto_succ hall.out (not_rootAt_of s k hq)), below_drewN hb _⟩
          case measure => simp [intOf]; omega
      · have e1 : (((s.size : Int) % (k : Int)) == 0) = false := by
          rw [beq_eq_false_iff_ne]; omega
        have hk0 : ¬ k = 0 := by omega
        go_wp2
        go_quiet (fail)
        go_wp2
        have hr := not_rootAt_mod s k hm
        go_roundw
        case rel => exact ⟨k + 1, by omega, by omega, by go_num, hidv (upto_succ hall.out hr), below_drewN hb _⟩
        case measure => simp [intOf]; omega
    · go_wp2
      go_ret
      have := HV.out
      rw [Wd.rootLen_none s.data.toList (fun m h1 h2 => hall.out m h1 (by simp at h2; omega))] at this
      subst this
      refine ⟨ret_str ?_, hb⟩
      simp


theorem repeat_of (s : ByteArray) (k : Nat) (hk1 : 1 ≤ k) (hk : k < s.size) (hm : s.size % k = 0) (b : Bool)
    (h : (({ data := (Lib.repeatL (s.extract 0 k).data.toList (s.size / k)).toArray } : ByteArray).toList == s.toList) = b) : Wd.rootAt s.data.toList k = b := by
  rw [ByteArray.toList_mk, ByteArray.toList_eq, Lib.extract_data, List.drop_zero, Nat.sub_zero] at h
  have e : s.data.toList.length = s.size := by simp
  rw [← Wd.repeat_iff s.data.toList k hk1 (by omega) (by rw [e]; exact hm), e]
  exact h

set_option maxHeartbeats 1000000 in
theorem implRoot_any (s : ByteArray) (w : World) (hs : s.size ≤ 1000) (h0 : 0 < s.size) :
    Calls Try.prog 108 #[.string s] w fun e w' => e = .returned (.int .i64 (Wd.rootLen s.data.toList : Nat)) ∧ Below w.heap.size w w' := by
  obtain ⟨v, hv⟩ : ∃ v, Wd.rootLen s.data.toList = v := ⟨_, rfl⟩
  rw [hv]
  have HV := hidv hv
  clear hv
  go_enter Try.func108, Try.ntmps108
  go_wp2
  go_loopw [3] (fun i wr => ∃ k : Nat, 1 ≤ k ∧ k ≤ s.size ∧ i = .int .i64 k ∧ Hid (∀ m, 1 ≤ m → m < k → Wd.rootAt s.data.toList m = false) ∧ Below w.heap.size w wr) (fun i _ => s.size - (intOf i).toNat)
  case atStart => exact ⟨1, Nat.le_refl _, by omega, rfl, hidv (fun m h1 h2 => by omega), Below.refl _ _⟩
  case round =>
    obtain ⟨k, hk1, hk, rfl, hall, hb⟩ := hrel
    by_cases hlt : k < s.size
    · by_cases hm : s.size % k = 0
      · have e1 : (((s.size : Int) % (k : Int)) == 0) = true := by
          rw [beq_iff_eq]; omega
        have hk0 : ¬ k = 0 := by omega
        have e2 : IntKind.i64.wrap ((s.size : Int) / (k : Int)) = ((s.size / k : Nat) : Int) := by
          show IntKind.i64.wrap ((s.size / k : Nat) : Int) = _
          exact IntWalk.i64_in _ (by have := Nat.div_le_self s.size k; generalize s.size / k = q at *; omega)
        have e3 : ((s.size : Int).tmod (k : Int) == 0) = true := by
          rw [rem_of, beq_iff_eq]; omega
        have hsz : (s.extract 0 k).size * (s.size / k) ≤ 140737488355328 := by
          have h1 : (s.extract 0 k).size ≤ 1000 := by simp; omega
          have h2 : s.size / k ≤ 1000 := Nat.le_trans (Nat.div_le_self _ _) hs
          exact Nat.le_trans (Nat.mul_le_mul h1 h2) (by omega)
        have hc : s.size / k ≤ 9223372036854775807 := Nat.le_trans (Nat.div_le_self _ _) (by omega)
        obtain ⟨r, hr⟩ : ∃ r : ByteArray, r = { data := (Lib.repeatL (s.extract 0 k).data.toList (s.size / k)).toArray } := ⟨_, rfl⟩
        have HC := fun wx => Try.strings_Repeat (s.extract 0 k) (s.size / k) wx hc hsz
        rw [← hr] at HC
        have HRR := hidv hr
        clear hr
        have HM := hidv hm
        have HE2 := hidv e2
        clear hm hsz hc e2
        have HR := hidv HC
        clear HC
        go_wp2
        go_region_held3 (fun w' => Below w.heap.size w w') (first | exact Below.drew hb | exact below_on (Below.drew hb) hbw) (first | (go_at_call 98; rw [HE2.out]; refine (HR.out _).mono ?_; rintro e w1 ⟨rfl, hbw⟩))
        go_wp2
        · have hq : (r.toList == s.toList) = true := by assumption
          have hbe : Below w.heap.size w w1 := by assumption
          rw [HRR.out] at hq
          have hr2 := repeat_of s k hk1 hlt HM.out _ hq
          go_ret
          have := HV.out
          rw [Wd.rootLen_at s.data.toList k hk1 (by simpa using hlt) hr2 hall.out] at this
          subst this
          exact ⟨rfl, hbe⟩
        · have hq : (r.toList == s.toList) = false := by assumption
          have hbe : Below w.heap.size w w1 := by assumption
          rw [HRR.out] at hq
          have hr2 := repeat_of s k hk1 hlt HM.out _ hq
          go_roundw
          case rel => exact ⟨k + 1, by omega, by omega, by go_num, hidv (upto_succ hall.out hr2), hbe⟩
          case measure => simp [intOf]; omega
      · have e1 : (((s.size : Int) % (k : Int)) == 0) = false := by
          rw [beq_eq_false_iff_ne]; omega
        have hk0 : ¬ k = 0 := by omega
        go_wp2
        go_quiet (fail)
        go_wp2
        have hr := not_rootAt_mod s k hm
        go_roundw
        case rel => exact ⟨k + 1, by omega, by omega, by go_num, hidv (upto_succ hall.out hr), below_drewN hb _⟩
        case measure => simp [intOf]; omega
    · go_wp2
      go_ret
      have := HV.out
      rw [Wd.rootLen_none s.data.toList (fun m h1 h2 => hall.out m h1 (by simp at h2; omega))] at this
      subst this
      refine ⟨?_, hb⟩
      simp


theorem rootLen_bounds (s : ByteArray) (h0 : 0 < s.size) : 1 ≤ Wd.rootLen s.data.toList ∧ Wd.rootLen s.data.toList ≤ s.size := by
  have := Wd.rootLen_spec s.data.toList (by simpa using h0)
  exact ⟨this.1, by have := this.2.1; simpa using this⟩

end Go.Proofs.Ythomkmbobaehkaa
