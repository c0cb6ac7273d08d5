/-
  The model's root of a word only reads: a contract.
-/
import Derived.Test.YthomkmbobaehkaaWalkR
namespace Go.Proofs.Ythomkmbobaehkaa
open Go.RowKit Go
set_option linter.unusedVariables false

set_option maxHeartbeats 400000 in
theorem specRootQ_any (s : ByteArray) (w : World) (hs : s.size ≤ 1000) (h0 : 0 < s.size) :
    Calls Try.prog 107 #[.string s] w fun e w' => e = .returned (.string (s.extract 0 (Wd.rootLen s.data.toList))) ∧ ∃ m, w' = w.drewN m := by
  obtain ⟨v, hv⟩ : ∃ v, Wd.rootLen s.data.toList = v := ⟨_, rfl⟩
  rw [hv]
  have HV := hidv hv
  clear hv
  go_enter Try.func107, Try.ntmps107
  go_wp2
  go_loopw [3] (fun i wr => ∃ k : Nat, 1 ≤ k ∧ k ≤ s.size ∧ i = .int .i64 k ∧ Hid (∀ m, 1 ≤ m → m < k → Wd.rootAt s.data.toList m = false) ∧ ∃ n, wr = w.drewN n) (fun i _ => s.size - (intOf i).toNat)
  case atStart => exact ⟨1, Nat.le_refl _, by omega, rfl, hidv (fun m h1 h2 => by omega), 0, rfl⟩
  case round =>
    obtain ⟨k, hk1, hk, rfl, hall, n, rfl⟩ := hrel
    by_cases hlt : k < s.size
    · by_cases hm : s.size % k = 0
      · have e1 : (((s.size : Int) % (k : Int)) == 0) = true := by
          rw [beq_iff_eq]; omega
        have hk0 : ¬ k = 0 := by omega
        have e2 : IntKind.i64.wrap ((s.size : Int) - (k : Int)) = ((s.size - k : Nat) : Int) := by
          rw [show ((s.size : Int) - (k : Int)) = ((s.size - k : Nat) : Int) by omega]
          exact IntWalk.i64_in _ (by omega)
        go_wp2
        go_quiet (fail)
        go_wp2
        · have hq : ((s.extract k s.size).toList == (s.extract 0 (s.size - k)).toList) = true := by assumption
          go_ret
          have hr : Wd.rootAt s.data.toList k = true := rootAt_of s k hm hq
          have := HV.out
          rw [Wd.rootLen_at s.data.toList k hk1 (by simpa using hlt) hr hall.out] at this
          subst this
          exact ⟨rfl, _, rfl⟩
        · have hq : ((s.extract k s.size).toList == (s.extract 0 (s.size - k)).toList) = false := by assumption
          go_roundw
          case rel => exact ⟨k + 1, by omega, by omega, by go_num, hidv (upto_succ hall.out (not_rootAt_of s k hq)), _, rfl⟩
          case measure => simp [intOf]; omega
      · have e1 : (((s.size : Int) % (k : Int)) == 0) = false := by
          rw [beq_eq_false_iff_ne]; omega
        have hk0 : ¬ k = 0 := by omega
        go_wp2
        go_quiet (fail)
        go_wp2
        have hr := not_rootAt_mod s k hm
        go_roundw
        case rel => exact ⟨k + 1, by omega, by omega, by go_num, hidv (upto_succ hall.out hr), _, rfl⟩
        case measure => simp [intOf]; omega
    · go_wp2
      go_ret
      have := HV.out
      rw [Wd.rootLen_none s.data.toList (fun m h1 h2 => hall.out m h1 (by simp at h2; omega))] at this
      subst this
      refine ⟨ret_str ?_, _, rfl⟩
      simp



end Go.Proofs.Ythomkmbobaehkaa
