/-
  What the longer one of two words has behind the other one, of the program and of the model: contracts.
-/
import Derived.Test.YtpjidcfdcpjafaaBe7
import Derived.Test.YtpjidcfdcpjafaaRow
import Derived.OwnWalk
namespace Go.Proofs.Ytpjidcfdcpjafaa
open Go.RowKit Go
set_option linter.unusedVariables false

def RsR (t : ByteArray) (q : Bool) (e : Ending) : Prop := ∃ r, e = .returned (.tuple #[.string r, .bool q]) ∧ (q = true → r = t)
def OvRs (a : Int) (t : ByteArray) (q : Bool) (e : Ending) : Prop := ∃ r, e = .returned (.tuple #[.int .i64 a, .string r, .bool q]) ∧ (q = true → r = t)
def ovS (u v : ByteArray) : Int := if v.size < u.size then 1 else if u.size < v.size then 2 else 0
def ovF (u v : ByteArray) : Bool := if v.size ≤ u.size then Lib.hasPrefix u.data.toList v.data.toList else Lib.hasPrefix v.data.toList u.data.toList
def ovR (u v : ByteArray) : ByteArray := if v.size ≤ u.size then u.extract v.size u.size else v.extract u.size v.size

set_option maxHeartbeats 400000 in
theorem cutLiteQ_any (s p : ByteArray) (w : World) (hs : s.size ≤ maxLen) (q : Bool) (hq : Lib.hasPrefix s.data.toList p.data.toList = q) :
    Calls Try.prog 114 #[.string s, .string p] w fun e w' => RsR (s.extract p.size s.size) q e ∧ w = w' := by
  have C := hidv (Try.stringslite_HasPrefix s p w)
  rw [hq] at C
  have hl : q = true → p.size ≤ s.size := fun h => by
    rcases Nat.lt_or_ge s.size p.size with h2 | h2
    · rw [begins_no s p h2] at hq; rw [h] at hq; cases hq
    · exact h2
  have HL := hidv hl
  clear hl
  unfold maxLen at hs
  clear hq
  go_enter Try.func114, Try.ntmps114
  go_wp2_with fail
  refine C.out.mono ?_
  rintro e w' ⟨rfl, rfl⟩
  cases q
  · go_wp2_with fail
    go_ret2
    exact ⟨⟨s, rfl, fun h => by cases h⟩, rfl⟩
  · have hl2 := HL.out rfl
    go_wp2_with fail
    go_ret2
    exact ⟨⟨_, rfl, fun _ => rfl⟩, rfl⟩

set_option maxHeartbeats 400000 in
theorem cutQ_any (s p : ByteArray) (w : World) (hs : s.size ≤ maxLen) (q : Bool) (hq : Lib.hasPrefix s.data.toList p.data.toList = q) :
    Calls Try.prog 91 #[.string s, .string p] w fun e w' => RsR (s.extract p.size s.size) q e ∧ w = w' := by
  have C := hidv (cutLiteQ_any s p w hs q hq)
  skip
  unfold maxLen at hs
  clear hq
  go_enter Try.func91, Try.ntmps91
  go_wp2_with fail
  refine C.out.mono ?_
  rintro e w' ⟨⟨r, rfl, hr⟩, rfl⟩
  have HR := hidv hr
  clear hr
  go_wp2_with fail
  go_ret2
  exact ⟨⟨r, rfl, HR.out⟩, rfl⟩

set_option maxHeartbeats 400000 in
theorem restB_any (u v : ByteArray) (w : World) (hu : u.size ≤ maxLen) (hv : v.size ≤ maxLen) :
    Calls Try.prog 71 #[.string u, .string v] w fun e w' => RsR (ovR u v) (ovF u v) e ∧ w = w' := by
  by_cases h : v.size ≤ u.size
  · have C := cutQ_any u v w hu _ rfl
    have e1 : ovF u v = Lib.hasPrefix u.data.toList v.data.toList := by unfold ovF; rw [if_pos h]
    have e2 : ovR u v = u.extract v.size u.size := by unfold ovR; rw [if_pos h]
    rw [← e1, ← e2] at C
    have HC := hidv C
    obtain ⟨q, hq⟩ : ∃ q, ovF u v = q := ⟨_, rfl⟩
    obtain ⟨t, ht⟩ : ∃ t, ovR u v = t := ⟨_, rfl⟩
    rw [hq, ht] at HC ⊢
    unfold maxLen at hu hv
    clear e1 e2 C hq ht
    go_enter Try.func71, Try.ntmps71
    go_wp2_with fail
    refine HC.out.mono ?_
    rintro e w' ⟨⟨r, rfl, hr⟩, rfl⟩
    have HR := hidv hr
    clear hr
    go_wp2_with fail
    go_ret2
    exact ⟨⟨r, rfl, HR.out⟩, rfl⟩
  · have C := cutQ_any v u w hv _ rfl
    have e1 : ovF u v = Lib.hasPrefix v.data.toList u.data.toList := by unfold ovF; rw [if_neg h]
    have e2 : ovR u v = v.extract u.size v.size := by unfold ovR; rw [if_neg h]
    rw [← e1, ← e2] at C
    have HC := hidv C
    obtain ⟨q, hq⟩ : ∃ q, ovF u v = q := ⟨_, rfl⟩
    obtain ⟨t, ht⟩ : ∃ t, ovR u v = t := ⟨_, rfl⟩
    rw [hq, ht] at HC ⊢
    unfold maxLen at hu hv
    clear e1 e2 C hq ht
    go_enter Try.func71, Try.ntmps71
    go_wp2_with fail
    refine HC.out.mono ?_
    rintro e w' ⟨⟨r, rfl, hr⟩, rfl⟩
    have HR := hidv hr
    clear hr
    go_wp2_with fail
    go_ret2
    exact ⟨⟨r, rfl, HR.out⟩, rfl⟩

set_option maxHeartbeats 400000 in
theorem overhang_any (u v : ByteArray) (w : World) (hu : u.size ≤ maxLen) (hv : v.size ≤ maxLen) :
    Calls Try.prog 75 #[.string u, .string v] w fun e w' => OvRs (ovS u v) (ovR u v) (ovF u v) e ∧ w = w' := by
  have HC := hidv (restB_any u v w hu hv)
  obtain ⟨q, hq⟩ : ∃ q, ovF u v = q := ⟨_, rfl⟩
  obtain ⟨t, ht⟩ : ∃ t, ovR u v = t := ⟨_, rfl⟩
  rw [hq, ht] at HC ⊢
  unfold maxLen at hu hv
  clear hq ht
  unfold ovS
  rcases Nat.lt_trichotomy v.size u.size with h | h | h
  · rw [if_pos h]
    go_enter Try.func75, Try.ntmps75
    go_wp2_with fail
    refine HC.out.mono ?_
    rintro e w' ⟨⟨r, rfl, hr⟩, rfl⟩
    have HR := hidv hr
    clear hr
    go_wp2_with fail
    go_ret3
    exact ⟨⟨r, rfl, HR.out⟩, rfl⟩
  · rw [if_neg (by omega), if_neg (by omega)]
    have hn1 : ¬ v.size < u.size := by omega
    have hn2 : ¬ u.size < v.size := by omega
    have HH := hidv h
    clear h
    go_enter Try.func75, Try.ntmps75
    go_wp2_with fail
    refine HC.out.mono ?_
    rintro e w' ⟨⟨r, rfl, hr⟩, rfl⟩
    have HR := hidv hr
    clear hr
    go_wp2_with fail
    go_ret3
    exact ⟨⟨r, rfl, HR.out⟩, rfl⟩
  · rw [if_neg (by omega), if_pos h]
    have hn1 : ¬ v.size < u.size := by omega
    go_enter Try.func75, Try.ntmps75
    go_wp2_with fail
    refine HC.out.mono ?_
    rintro e w' ⟨⟨r, rfl, hr⟩, rfl⟩
    have HR := hidv hr
    clear hr
    go_wp2_with fail
    go_ret3
    exact ⟨⟨r, rfl, HR.out⟩, rfl⟩

theorem ov_eq (u v : ByteArray) (h : v.size = u.size) : ovF u v = (u.toList == v.toList) := by
  unfold ovF
  rw [if_pos (by omega), ← begins_iff u v (by omega), h]
  congr 1
  rw [ByteArray.toList_eq, ByteArray.toList_eq, Lib.extract_data, List.drop_zero, Nat.sub_zero, List.take_of_length_le (by simp)]
theorem ov_none (u v : ByteArray) (h : v.size = u.size) : ovR u v = ⟨#[]⟩ := by
  unfold ovR
  rw [if_pos (by omega), h]
  apply ByteArray.ext
  apply Array.toList_inj.mp
  rw [Lib.extract_data, Nat.sub_self, List.take_zero]
theorem ne_sizes {u v : ByteArray} (h : u.size ≠ v.size) : (u.toList == v.toList) = false := by
  rw [beq_eq_false_iff_ne]
  intro he
  have e := congrArg List.length he
  rw [ByteArray.toList_eq, ByteArray.toList_eq] at e
  simp at e
  exact h e

/-- What the model answers on two images. -/
def OvM (u v : ByteArray) (a : Int) (r : ByteArray) (q : Bool) : Prop := (ovF u v = true → a = ovS u v ∧ r = ovR u v ∧ q = true) ∧ (ovF u v = false → a = 0 ∧ r = ⟨#[]⟩ ∧ q = false)
theorem ovM_ex (u v : ByteArray) : ∃ a r q, OvM u v a r q := by
  cases h : ovF u v
  · exact ⟨0, ⟨#[]⟩, false, fun h2 => by rw [h] at h2; (cases h2), fun _ => ⟨rfl, rfl, rfl⟩⟩
  · exact ⟨_, _, true, fun _ => ⟨rfl, rfl, rfl⟩, fun h2 => by rw [h] at h2; cases h2⟩

set_option maxHeartbeats 800000 in
theorem l07Over_any (u v : ByteArray) (w : World) (hu : u.size ≤ maxLen) (hv : v.size ≤ maxLen) (a : Int) (r : ByteArray) (q : Bool) (hm : OvM u v a r q) :
    Calls Try.prog 105 #[.string u, .string v] w fun e w' => e = .returned (.tuple #[.int .i64 a, .string r, .bool q]) ∧ ∃ m, w' = w.drewN m := by
  have C1 := hidv (fun W => begins_any u v W hu hv)
  have C2 := hidv (fun W => begins_any v u W hv hu)
  have HM := hidv hm
  unfold maxLen at hu hv
  clear hm
  rcases Nat.lt_trichotomy v.size u.size with h | h | h
  · have he := ne_sizes (u := u) (v := v) (by omega)
    have e1 : ovF u v = Lib.hasPrefix u.data.toList v.data.toList := by unfold ovF; rw [if_pos (by omega)]
    have e2 : ovR u v = u.extract v.size u.size := by unfold ovR; rw [if_pos (by omega)]
    have e3 : ovS u v = 1 := by unfold ovS; rw [if_pos h]
    have C2n : Hid (Lib.hasPrefix v.data.toList u.data.toList = false) := hidv (begins_no v u h)
    rw [C2n.out] at C2
    rw [← e1] at C1
    obtain ⟨p, hp⟩ : ∃ q, ovF u v = q := ⟨_, rfl⟩
    rw [hp] at C1
    cases p
    · obtain ⟨rfl, rfl, rfl⟩ := HM.out.2 hp
      clear e1 e2 e3 hp C2n
      go_enter Try.func105, Try.ntmps105
      go_wp2_with fail
      refine (C1.out _).mono ?_
      rintro e w' ⟨rfl, rfl⟩
      go_wp2_with fail
      refine (C2.out _).mono ?_
      rintro e w' ⟨rfl, rfl⟩
      go_wp2_with fail
      go_ret3
      exact ⟨rfl, 0, rfl⟩
    · obtain ⟨rfl, rfl, rfl⟩ := HM.out.1 hp
      rw [e2, e3]
      clear e1 e2 e3 hp C2n
      go_enter Try.func105, Try.ntmps105
      go_wp2_with fail
      refine (C1.out _).mono ?_
      rintro e w' ⟨rfl, rfl⟩
      go_wp2_with fail
      go_quiet (fail)
      go_wp2_with fail
      go_ret3
      exact ⟨rfl, _, rfl⟩
  · have e1 := ov_eq u v h
    have e2 := ov_none u v h
    have e3 : ovS u v = 0 := by unfold ovS; rw [if_neg (by omega), if_neg (by omega)]
    have e4 : ovF u v = Lib.hasPrefix u.data.toList v.data.toList := by unfold ovF; rw [if_pos (by omega)]
    have e5 : ovF u v = Lib.hasPrefix v.data.toList u.data.toList := by
      have h1 := ov_eq v u h.symm
      have h2 : ovF v u = Lib.hasPrefix v.data.toList u.data.toList := by unfold ovF; rw [if_pos (by omega)]
      rw [← h2, h1, e1, Bool.eq_iff_iff, beq_iff_eq, beq_iff_eq]
      exact ⟨fun h => h.symm, fun h => h.symm⟩
    rw [← e4] at C1
    rw [← e5] at C2
    obtain ⟨p, hp⟩ : ∃ q, ovF u v = q := ⟨_, rfl⟩
    rw [hp] at C1 C2 e1
    cases p
    · obtain ⟨rfl, rfl, rfl⟩ := HM.out.2 hp
      have he := e1.symm
      clear e1 e2 e3 e4 e5 hp
      go_enter Try.func105, Try.ntmps105
      go_wp2_with fail
      refine (C1.out _).mono ?_
      rintro e w' ⟨rfl, rfl⟩
      go_wp2_with fail
      refine (C2.out _).mono ?_
      rintro e w' ⟨rfl, rfl⟩
      go_wp2_with fail
      go_ret3
      exact ⟨rfl, 0, rfl⟩
    · obtain ⟨rfl, rfl, rfl⟩ := HM.out.1 hp
      rw [e2, e3]
      have he := e1.symm
      clear e1 e2 e3 e4 e5 hp
      go_enter Try.func105, Try.ntmps105
      go_wp2_with fail
      go_ret3
      exact ⟨rfl, 0, rfl⟩
  · have he := ne_sizes (u := u) (v := v) (by omega)
    have e1 : ovF u v = Lib.hasPrefix v.data.toList u.data.toList := by unfold ovF; rw [if_neg (by omega)]
    have e2 : ovR u v = v.extract u.size v.size := by unfold ovR; rw [if_neg (by omega)]
    have e3 : ovS u v = 2 := by unfold ovS; rw [if_neg (by omega), if_pos h]
    have C1n : Hid (Lib.hasPrefix u.data.toList v.data.toList = false) := hidv (begins_no u v h)
    rw [C1n.out] at C1
    rw [← e1] at C2
    obtain ⟨p, hp⟩ : ∃ q, ovF u v = q := ⟨_, rfl⟩
    rw [hp] at C2
    cases p
    · obtain ⟨rfl, rfl, rfl⟩ := HM.out.2 hp
      clear e1 e2 e3 hp C1n
      go_enter Try.func105, Try.ntmps105
      go_wp2_with fail
      refine (C1.out _).mono ?_
      rintro e w' ⟨rfl, rfl⟩
      go_wp2_with fail
      refine (C2.out _).mono ?_
      rintro e w' ⟨rfl, rfl⟩
      go_wp2_with fail
      go_ret3
      exact ⟨rfl, 0, rfl⟩
    · obtain ⟨rfl, rfl, rfl⟩ := HM.out.1 hp
      rw [e2, e3]
      clear e1 e2 e3 hp C1n
      go_enter Try.func105, Try.ntmps105
      go_wp2_with fail
      refine (C1.out _).mono ?_
      rintro e w' ⟨rfl, rfl⟩
      go_wp2_with fail
      refine (C2.out _).mono ?_
      rintro e w' ⟨rfl, rfl⟩
      go_wp2_with fail
      go_quiet (fail)
      go_wp2_with fail
      go_ret3
      exact ⟨rfl, _, rfl⟩

end Go.Proofs.Ytpjidcfdcpjafaa
