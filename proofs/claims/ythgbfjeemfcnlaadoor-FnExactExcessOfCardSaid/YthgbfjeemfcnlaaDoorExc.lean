/-
  ExcessOf, of the program and of the model: contracts.
-/
import Derived.Test.YthgbfjeemfcnlaaDoorCEn
import Derived.Test.YthgbfjeemfcnlaaDoorLenR
namespace Go.Proofs.YthgbfjeemfcnlaaDoor
open Go.RowKit Go
set_option linter.unusedVariables false

def cX (l : List UInt8) : Nat := l.countP fun c => c == 88
def excN (u v : ByteArray) : Int := (cX u.data.toList : Int) - cX v.data.toList
def excL (u v : ByteArray) : Int := (v.size : Int) - u.size + excN u v

theorem kind_X {c : UInt8} (h : (Wd.isL c || c == 88) = true) : (kindN c == 4) = (c == 88) := by
  cases hl : Wd.isL c
  · rw [hl, Bool.false_or, beq_iff_eq] at h
    subst h
    decide
  · have h1 := (symV_letter hl).2
    have h2 : (c == 88) = false := by
      rw [beq_eq_false_iff_ne]
      intro e
      subst e
      exact absurd hl (by decide)
    rw [h2, beq_eq_false_iff_ne]
    omega
theorem kind_4 : ∀ {l : List UInt8}, aloneB l = true → l.countP (fun c => kindN c == 4) = cX l
  | [], _ => rfl
  | c :: l, h => by
    unfold aloneB at h
    rw [List.all_cons, Bool.and_eq_true] at h
    have ih := kind_4 (l := l) h.2
    unfold cX at ih ⊢
    rw [List.countP_cons, List.countP_cons, ih, kind_X h.1]
theorem kind_sum : ∀ {l : List UInt8}, aloneB l = true →
    l.countP (fun c => kindN c == 0) + l.countP (fun c => kindN c == 1) + l.countP (fun c => kindN c == 2) + l.countP (fun c => kindN c == 3) + cX l = l.length
  | [], _ => rfl
  | c :: l, h => by
    unfold aloneB at h
    rw [List.all_cons, Bool.and_eq_true] at h
    have ih := kind_sum (l := l) h.2
    unfold cX at ih ⊢
    rw [List.countP_cons, List.countP_cons, List.countP_cons, List.countP_cons, List.countP_cons, List.length_cons]
    cases hl : Wd.isL c
    · have h1 := h.1
      rw [hl, Bool.false_or, beq_iff_eq] at h1
      subst h1
      have e0 : (kindN 88 == 0) = false := by decide
      have e1 : (kindN 88 == 1) = false := by decide
      have e2 : (kindN 88 == 2) = false := by decide
      have e3 : (kindN 88 == 3) = false := by decide
      have e4 : ((88 : UInt8) == 88) = true := by decide
      rw [e0, e1, e2, e3, e4]
      simp only [Bool.false_eq_true, if_false, if_true]
      omega
    · have h1 := (symV_letter hl).2
      have h2 : (c == 88) = false := by
        rw [beq_eq_false_iff_ne]
        intro e
        subst e
        exact absurd hl (by decide)
      rw [h2]
      obtain ⟨k, hk⟩ : ∃ k, kindN c = k := ⟨_, rfl⟩
      rw [hk] at h1 ⊢
      rcases (show k = 0 ∨ k = 1 ∨ k = 2 ∨ k = 3 by omega) with rfl | rfl | rfl | rfl <;> simp <;> omega

theorem askC_ok {u v : ByteArray} (h : askC u v = 0) : eqnB u v = true ∧ aloneB u.data.toList = true ∧ aloneB v.data.toList = true := by
  unfold askC at h
  split at h
  · rename_i h1
    split at h
    · rename_i h2
      rw [Bool.and_eq_true] at h2
      exact ⟨h1, h2.1, h2.2⟩
    · cases h
  · cases h

set_option maxHeartbeats 800000 in
theorem unkX_any (s : ByteArray) (w : World) (hs : s.size ≤ 1000) :
    Calls Tryd.prog 21 #[.string s] w fun e w' => e = .returned (.int .i64 (cX s.data.toList : Nat)) ∧ w = w' := by
  go_enter Tryd.func21, Tryd.ntmps21
  go_wp2
  go_loop [3, 4] (fun n i => ∃ k q : Nat, k ≤ s.size ∧ q ≤ k ∧ i = .int .i64 k ∧ n = .int .i64 (q : Nat) ∧ Hid (cX (s.data.toList.take k) = q)) (fun _ i => s.size - (intOf i).toNat)
  case atStart => exact ⟨0, 0, Nat.zero_le _, Nat.le_refl _, rfl, rfl, hidv rfl⟩
  case round =>
    obtain ⟨k, q, hk, hqk, rfl, rfl, hq⟩ := hrel
    by_cases hlt : k < s.size
    · have hsk : s.data.toList[k]'(by simpa using hlt) = s[k] := rfl
      have hsu : cX (s.data.toList.take (k + 1)) = q + if s[k] == 88 then 1 else 0 := by
        rw [← hq.out]
        unfold cX
        rw [List.take_succ_eq_append_getElem (by simpa using hlt), List.countP_append, List.countP_singleton, hsk]
      have h88 := eq88 s[k]
      obtain ⟨p, hp⟩ : ∃ p, (s[k] == 88) = p := ⟨_, rfl⟩
      rw [hp] at hsu h88
      have HSU := hidv hsu
      clear hsu hp hsk
      cases p
      · go_wp2
        go_round
        case rel => exact ⟨k + 1, q, by omega, by omega, by go_num, rfl, hidv (HSU.out.trans (by simp))⟩
        case measure => simp [intOf]; omega
      · go_wp2
        go_round
        case rel => exact ⟨k + 1, q + 1, by omega, by omega, by go_num, by go_num, hidv (HSU.out.trans (by simp))⟩
        case measure => simp [intOf]; omega
    · go_wp2
      go_ret
      have h := hq.out
      rw [List.take_of_length_le (by simp; omega)] at h
      exact ⟨by rw [h]; rfl, rfl⟩

set_option maxHeartbeats 800000 in
theorem specExcess_any (u v : ByteArray) (w : World) (hu : u.size ≤ 100) (hv : v.size ≤ 100) :
    Calls Tryd.prog 13 #[.agg #[.string u, .string v]] w fun e w' => e = .returned (.tuple #[.int .i64 (excN u v), .int .i64 (excL u v)]) ∧ Below w.heap.size w w' := by
  have C1 := fun W => unkX_any u W (by omega)
  have C2 := fun W => unkX_any v W (by omega)
  unfold excL excN
  have h1 : cX u.data.toList ≤ 100 := by have := List.countP_le_length (p := fun c => c == 88) (l := u.data.toList); unfold cX; have e : u.data.toList.length = u.size := by simp
                                         omega
  have h2 : cX v.data.toList ≤ 100 := by have := List.countP_le_length (p := fun c => c == 88) (l := v.data.toList); unfold cX; have e : v.data.toList.length = v.size := by simp
                                         omega
  obtain ⟨a, ha⟩ : ∃ a, cX u.data.toList = a := ⟨_, rfl⟩
  obtain ⟨b, hb⟩ : ∃ a, cX v.data.toList = a := ⟨_, rfl⟩
  rw [ha] at C1 h1
  rw [hb] at C2 h2
  rw [ha, hb]
  have HC1 := hidv C1
  have HC2 := hidv C2
  have hw1 : IntKind.i64.wrap ((a : Int) - b) = (a : Int) - b := IntWalk.i64_in _ (by omega)
  have hw2 : IntKind.i64.wrap ((v.size : Int) - u.size) = (v.size : Int) - u.size := IntWalk.i64_in _ (by omega)
  have hw3 : IntKind.i64.wrap ((v.size : Int) - u.size + ((a : Int) - b)) = (v.size : Int) - u.size + ((a : Int) - b) := IntWalk.i64_in _ (by omega)
  clear C1 C2 ha hb
  go_enter Tryd.func13, Tryd.ntmps13
  go_wp2_with fail
  go_quiet (first | (go_at_call 21; first | (with_reducible exact Calls.quiet_of_same ((HC1.out _).mono fun _ _ h => ⟨h.1, h.2.symm⟩)) | (with_reducible exact Calls.quiet_of_same ((HC2.out _).mono fun _ _ h => ⟨h.1, h.2.symm⟩))))
  go_wp2_with fail
  go_quiet (fail)
  go_wp2
  go_ret2
  exact ⟨rfl, below_drewN (below_drewN (below_al (Below.refl _ _) _) _) _⟩

end Go.Proofs.YthgbfjeemfcnlaaDoor
