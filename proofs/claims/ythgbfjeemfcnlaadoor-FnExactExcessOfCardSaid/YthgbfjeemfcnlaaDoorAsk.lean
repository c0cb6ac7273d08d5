/-
  The code of two terms, of the model: contracts.
-/
import Derived.Test.YthgbfjeemfcnlaaDoorCode2
namespace Go.Proofs.YthgbfjeemfcnlaaDoor
open Go.RowKit Go
set_option linter.unusedVariables false

def askC (u v : ByteArray) : Int := if Wd.termB u.data.toList && Wd.termB v.data.toList then (if aloneB u.data.toList && aloneB v.data.toList then 0 else 4) else 1
theorem codeT_two (u v : ByteArray) : codeT [u, v] = askC u v := by
  unfold codeT askC
  have h1 : Wd.allN [u, v].length (tmI [u, v]) = (Wd.termB u.data.toList && Wd.termB v.data.toList) := by
    show Wd.allN 2 _ = _
    rw [Wd.allN_succ, Wd.allN_succ, Wd.allN_zero, Bool.true_and]
    rfl
  have h2 : Wd.allN [u, v].length (alI [u, v]) = (aloneB u.data.toList && aloneB v.data.toList) := by
    show Wd.allN 2 _ = _
    rw [Wd.allN_succ, Wd.allN_succ, Wd.allN_zero, Bool.true_and]
    rfl
  rw [h1, h2]

theorem eq88 (b : UInt8) : ((b.toNat : Int) == 88) = (b == 88) := by
  rw [Bool.eq_iff_iff, beq_iff_eq, beq_iff_eq]
  constructor
  · intro h
    rw [← UInt8.toNat_inj]
    show b.toNat = 88
    omega
  · intro h
    subst h
    rfl

set_option maxHeartbeats 800000 in
theorem alone_any (s : ByteArray) (w : World) (hs : s.size ≤ maxLen) :
    Calls Tryd.prog 16 #[.string s] w fun e w' => e = .returned (.bool (aloneB s.data.toList)) ∧ w = w' := by
  unfold maxLen at hs
  obtain ⟨r, hr⟩ : ∃ r, aloneB s.data.toList = r := ⟨_, rfl⟩
  have HR : Hid ((s.data.toList.all fun c => Wd.isL c || c == 88) = r) := hidv hr
  rw [hr]
  clear hr
  go_enter Tryd.func16, Tryd.ntmps16
  go_wp2
  go_loop [3] (fun i => ∃ k : Nat, k ≤ s.size ∧ i = .int .i64 k ∧ Hid ((s.data.toList.take k).all (fun c => Wd.isL c || c == 88) = true)) (fun i => s.size - (intOf i).toNat)
  case atStart => exact ⟨0, Nat.zero_le _, rfl, hidv (by simp)⟩
  case round =>
    obtain ⟨k, hk, rfl, hall⟩ := hrel
    by_cases hlt : k < s.size
    · have hsu := all_take_succ s.data.toList (fun c => Wd.isL c || c == 88) k (by simpa using hlt)
      have hfa := all_false_of s.data.toList (fun c => Wd.isL c || c == 88) k (by simpa using hlt)
      rw [hall.out, Bool.true_and] at hsu
      rw [HR.out] at hfa
      have hsk : s.data.toList[k]'(by simpa using hlt) = s[k] := rfl
      rw [hsk] at hsu hfa
      have C1 := hidv (fun W => letter_any s[k] W)
      have h88 := eq88 s[k]
      obtain ⟨q, hq⟩ : ∃ q, Wd.isL s[k] = q := ⟨_, rfl⟩
      obtain ⟨p, hp⟩ : ∃ q, (s[k] == 88) = q := ⟨_, rfl⟩
      rw [hq] at C1
      rw [hp] at h88
      have HSU : Hid ((q || p) = true → (s.data.toList.take (k + 1)).all (fun c => Wd.isL c || c == 88) = true) := hidv (fun h => hsu.trans (by show (Wd.isL s[k] || s[k] == 88) = true; rw [hq, hp]; exact h))
      have HFA : Hid ((q || p) = false → r = false) := hidv (fun h => hfa (by show (Wd.isL s[k] || s[k] == 88) = false; rw [hq, hp]; exact h))
      have hne : ((s[k].toNat : Int) != 88) = !p := by rw [bne, h88]
      clear hsu hfa hsk hq hp h88
      cases q
      · cases p
        · have hr0 : r = false := HFA.out rfl
          subst hr0
          have hne' : ((s[k].toNat : Int) != 88) = true := hne
          clear hne
          go_wp2_with (go_at_call 24; refine (C1.out _).mono ?_; rintro e w' ⟨rfl, rfl⟩)
          go_ret
          exact ⟨rfl, rfl⟩
        · have hne' : ((s[k].toNat : Int) != 88) = false := hne
          clear hne
          go_wp2_with (go_at_call 24; refine (C1.out _).mono ?_; rintro e w' ⟨rfl, rfl⟩)
          go_round
          case rel => exact ⟨k + 1, by omega, by go_num, hidv (HSU.out (by rfl))⟩
          case measure => simp [intOf]; omega
      · clear hne
        go_wp2_with (go_at_call 24; refine (C1.out _).mono ?_; rintro e w' ⟨rfl, rfl⟩)
        go_round
        case rel => exact ⟨k + 1, by omega, by go_num, hidv (HSU.out (by rfl))⟩
        case measure => simp [intOf]; omega
    · have hr1 : r = true := by
        have h2 := hall.out
        rw [List.take_of_length_le (by simp; omega)] at h2
        rw [← HR.out]; exact h2
      subst hr1
      go_wp2
      go_ret
      exact ⟨rfl, rfl⟩

theorem asked_any (u v : ByteArray) (w : World) (hu : u.size ≤ maxLen) (hv : v.size ≤ maxLen) :
    Calls Tryd.prog 9 #[.string u, .string v] w fun e w' => e = .returned (.int .i64 (askC u v)) ∧ w = w' := by
  have C1 := hidv (fun W => specTerm_any u W hu)
  have C2 := hidv (fun W => specTerm_any v W hv)
  have C3 := hidv (fun W => alone_any u W hu)
  have C4 := hidv (fun W => alone_any v W hv)
  obtain ⟨c, hc⟩ : ∃ c, askC u v = c := ⟨_, rfl⟩
  have HC : Hid ((if Wd.termB u.data.toList && Wd.termB v.data.toList then (if aloneB u.data.toList && aloneB v.data.toList then 0 else 4) else 1 : Int) = c) := hidv hc
  rw [hc]
  obtain ⟨a, ha⟩ : ∃ q, Wd.termB u.data.toList = q := ⟨_, rfl⟩
  obtain ⟨b, hb⟩ : ∃ q, Wd.termB v.data.toList = q := ⟨_, rfl⟩
  obtain ⟨d, hd⟩ : ∃ q, aloneB u.data.toList = q := ⟨_, rfl⟩
  obtain ⟨f, hf⟩ : ∃ q, aloneB v.data.toList = q := ⟨_, rfl⟩
  rw [ha] at C1 HC
  rw [hb] at C2 HC
  rw [hd] at C3 HC
  rw [hf] at C4 HC
  clear hc ha hb hd hf
  cases a
  · obtain rfl : (1 : Int) = c := HC.out
    go_enter Tryd.func9, Tryd.ntmps9
    go_wp2_with fail
    refine (C1.out _).mono ?_
    rintro e w' ⟨rfl, rfl⟩
    go_wp2_with fail
    go_ret
    exact ⟨rfl, rfl⟩
  cases b
  · obtain rfl : (1 : Int) = c := HC.out
    go_enter Tryd.func9, Tryd.ntmps9
    go_wp2_with fail
    refine (C1.out _).mono ?_
    rintro e w' ⟨rfl, rfl⟩
    go_wp2_with fail
    refine (C2.out _).mono ?_
    rintro e w' ⟨rfl, rfl⟩
    go_wp2_with fail
    go_ret
    exact ⟨rfl, rfl⟩
  cases d
  · obtain rfl : (4 : Int) = c := HC.out
    go_enter Tryd.func9, Tryd.ntmps9
    go_wp2_with fail
    refine (C1.out _).mono ?_
    rintro e w' ⟨rfl, rfl⟩
    go_wp2_with fail
    refine (C2.out _).mono ?_
    rintro e w' ⟨rfl, rfl⟩
    go_wp2_with fail
    refine (C3.out _).mono ?_
    rintro e w' ⟨rfl, rfl⟩
    go_wp2_with fail
    go_ret
    exact ⟨rfl, rfl⟩
  · cases f
    · obtain rfl : (4 : Int) = c := HC.out
      go_enter Tryd.func9, Tryd.ntmps9
      go_wp2_with fail
      refine (C1.out _).mono ?_
      rintro e w' ⟨rfl, rfl⟩
      go_wp2_with fail
      refine (C2.out _).mono ?_
      rintro e w' ⟨rfl, rfl⟩
      go_wp2_with fail
      refine (C3.out _).mono ?_
      rintro e w' ⟨rfl, rfl⟩
      go_wp2_with fail
      refine (C4.out _).mono ?_
      rintro e w' ⟨rfl, rfl⟩
      go_wp2_with fail
      go_ret
      exact ⟨rfl, rfl⟩
    · obtain rfl : (0 : Int) = c := HC.out
      go_enter Tryd.func9, Tryd.ntmps9
      go_wp2_with fail
      refine (C1.out _).mono ?_
      rintro e w' ⟨rfl, rfl⟩
      go_wp2_with fail
      refine (C2.out _).mono ?_
      rintro e w' ⟨rfl, rfl⟩
      go_wp2_with fail
      refine (C3.out _).mono ?_
      rintro e w' ⟨rfl, rfl⟩
      go_wp2_with fail
      refine (C4.out _).mono ?_
      rintro e w' ⟨rfl, rfl⟩
      go_wp2_with fail
      go_ret
      exact ⟨rfl, rfl⟩

end Go.Proofs.YthgbfjeemfcnlaaDoor
