/-
  ValidValues, of the program and of the model: contracts, and the law over them.
-/
import Derived.Test.YtjoleenehdfkkaaStr
namespace Go.Proofs.Ytjoleenehdfkkaa
open Go.RowKit Go

def valsB (xs : List ByteArray) : Bool := decide (xs.length = 4) && xs.all (fun s => Wd.wordB s.data.toList)
theorem all_take_succS (l : List ByteArray) (f : ByteArray → Bool) (k : Nat) (h : k < l.length) : (l.take (k + 1)).all f = ((l.take k).all f && f l[k]) := by
  rw [List.take_succ_eq_append_getElem h, List.all_append]
  simp
theorem all_false_ofS (l : List ByteArray) (f : ByteArray → Bool) (k : Nat) (h : k < l.length) (hf : f l[k] = false) : l.all f = false := by
  rw [List.all_eq_false]
  exact ⟨l[k], List.getElem_mem h, by simp [hf]⟩

set_option maxHeartbeats 800000 in
theorem specVals_any (v : Value) (xs : List ByteArray) (B : Nat) (w : World) (hv : Row w B v (xs.map Value.string)) (hx : xs.length ≤ 1048576) (hs : ∀ s ∈ xs, s.size ≤ maxLen) :
    Calls Try.prog 21 #[v] w fun e w' => e = .returned (.bool (valsB xs)) ∧ w = w' := by
  obtain ⟨A, c, rfl, hA⟩ := strRow_at hv
  obtain ⟨n, hn⟩ : ∃ n, xs.length = n := ⟨_, rfl⟩
  obtain ⟨r, hr⟩ : ∃ r, valsB xs = r := ⟨_, rfl⟩
  have HA := hidv hA
  have HR := hidv hr
  rw [hr]
  rw [hn] at hx ⊢
  have HN := hidv hn
  have HS := hidv hs
  clear hn hr hA hv hs
  go_enter Try.func21, Try.ntmps21
  go_wp2
  go_loop [3] (fun i => ∃ k : Nat, k ≤ n ∧ i = .int .i64 k ∧ Hid ((xs.take k).all (fun s => Wd.wordB s.data.toList) = true)) (fun i => n - (intOf i).toNat)
  case atStart => exact ⟨0, Nat.zero_le _, rfl, hidv (by simp)⟩
  case round =>
    obtain ⟨k, hk, rfl, hall⟩ := hrel
    by_cases hlt : k < n
    · have hkx : k < xs.length := by have := HN.out; omega
      obtain ⟨g, o, rfl, hg, hce⟩ := HA.out (by omega)
      have c1 := hce k hkx
      have hsz := HS.out xs[k] (List.getElem_mem _)
      obtain ⟨x, hx1⟩ : ∃ x, xs[k] = x := ⟨_, rfl⟩
      rw [hx1] at c1 hsz
      have hin := specWord_any x w hsz
      obtain ⟨b, hb⟩ : ∃ b, Wd.wordB x.data.toList = b := ⟨_, rfl⟩
      rw [hb] at hin
      have HIN := hidv hin
      have HB := hidv hb
      have HX := hidv hx1
      clear hin hb hx1 hce hsz
      cases b
      · go_wp2_with (go_at_call 38; refine HIN.out.mono ?_; rintro e w' ⟨rfl, rfl⟩)
        go_ret
        refine ⟨ret_bool ?_, rfl⟩
        rw [← HR.out]
        unfold valsB
        rw [all_false_ofS xs _ k hkx (by rw [HX.out]; exact HB.out), Bool.and_false]
      · go_wp2_with (go_at_call 38; refine HIN.out.mono ?_; rintro e w' ⟨rfl, rfl⟩)
        go_round
        case rel =>
          refine ⟨k + 1, by omega, by go_num, hidv ?_⟩
          rw [all_take_succS _ _ k hkx, hall.out, HX.out, HB.out]
          rfl
        case measure => simp [intOf]; omega
    · go_wp2
      go_ret
      refine ⟨ret_bool ?_, rfl⟩
      have h2 := hall.out
      rw [List.take_of_length_le (by have := HN.out; omega)] at h2
      rw [← HR.out]
      unfold valsB
      rw [h2, Bool.and_true, HN.out, Bool.eq_iff_iff]
      simp
      omega

set_option maxHeartbeats 800000 in
theorem implVals_any (v : Value) (xs : List ByteArray) (B : Nat) (w : World) (hv : Row w B v (xs.map Value.string)) (hx : xs.length ≤ 1048576) (hs : ∀ s ∈ xs, s.size ≤ maxLen) :
    Calls Try.prog 46 #[v] w fun e w' => e = .returned (.bool (valsB xs)) ∧ w = w' := by
  obtain ⟨A, c, rfl, hA⟩ := strRow_at hv
  obtain ⟨n, hn⟩ : ∃ n, xs.length = n := ⟨_, rfl⟩
  obtain ⟨r, hr⟩ : ∃ r, valsB xs = r := ⟨_, rfl⟩
  have HA := hidv hA
  have HR := hidv hr
  rw [hr]
  rw [hn] at hx ⊢
  have HN := hidv hn
  have HS := hidv hs
  clear hn hr hA hv hs
  by_cases h4 : n = 4
  · subst h4
    go_enter Try.func46, Try.ntmps46
    go_wp2
    go_loop [10] (fun i => ∃ k : Nat, k ≤ 4 ∧ i = .int .i64 k ∧ Hid ((xs.take k).all (fun s => Wd.wordB s.data.toList) = true)) (fun i => 4 - (intOf i).toNat)
    case atStart => exact ⟨0, Nat.zero_le _, rfl, hidv (by simp)⟩
    case round =>
      obtain ⟨k, hk, rfl, hall⟩ := hrel
      by_cases hlt : k < 4
      · have hkx : k < xs.length := by have := HN.out; omega
        obtain ⟨g, o, rfl, hg, hce⟩ := HA.out (by omega)
        have c1 := hce k hkx
        have hsz := HS.out xs[k] (List.getElem_mem _)
        obtain ⟨x, hx1⟩ : ∃ x, xs[k] = x := ⟨_, rfl⟩
        rw [hx1] at c1 hsz
        have hin := implValidWord_any x w hsz
        obtain ⟨b, hb⟩ : ∃ b, Wd.wordB x.data.toList = b := ⟨_, rfl⟩
        rw [hb] at hin
        have HIN := hidv hin
        have HB := hidv hb
        have HX := hidv hx1
        clear hin hb hx1 hce hsz
        cases b
        · go_wp2_with (go_at_call 68; refine HIN.out.mono ?_; rintro e w' ⟨rfl, rfl⟩)
          go_ret
          refine ⟨ret_bool ?_, rfl⟩
          rw [← HR.out]
          unfold valsB
          rw [all_false_ofS xs _ k hkx (by rw [HX.out]; exact HB.out), Bool.and_false]
        · go_wp2_with (go_at_call 68; refine HIN.out.mono ?_; rintro e w' ⟨rfl, rfl⟩)
          go_round
          case rel =>
            refine ⟨k + 1, by omega, by go_num, hidv ?_⟩
            rw [all_take_succS _ _ k hkx, hall.out, HX.out, HB.out]
            rfl
          case measure => simp [intOf]; omega
      · go_wp2
        go_ret
        refine ⟨ret_bool ?_, rfl⟩
        have h2 := hall.out
        rw [List.take_of_length_le (by have := HN.out; omega)] at h2
        rw [← HR.out]
        unfold valsB
        rw [h2, Bool.and_true, HN.out]
        rfl
  · have hne : ((n : Int) != 4) = true := by rw [bne_iff_ne]; omega
    obtain rfl : r = false := by
      rw [← HR.out]
      unfold valsB
      rw [HN.out, decide_eq_false h4, Bool.false_and]
    go_enter Try.func46, Try.ntmps46
    go_wp2
    go_ret
    exact ⟨rfl, rfl⟩

end Go.Proofs.Ytjoleenehdfkkaa
