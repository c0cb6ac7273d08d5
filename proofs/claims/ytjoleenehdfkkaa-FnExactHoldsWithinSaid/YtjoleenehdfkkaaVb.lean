/-
  What the functions on bounds ask of numbers: ranges and rising lists, in the program and in the model: contracts.
-/
import Derived.Test.YtjoleenehdfkkaaSmB
import Derived.Test.YtjoleenehdfkkaaAb
namespace Go.Proofs.Ytjoleenehdfkkaa
open Go.RowKit Go
set_option linter.unusedVariables false

def Rising (xs : List Int) : Prop := ∀ j (h : j + 1 < xs.length), xs[j] < xs[j + 1]

set_option maxHeartbeats 400000 in
theorem increases_any (v : Value) (xs : List Int) (B : Nat) (w : World) (hv : Row w B v (ints xs)) (hx : xs.length ≤ maxLen) (d : Bool) (hd : d = true ↔ Rising xs) :
    Calls Try.prog 45 #[v] w fun e w' => e = .returned (.bool d) ∧ ∃ m, w' = w.drewN m := by
  unfold maxLen at hx
  obtain ⟨A, c, rfl, hA⟩ := hv
  rw [show (ints xs).length = xs.length by simp [ints]] at hA ⊢
  obtain ⟨m, hm⟩ : ∃ m, xs.length = m := ⟨_, rfl⟩
  have HA := hidv hA
  have HD := hidv hd
  rw [hm] at hx ⊢
  have HM := hidv hm
  clear hA hd hm
  go_enter Try.func45, Try.ntmps45
  go_wp2
  go_loopw [3] (fun i wr => ∃ k : Nat, k ≤ m ∧ i = .int .i64 ((k : Int) + 1) ∧ Hid (∀ j (h : j + 1 < xs.length), j < k → xs[j] < xs[j + 1]) ∧ ∃ q, wr = w.drewN q) (fun i _ => m + 1 - (intOf i).toNat)
  case atStart => exact ⟨0, by omega, rfl, hidv (fun j h hj => by omega), 0, rfl⟩
  case round =>
    obtain ⟨k, hk, rfl, hall, q, rfl⟩ := hrel
    by_cases hlt : k + 1 < m
    · have hkx : k < xs.length := by have := HM.out; omega
      have hky : k + 1 < xs.length := by have := HM.out; omega
      obtain ⟨g, o, rfl, hg, hc⟩ := HA.out (by have := HM.out; omega)
      have c1 := hc k _ (map_int_at hkx)
      have c2 := hc (k + 1) _ (map_int_at hky)
      obtain ⟨x, hx1⟩ : ∃ x, xs[k] = x := ⟨_, rfl⟩
      obtain ⟨y, hy1⟩ : ∃ x, xs[k + 1] = x := ⟨_, rfl⟩
      rw [hx1] at c1
      rw [hy1] at c2
      have HX := hidv hx1
      have HY := hidv hy1
      have i1 : (0 : Int) ≤ (k : Int) := by omega
      have i2 : (k : Int) < (m : Int) := by omega
      have i3 : (k : Int) + 1 < (m : Int) := by omega
      have i4 : (0 : Int) ≤ (k : Int) + 1 := by omega
      have i5 : ((k : Int) + 1).toNat = k + 1 := by omega
      have i6 : ((k : Int) + 1 - 1) = k := by omega
      clear hx1 hy1 hc
      by_cases h0 : y ≤ x
      · obtain rfl : d = false := iff_no HD.out (fun h => by have h1 := h k hky; rw [HX.out, HY.out] at h1; omega)
        go_wp2
        go_quiet (fail)
        go_wp2
        go_ret
        exact ⟨rfl, _, World.drewN_drewN _ _ _⟩
      · have hall2 : ∀ j (h : j + 1 < xs.length), j < k + 1 → xs[j] < xs[j + 1] := fun j h hj => by
          rcases Nat.lt_or_ge j k with h2 | h2
          · exact hall.out j h h2
          · obtain rfl : j = k := by omega
            rw [HX.out, HY.out]; omega
        have HALL := hidv hall2
        clear hall2
        go_wp2
        go_quiet (fail)
        go_wp2
        go_roundw
        case rel => exact ⟨k + 1, by omega, by go_num, HALL, _, rfl⟩
        case measure => simp [intOf]; omega
    · obtain rfl : d = true := iff_yes HD.out (fun j h => hall.out j h (by have := HM.out; omega))
      go_wp2
      go_ret
      exact ⟨rfl, _, rfl⟩

theorem l00In2_any (x lo hi : Int) (w : World) (d : Bool) (hd : d = true ↔ lo ≤ x ∧ x ≤ hi) :
    Calls Try.prog 62 #[.int .i64 x, .int .i64 lo, .int .i64 hi] w fun e w' => e = .returned (.bool d) ∧ w' = w := by
  by_cases h1 : lo ≤ x
  · by_cases h2 : x ≤ hi
    · obtain rfl : d = true := iff_yes hd ⟨h1, h2⟩
      clear hd
      go_enter Try.func62, Try.ntmps62
      go_wp2
      go_ret
      exact ⟨rfl, rfl⟩
    · obtain rfl : d = false := iff_no hd (fun h => h2 h.2)
      clear hd
      go_enter Try.func62, Try.ntmps62
      go_wp2
      go_ret
      exact ⟨rfl, rfl⟩
  · obtain rfl : d = false := iff_no hd (fun h => h1 h.1)
    clear hd
    go_enter Try.func62, Try.ntmps62
    go_wp2
    go_ret
    exact ⟨rfl, rfl⟩

set_option maxHeartbeats 800000 in
theorem l00Rises_any (v : Value) (xs : List Int) (B : Nat) (lo hi : Int) (w : World) (hv : Row w B v (ints xs)) (hx : xs.length ≤ maxLen) (d : Bool) (hd : d = true ↔ (∀ j (h : j < xs.length), lo ≤ xs[j] ∧ xs[j] ≤ hi) ∧ Rising xs) :
    Calls Try.prog 63 #[v, .int .i64 lo, .int .i64 hi] w fun e w' => e = .returned (.bool d) ∧ ∃ m, w' = w.drewN m := by
  unfold maxLen at hx
  obtain ⟨A, c, rfl, hA⟩ := hv
  rw [show (ints xs).length = xs.length by simp [ints]] at hA ⊢
  obtain ⟨m, hm⟩ : ∃ m, xs.length = m := ⟨_, rfl⟩
  have HA := hidv hA
  have HD := hidv hd
  rw [hm] at hx ⊢
  have HM := hidv hm
  clear hA hd hm
  go_enter Try.func63, Try.ntmps63
  go_wp2
  go_loopw [7] (fun i wr => ∃ k : Nat, k ≤ m ∧ i = .int .i64 k ∧ Hid (∀ j (h : j < xs.length), j < k → lo ≤ xs[j] ∧ xs[j] ≤ hi) ∧ Hid (∀ j (h : j + 1 < xs.length), j + 1 < k → xs[j] < xs[j + 1]) ∧ ∃ q, wr = w.drewN q) (fun i _ => m - (intOf i).toNat)
  case atStart => exact ⟨0, by omega, rfl, hidv (fun j h hj => by omega), hidv (fun j h hj => by omega), 0, rfl⟩
  case round =>
    obtain ⟨k, hk, rfl, hall, hris, q, hwr⟩ := hrel
    have HW := hidv hwr
    clear hwr
    by_cases hlt : k < m
    · have hkx : k < xs.length := by have := HM.out; omega
      obtain ⟨g, o, rfl, hg, hc⟩ := HA.out (by have := HM.out; omega)
      have c1 : wr.cell? ⟨g, o + k, none⟩ = _ := (show wr.cell? ⟨g, o + k, none⟩ = w.cell? ⟨g, o + k, none⟩ from by rw [HW.out]; rfl).trans (hc k _ (map_int_at hkx))
      obtain ⟨x, hx1⟩ : ∃ x, xs[k] = x := ⟨_, rfl⟩
      rw [hx1] at c1
      have HX := hidv hx1
      have HCC := hidv hc
      have i1 : (0 : Int) ≤ (k : Int) := by omega
      have i2 : (k : Int) < (m : Int) := by omega
      clear hx1 hc
      obtain ⟨d1, hd1⟩ := iffB (lo ≤ x ∧ x ≤ hi)
      have HD1 := hidv hd1
      have C1 := hidv (fun W => l00In2_any x lo hi W d1 hd1)
      clear hd1
      cases d1
      · obtain rfl : d = false := iff_no HD.out (fun h => by have h1 := h.1 k hkx; rw [HX.out] at h1; exact absurd (HD1.out.mpr h1) (by simp))
        go_wp2
        go_quiet (first | (go_at_call 62; exact Calls.quiet_of_same (C1.out _)))
        go_wp2
        go_ret
        exact ⟨rfl, _, by rw [HW.out, World.drewN_drewN]⟩
      · have hall2 : ∀ j (h : j < xs.length), j < k + 1 → lo ≤ xs[j] ∧ xs[j] ≤ hi := fun j h hj => by
          rcases Nat.lt_or_ge j k with h2 | h2
          · exact hall.out j h h2
          · obtain rfl : j = k := by omega
            rw [HX.out]; exact HD1.out.mp rfl
        have HALL := hidv hall2
        clear hall2
        by_cases hk0 : k = 0
        · subst hk0
          have c0 : wr.cell? ⟨g, o, none⟩ = some (.int .i64 x) := c1
          have i3 : (0 : Int) < (m : Int) := by omega
          clear c1 i1 i2
          have hris2 := hidv (show ∀ j (h : j + 1 < xs.length), j + 1 < 0 + 1 → xs[j] < xs[j + 1] from fun j h hj => by omega)
          go_wp2
          go_quiet (first | (go_at_call 62; exact Calls.quiet_of_same (C1.out _)))
          go_wp2
          go_roundw
          case rel => exact ⟨0 + 1, by omega, by go_num, HALL, hris2, _, by rw [HW.out, World.drewN_drewN]⟩
          case measure => simp [intOf]; omega
        · obtain ⟨k1, rfl⟩ : ∃ k1, k = k1 + 1 := ⟨k - 1, by omega⟩
          have hky : k1 < xs.length := by omega
          have c2 : wr.cell? ⟨g, o + k1, none⟩ = _ := (show wr.cell? ⟨g, o + k1, none⟩ = w.cell? ⟨g, o + k1, none⟩ from by rw [HW.out]; rfl).trans (HCC.out k1 _ (map_int_at hky))
          obtain ⟨y, hy1⟩ : ∃ x, xs[k1] = x := ⟨_, rfl⟩
          rw [hy1] at c2
          have HY := hidv hy1
          have i3 : (0 : Int) ≤ (k1 : Int) := by omega
          have i4 : (k1 : Int) < (m : Int) := by omega
          have i5 : ((k1 + 1 : Nat) : Int) - 1 = k1 := by omega
          have i6 : (0 : Int) < ((k1 + 1 : Nat) : Int) := by omega
          have i7 : ((k1 : Int) + 1) - 1 = k1 := by omega
          have i8 : (0 : Int) < (k1 : Int) + 1 := by omega
          have i9 : ((k1 : Int) + 1).toNat = k1 + 1 := by omega
          have i10 : (k1 : Int) + 1 < (m : Int) := by omega
          have i11 : (0 : Int) ≤ (k1 : Int) + 1 := by omega
          clear hy1 hk0
          by_cases hxy : x ≤ y
          · obtain rfl : d = false := iff_no HD.out (fun h => by have h1 := h.2 k1 hkx; rw [HX.out, HY.out] at h1; omega)
            go_wp2
            go_quiet (first | (go_at_call 62; exact Calls.quiet_of_same (C1.out _)))
            go_wp2
            go_ret
            exact ⟨rfl, _, by rw [HW.out, World.drewN_drewN]⟩
          · have hris2 : ∀ j (h : j + 1 < xs.length), j + 1 < k1 + 1 + 1 → xs[j] < xs[j + 1] := fun j h hj => by
              rcases Nat.lt_or_ge j k1 with h2 | h2
              · exact hris.out j h (by omega)
              · obtain rfl : j = k1 := by omega
                rw [HX.out, HY.out]; omega
            have HR2 := hidv hris2
            clear hris2
            go_wp2
            go_quiet (first | (go_at_call 62; exact Calls.quiet_of_same (C1.out _)))
            go_wp2
            go_roundw
            case rel => exact ⟨k1 + 1 + 1, by omega, by go_num, HALL, HR2, _, by rw [HW.out, World.drewN_drewN]⟩
            case measure => simp [intOf]; omega
    · obtain rfl : d = true := iff_yes HD.out ⟨fun j h => hall.out j h (by have := HM.out; omega), fun j h => hris.out j h (by have := HM.out; omega)⟩
      go_wp2
      go_ret
      exact ⟨rfl, _, HW.out⟩

end Go.Proofs.Ytjoleenehdfkkaa
