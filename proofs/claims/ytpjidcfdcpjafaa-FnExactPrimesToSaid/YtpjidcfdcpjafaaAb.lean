/-
  A Bool of a proposition; numbers below a bound, as the program asks: a contract.
-/
import Derived.Test.YtpjidcfdcpjafaaRow
import Derived.Test.YtpjidcfdcpjafaaIff
import Derived.OwnWalk
namespace Go.Proofs.Ytpjidcfdcpjafaa
open Go.RowKit Go
set_option linter.unusedVariables false

/-- All numbers are those of n places. -/
def InN (n : Int) (xs : List Int) : Prop := ∀ j (h : j < xs.length), 0 ≤ xs[j] ∧ xs[j] < n
set_option maxHeartbeats 400000 in
theorem areBelow_any (v : Value) (xs : List Int) (B : Nat) (n : Int) (w : World) (hv : Row w B v (ints xs)) (hx : xs.length ≤ maxLen) (d : Bool) (hd : d = true ↔ InN n xs) :
    Calls Try.prog 49 #[.int .i64 n, v] w fun e w' => e = .returned (.bool d) ∧ w' = w := by
  unfold maxLen at hx
  obtain ⟨A, c, rfl, hA⟩ := hv
  rw [show (ints xs).length = xs.length by simp [ints]] at hA ⊢
  obtain ⟨m, hm⟩ : ∃ m, xs.length = m := ⟨_, rfl⟩
  have HA := hidv hA
  have HD := hidv hd
  rw [hm] at hx ⊢
  have HM := hidv hm
  clear hA hd hm
  go_enter Try.func49, Try.ntmps49
  go_wp2
  go_loop [9] (fun i => ∃ k : Nat, k ≤ m ∧ i = .int .i64 k ∧ Hid (∀ j (h : j < xs.length), j < k → 0 ≤ xs[j] ∧ xs[j] < n)) (fun i => m - (intOf i).toNat)
  case atStart => exact ⟨0, by omega, rfl, hidv (fun j h hj => by omega)⟩
  case round =>
    obtain ⟨k, hk, rfl, hall⟩ := hrel
    by_cases hlt : k < m
    · have hkx : k < xs.length := by have := HM.out; omega
      obtain ⟨g, o, rfl, hg, hc⟩ := HA.out (by have := HM.out; omega)
      have c1 := hc k _ (map_int_at hkx)
      obtain ⟨x, hx1⟩ : ∃ x, xs[k] = x := ⟨_, rfl⟩
      rw [hx1] at c1
      have HX := hidv hx1
      clear hx1 hc
      by_cases h0 : x < 0
      · obtain rfl : d = false := iff_no HD.out (fun h => by have h1 := (h k hkx).1; rw [HX.out] at h1; omega)
        go_wp2
        go_ret
        exact ⟨rfl, rfl⟩
      · by_cases h1 : n ≤ x
        · obtain rfl : d = false := iff_no HD.out (fun h => by have h1 := (h k hkx).2; rw [HX.out] at h1; omega)
          go_wp2
          go_ret
          exact ⟨rfl, rfl⟩
        · have hall2 : ∀ j (h : j < xs.length), j < k + 1 → 0 ≤ xs[j] ∧ xs[j] < n := fun j h hj => by
            rcases Nat.lt_or_ge j k with h2 | h2
            · exact hall.out j h h2
            · obtain rfl : j = k := by omega
              rw [HX.out]; omega
          have HALL := hidv hall2
          clear hall2
          go_wp2
          go_round
          case rel => exact ⟨k + 1, by omega, by go_num, HALL⟩
          case measure => simp [intOf]; omega
    · obtain rfl : d = true := iff_yes HD.out (fun j h => hall.out j h (by have := HM.out; omega))
      go_wp2
      go_ret
      exact ⟨rfl, rfl⟩


end Go.Proofs.Ytpjidcfdcpjafaa
