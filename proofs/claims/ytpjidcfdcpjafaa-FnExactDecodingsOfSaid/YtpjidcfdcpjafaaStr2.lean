/-
  The bulk of texts, with a bound on what is left: a contract.
-/
import Derived.Test.YtpjidcfdcpjafaaStrA
namespace Go.Proofs.Ytpjidcfdcpjafaa
open Go.RowKit Go

/-- What is left of a number behind a bulk; negative where it does not suffice. -/
def SzOk2 (n m r : Int) : Prop := 0 ≤ r → n + r ≤ m

set_option maxHeartbeats 400000 in
theorem szStrs2_any (v : Value) (xs : List ByteArray) (B : Nat) (w : World) (hv : Row w B v (xs.map Value.string)) (hx : xs.length ≤ maxLen) (hs : ∀ s ∈ xs, s.size ≤ maxLen) (m : Int) (hm0 : 0 ≤ m) (hm1 : m ≤ 1048576) :
    Calls Try.prog 35 #[v, .int .i64 m] w fun e w' => ∃ r, e = .returned (.int .i64 r) ∧ SzOk2 xs.length m r ∧ Below w.heap.size w w' := by
  obtain ⟨A, c, rfl, hA⟩ := strRow_at hv
  unfold maxLen at hx hs
  obtain ⟨n, hn⟩ : ∃ n, xs.length = n := ⟨_, rfl⟩
  have HA := hidv hA
  rw [hn] at hx ⊢
  have HN := hidv hn
  have HS := hidv hs
  clear hn hA hv hs
  by_cases hnm : m < (n : Int)
  · go_enter Try.func35, Try.ntmps35
    go_wp2
    go_ret
    exact ⟨_, rfl, fun h => by omega, Below.refl _ _⟩
  · go_enter Try.func35, Try.ntmps35
    go_wp2
    go_loop [1, 5] (fun l i => ∃ (k : Nat) (q : Int), k ≤ n ∧ i = .int .i64 k ∧ l = .int .i64 q ∧ 0 ≤ q ∧ q + n ≤ m) (fun _ i => n - (intOf i).toNat)
    case atStart => exact ⟨0, _, Nat.zero_le _, rfl, rfl, by omega, by omega⟩
    case round =>
      obtain ⟨k, q, hk, rfl, rfl, hq0, hq1⟩ := hrel
      by_cases hlt : k < n
      · have hkx : k < xs.length := by have := HN.out; omega
        obtain ⟨g, o, rfl, hg, hce⟩ := HA.out (by omega)
        have c1 := hce k hkx
        have hsz := HS.out xs[k] (List.getElem_mem _)
        obtain ⟨x, hx1⟩ : ∃ x, xs[k] = x := ⟨_, rfl⟩
        rw [hx1] at c1 hsz
        clear hx1 hce
        by_cases hqs : q < (x.size : Int)
        · go_wp2
          go_ret
          exact ⟨_, rfl, fun h => by omega, Below.refl _ _⟩
        · go_wp2
          go_round
          case rel => exact ⟨k + 1, q - x.size, by omega, by go_num, rfl, by omega, by omega⟩
          case measure => simp [intOf]; omega
      · go_wp2
        go_ret
        exact ⟨_, rfl, fun h => by omega, Below.refl _ _⟩

end Go.Proofs.Ytpjidcfdcpjafaa
