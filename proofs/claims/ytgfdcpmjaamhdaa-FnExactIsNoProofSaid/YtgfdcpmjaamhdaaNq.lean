/-
  Whether factors prove that a system has no solution, in the program: contracts.
-/
import Derived.Test.YtgfdcpmjaamhdaaNt
import Derived.Lib.OthersKept
namespace Go.Proofs.Ytgfdcpmjaamhdaa
open Go.RowKit Go
set_option linter.unusedVariables false

theorem ints_get {xs : List Int} {i : Nat} (hi : i < xs.length) : (ints xs)[i]? = some (.int .i64 xs[i]) := ints_at (by simp [hi])

set_option maxHeartbeats 400000 in
theorem minI_any (v : Value) (xs : List Int) (B : Nat) (w : World) (hv : Row w B v (ints xs)) (hx : xs.length ≤ 1048576) (h0 : 0 < xs.length) :
    Calls Try.prog 24 #[v] w fun e w' => ∃ m, e = .returned (.int .i64 m) ∧ m ∈ xs ∧ (∀ x ∈ xs, m ≤ x) ∧ w' = w := by
  obtain ⟨A, c, rfl, hA⟩ := hv
  rw [show (ints xs).length = xs.length by simp [ints]] at hA ⊢
  obtain ⟨g, o, rfl, hg, hce⟩ := hA h0
  obtain ⟨n, hn⟩ : ∃ n, xs.length = n := ⟨_, rfl⟩
  have HC := hidv (fun i (hi : i < xs.length) => hce i _ (ints_get hi))
  have c0 := HC.out 0 h0
  have hm0 : xs[0] ∈ xs := List.getElem_mem _
  obtain ⟨x0, hx0⟩ : ∃ x, xs[0] = x := ⟨_, rfl⟩
  rw [hx0] at c0 hm0
  rw [Nat.add_zero] at c0
  have HX0 := hidv hx0
  rw [hn] at hx h0 ⊢
  have HN := hidv hn
  have HM0 := hidv hm0
  clear hA hce hn hx0 hm0
  go_enter Try.func24, Try.ntmps24
  go_wp2_with fail
  clear c0
  go_loop [3, 4] (fun q i => ∃ (j : Nat) (m : Int), 1 ≤ j ∧ j ≤ n ∧ i = .int .i64 (j : Int) ∧ q = .int .i64 m ∧ Hid (m ∈ xs) ∧ Hid (∀ p (hp : p < xs.length), p < j → m ≤ xs[p])) (fun _ i => n - (intOf i).toNat)
  case atStart => exact ⟨1, x0, by omega, by omega, rfl, rfl, HM0, hidv (fun p hp h => by
    obtain rfl : p = 0 := by omega
    exact Int.le_of_eq HX0.out.symm)⟩
  case round =>
    obtain ⟨j, m, hj1, hj, rfl, rfl, hme, hall⟩ := hrel
    by_cases hlt : j < n
    · have hjx : j < xs.length := by have := HN.out; omega
      have c1 := HC.out j hjx
      have hmj : xs[j] ∈ xs := List.getElem_mem _
      obtain ⟨x, hx1⟩ : ∃ x, xs[j] = x := ⟨_, rfl⟩
      rw [hx1] at c1 hmj
      have HX := hidv hx1
      have HMJ := hidv hmj
      clear hx1 hmj
      by_cases hle : x < m
      · have HALL := hidv (show ∀ p (hp : p < xs.length), p < j + 1 → x ≤ xs[p] from fun p hp h => by
          rcases Nat.lt_or_ge p j with h2 | h2
          · have := hall.out p hp h2; omega
          · obtain rfl : p = j := by omega
            rw [HX.out]; exact Int.le_refl _)
        go_wp2_with fail
        go_round
        case rel => exact ⟨j + 1, x, by omega, by omega, by go_num, by first | rfl | (congr 1; omega) | simp [hle] | (rw [Int.min_def]; simp; omega), HMJ, HALL⟩
        case measure => simp [intOf]; omega
      · have HALL := hidv (show ∀ p (hp : p < xs.length), p < j + 1 → m ≤ xs[p] from fun p hp h => by
          rcases Nat.lt_or_ge p j with h2 | h2
          · exact hall.out p hp h2
          · obtain rfl : p = j := by omega
            rw [HX.out]; omega)
        go_wp2_with fail
        go_round
        case rel => exact ⟨j + 1, m, by omega, by omega, by go_num, by first | rfl | (congr 1; omega) | simp [hle] | (rw [Int.min_def]; simp; omega), hme, HALL⟩
        case measure => simp [intOf]; omega
    · obtain rfl : j = n := by omega
      have HALL := hidv (show ∀ x ∈ xs, m ≤ x from fun x hx => by
        obtain ⟨p, hp, rfl⟩ := List.getElem_of_mem hx
        exact hall.out p hp (by have := HN.out; omega))
      go_wp2_with fail
      go_ret
      exact ⟨_, rfl, hme.out, HALL.out, rfl⟩

/-- The sums of all kinds, and while they are made. -/
def sumL (S : List (List Int)) (F : List Int) (c m : Nat) : List Int := (List.range 8).map fun q => totN S F c q m
def stg (S : List (List Int)) (F : List Int) (c m k : Nat) : List Int := (List.range 8).map fun q => if q < k then totN S F c q (m + 1) else totN S F c q m
theorem stg_zero (S : List (List Int)) (F : List Int) (c m : Nat) : stg S F c m 0 = sumL S F c m := by
  unfold stg sumL
  refine List.map_congr_left fun q _ => ?_
  rw [if_neg (by omega)]
theorem stg_eight (S : List (List Int)) (F : List Int) (c m : Nat) : stg S F c m 8 = sumL S F c (m + 1) := by
  unfold stg sumL
  refine List.map_congr_left fun q hq => ?_
  have : q < 8 := by simpa using hq
  rw [if_pos this]
theorem stg_at (S : List (List Int)) (F : List Int) (c m k : Nat) (hk : k < 8) : (stg S F c m k)[k]? = some (totN S F c k m) := by
  unfold stg
  simp [hk]
theorem stg_set (S : List (List Int)) (F : List Int) (c m k : Nat) (hk : k < 8) : (stg S F c m k).set k (totN S F c k (m + 1)) = stg S F c m (k + 1) := by
  unfold stg
  apply List.ext_getElem
  · simp
  · intro j h1 h2
    simp only [List.length_map, List.length_range] at h2
    rw [List.getElem_set]
    split
    · rename_i he; subst he; simp
    · rename_i he
      simp only [List.getElem_map, List.getElem_range]
      by_cases hj : j < k
      · rw [if_pos hj, if_pos (by omega)]
      · rw [if_neg hj, if_neg (by omega)]
theorem sumL_zero (S : List (List Int)) (F : List Int) (c : Nat) : sumL S F c 0 = [0, 0, 0, 0, 0, 0, 0, 0] := rfl
theorem sumL_eight (S : List (List Int)) (F : List Int) (c m : Nat) : sumL S F c m = [totN S F c 0 m, totN S F c 1 m, totN S F c 2 m, totN S F c 3 m, totN S F c 4 m, totN S F c 5 m, totN S F c 6 m, totN S F c 7 m] := rfl

/-- Rows of eight numbers, one behind the other in one block. -/
def FRow (w : World) (B : Nat) (v : Value) (S : List (List Int)) : Prop :=
  ∃ A c, v = .slice A S.length c ∧ (0 < S.length → ∃ g, A = some ⟨g, 0, none⟩ ∧ g < B ∧ ∀ i (hi : i < S.length) k x, (S[i])[k]? = some x → w.cell? ⟨g, i * 8 + k, none⟩ = some (.int .i64 x))

theorem it_lt {w : World} {k : Nat} {o : Obj} (h : w.heap[k]? = some o) : k < w.heap.size := (Array.getElem?_eq_some_iff.1 h).1
theorem it_alloc {w : World} {k : Nat} {o : Obj} (h : w.heap[k]? = some o) (o' : Obj) : (w.alloc o').heap[k]? = some o := (Below.heap_alloc w o' k (it_lt h)).trans h
theorem it_far {w : World} {k : Nat} {o : Obj} (h : w.heap[k]? = some o) (p : Addr) (hp : p.block ≠ k) (u : Value) : (w.setCell p u).heap[k]? = some o := (Below.heap_setCell w p u k (fun e => hp e.symm)).trans h
theorem it_below {w w' : World} {k : Nat} {o : Obj} (h : w.heap[k]? = some o) (hb : Below w.heap.size w w') : w'.heap[k]? = some o := (hb.block k (it_lt h)).trans h
theorem it_pos {w : World} {k : Nat} {s : ByteArray} {p : Nat} (h : w.heap[k]? = some (.stringIter s p)) : w.iterPos k = p := by
  unfold World.iterPos
  rw [h]
def ABCD : ByteArray := ⟨#[97, 98, 99, 100]⟩
theorem next_abcd (w : World) (k c : Nat) (hc : c < 4) (hk : w.heap[k]? = some (.stringIter ABCD c)) : ∃ x : Int, ∀ ty, (Instr.next (.pointer (some ⟨k, 0, none⟩)) true ty).run Try.prog w = .ok (.tuple #[.bool true, .int .i64 (c : Int), .int .i32 x]) (w.iterAt k ABCD (c + 1)) := by
  have h4 : c < ABCD.size := hc
  refine ⟨_, fun ty => Lib.run_next_ascii_at w k ABCD c ty hk h4 ?_⟩
  have h : c = 0 ∨ c = 1 ∨ c = 2 ∨ c = 3 := by omega
  rcases h with rfl | rfl | rfl | rfl
  · exact (show (97 : UInt8).toNat < 128 by decide)
  · exact (show (98 : UInt8).toNat < 128 by decide)
  · exact (show (99 : UInt8).toNat < 128 by decide)
  · exact (show (100 : UInt8).toNat < 128 by decide)

end Go.Proofs.Ytgfdcpmjaamhdaa
