/-
  The laws' own functions on slices of numbers (equal; written over by marks; found marked): contracts.
-/
import Derived.Test.YtpjflakialomaaaRow
namespace Go.Proofs.Ytpjflakialomaaa
open Go.RowKit Go

set_option maxHeartbeats 400000 in
theorem eqInts_any (v u : Value) (xs ys : List Int) (B C : Nat) (w : World) (hv : Row w B v (xs.map (Value.int .i64))) (hu : Row w C u (ys.map (Value.int .i64))) (hx : xs.length ≤ maxLen) (hy : ys.length ≤ maxLen) :
    Calls Try.prog 27 #[v, u] w fun e w' => e = .returned (.bool (decide (xs = ys))) ∧ Below w.heap.size w w' := by
  unfold maxLen at hx hy
  obtain ⟨A, c, rfl, hA⟩ := hv
  obtain ⟨A', c', rfl, hA'⟩ := hu
  rw [List.length_map] at hA hA' ⊢
  rw [List.length_map]
  obtain ⟨r, hr⟩ : ∃ r, decide (xs = ys) = r := ⟨_, rfl⟩
  rw [hr]
  have HR := hidv hr
  clear hr
  by_cases hl : xs.length = ys.length
  · have hlb : ((xs.length : Int) != (ys.length : Int)) = false := by simp [hl]
    have HL := hidv hl
    have hl1 : xs.length ≤ ys.length := by omega
    clear hl
    by_cases h0 : xs.length = 0
    · have h1 : ys.length = 0 := by have := HL.out; omega
      have e1 : xs = [] := List.eq_nil_of_length_eq_zero h0
      have e2 : ys = [] := List.eq_nil_of_length_eq_zero h1
      subst e1 e2
      obtain rfl : r = true := by have := HR.out; simpa using this.symm
      clear HR HL hl1 hlb hA hA' hx hy h0 h1
      go_enter Try.func27, Try.ntmps27
      go_wp2
      refine wp_loop_rounds 1 ?_
      rw [rounds_succ]
      go_wp2
      go_ret
      exact ⟨rfl, Below.refl _ _⟩
    · obtain ⟨g, o, rfl, hg, hc⟩ := hA (by omega)
      obtain ⟨g', o', rfl, hg', hc'⟩ := hA' (by have := HL.out; omega)
      have HC := hidv hc
      have HC' := hidv hc'
      clear hc hc' hA hA' h0
      go_enter Try.func27, Try.ntmps27
      go_wp2
      go_loopw [5] (fun i wr => ∃ k : Nat, k ≤ xs.length ∧ i = .int .i64 k ∧ Hid (xs.take k = ys.take k) ∧ ∃ n, wr = w.drewN n) (fun i _ => xs.length - (intOf i).toNat)
      case atStart => exact ⟨0, Nat.zero_le _, rfl, hidv (by simp), 0, rfl⟩
      case round =>
        obtain ⟨k, hk, rfl, heq, n, rfl⟩ := hrel
        by_cases hlt : k < xs.length
        · have hlt2 : k < ys.length := by have := HL.out; omega
          have c1 : w.cell? ⟨g, o + k, none⟩ = some (.int .i64 xs[k]) := HC.out k _ (map_int_at hlt)
          have c2 : w.cell? ⟨g', o' + k, none⟩ = some (.int .i64 ys[k]) := HC'.out k _ (map_int_at hlt2)
          obtain ⟨x, hx1⟩ : ∃ x, xs[k] = x := ⟨_, rfl⟩
          obtain ⟨y, hy1⟩ : ∃ y, ys[k] = y := ⟨_, rfl⟩
          rw [hx1] at c1
          rw [hy1] at c2
          have HX := hidv hx1
          have HY := hidv hy1
          clear hx1 hy1
          go_wp2
          go_quiet (fail)
          go_wp2
          · have hne : (x != y) = true := by assumption
            go_ret
            refine ⟨ret_bool ?_, below_drewN (below_drewN (Below.refl _ _) _) _⟩
            rw [← HR.out]
            symm
            simp only [decide_eq_false_iff_not]
            intro he
            have : xs[k] = ys[k] := by simp [he]
            rw [HX.out, HY.out] at this
            simp [this] at hne
          · have hne : (x != y) = false := by assumption
            go_roundw
            case rel =>
              refine ⟨k + 1, by omega, by go_num, hidv (take_eq_succ hlt hlt2 heq.out ?_), _, rfl⟩
              rw [HX.out, HY.out]
              simpa using hne
            case measure => simp [intOf]; omega
        · go_wp2
          go_ret
          have he := heq.out
          rw [List.take_of_length_le (by omega), List.take_of_length_le (by have := HL.out; omega)] at he
          refine ⟨ret_bool ?_, below_drewN (Below.refl _ _) _⟩
          rw [← HR.out, he]
          simp
  · have hlb : ((xs.length : Int) != (ys.length : Int)) = true := by
      rw [bne_iff_ne]; omega
    obtain rfl : r = false := by
      have := HR.out
      rw [← this]
      simp
      intro h
      exact hl (by rw [h])
    clear HR hl hA hA'
    go_enter Try.func27, Try.ntmps27
    go_wp2
    go_ret
    exact ⟨rfl, Below.refl _ _⟩


theorem held_ne {m k : Nat} {x : Int} (h : x = ((m + k : Nat) : Int)) : (x != (m : Int) + (k : Int)) = false := by
  rw [h]; simp

theorem eqInts_same {v u : Value} {L : List Int} {B C : Nat} {w : World} (hv : Row w B v (L.map (Value.int .i64))) (hu : Row w C u (L.map (Value.int .i64))) (hl : L.length ≤ 1000000000) :
    Calls Try.prog 27 #[v, u] w fun e w' => e = .returned (.bool true) ∧ Below w.heap.size w w' := by
  have h := eqInts_any v u L L B C w hv hu (by unfold maxLen; omega) (by unfold maxLen; omega)
  rw [show decide (L = L) = true from by simp] at h
  exact h

end Go.Proofs.Ytpjflakialomaaa
