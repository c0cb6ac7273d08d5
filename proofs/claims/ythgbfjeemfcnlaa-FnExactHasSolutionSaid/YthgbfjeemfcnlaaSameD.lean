/-
  Whether two descriptions of solutions are equal, of the program: contracts.
-/
import Derived.Test.YthgbfjeemfcnlaaDesc
import Derived.Deep.QuietTactic
import Derived.BigQuiet
import Derived.Laws.StructEq
namespace Go.Proofs.Ythgbfjeemfcnlaa
open Go.RowKit Go
set_option linter.unusedVariables false

theorem toList_ne {x y : ByteArray} (h : x ≠ y) : (x.toList == y.toList) = false := by
  rw [beq_eq_false_iff_ne]
  intro e
  rw [ByteArray.toList_eq, ByteArray.toList_eq] at e
  obtain ⟨⟨a⟩⟩ := x
  obtain ⟨⟨b⟩⟩ := y
  exact h (by simpa using e)

set_option maxRecDepth 100000 in
set_option maxHeartbeats 800000 in
theorem equalS_any (v u : Value) (xs ys : List ByteArray) (B C : Nat) (w : World) (hv : Row w B v (xs.map Value.string)) (hu : Row w C u (ys.map Value.string)) (hx : xs.length ≤ 1048576) (_ : ys.length ≤ 1048576) (r : Bool) (hr : decide (xs = ys) = r) :
    Calls Try.prog 27 #[v, u] w fun e w' => e = .returned (.bool r) ∧ Below w.heap.size w w' := by
  obtain ⟨A, c, rfl, hA⟩ := strRow_at hv
  obtain ⟨A', c', rfl, hA'⟩ := strRow_at hu
  have HR := hidv hr
  have HA := hidv hA
  have HA' := hidv hA'
  clear hr hA hA' hv hu
  by_cases hl : xs.length = ys.length
  · obtain ⟨n, hn⟩ : ∃ n, xs.length = n := ⟨_, rfl⟩
    have HL := hidv hl
    rw [← hl, hn]
    rw [hn] at hx
    have HN := hidv hn
    have hlb : ((n : Int) != (n : Int)) = false := by simp
    clear hl hn
    go_enter Try.func27, Try.ntmps27
    go_wp2
    go_loopw [13] (fun i wr => ∃ k : Nat, k ≤ n ∧ i = .int .i64 k ∧ Hid (xs.take k = ys.take k) ∧ ∃ m, wr = w.drewN m) (fun i _ => n - (intOf i).toNat)
    case atStart => exact ⟨0, Nat.zero_le _, rfl, hidv (by simp), 0, rfl⟩
    case round =>
      obtain ⟨k, hk, rfl, heq, m, rfl⟩ := hrel
      by_cases hlt : k < n
      · have hkx : k < xs.length := by have := HN.out; omega
        have hky : k < ys.length := by have := HN.out; have := HL.out; omega
        obtain ⟨g, o, rfl, hg, hc⟩ := HA.out (by omega)
        obtain ⟨g', o', rfl, hg', hc'⟩ := HA'.out (by omega)
        have c1 := hc k hkx
        have c2 := hc' k hky
        have hts : xs[k] = ys[k] → xs.take (k + 1) = ys.take (k + 1) := fun h => by
          rw [List.take_succ_eq_append_getElem hkx, List.take_succ_eq_append_getElem hky, heq.out, h]
        have hne : xs[k] ≠ ys[k] → xs ≠ ys := fun h e => h (by subst e; rfl)
        obtain ⟨x, hx1⟩ : ∃ x, xs[k] = x := ⟨_, rfl⟩
        obtain ⟨y, hy1⟩ : ∃ x, ys[k] = x := ⟨_, rfl⟩
        rw [hx1] at c1
        rw [hy1] at c2
        rw [hx1, hy1] at hts hne
        have HT := hidv hts
        have HNE := hidv hne
        have i1 : (0 : Int) ≤ (k : Int) := by omega
        have i2 : (k : Int) < (n : Int) := by omega
        clear hx1 hy1 hts hne hc hc'
        by_cases hxx : x = y
        · subst hxx
          go_wp2
          go_quiet (fail)
          go_wp2
          go_roundw
          case rel => exact ⟨k + 1, by omega, by go_num, hidv (HT.out (by trivial)), _, rfl⟩
          case measure => simp [intOf]; omega
        · have hb := toList_ne hxx
          have HF : Hid (decide (xs = ys) = false) := hidv (by rw [decide_eq_false]; exact HNE.out hxx)
          clear hxx
          go_wp2
          go_quiet (fail)
          go_wp2
          go_ret
          exact ⟨ret_bool (by rw [← HR.out, HF.out]), below_drewN (below_drewN (Below.refl _ _) _) _⟩
      · go_wp2
        go_ret
        have he := heq.out
        rw [List.take_of_length_le (by have := HN.out; omega), List.take_of_length_le (by have := HN.out; have := HL.out; omega)] at he
        exact ⟨ret_bool (by rw [← HR.out, decide_eq_true he]), below_drewN (Below.refl _ _) _⟩
  · have hlb : ((xs.length : Int) != (ys.length : Int)) = true := by rw [bne_iff_ne]; omega
    obtain rfl : r = false := by
      rw [← HR.out, decide_eq_false]
      intro h
      exact hl (by rw [h])
    clear hl
    go_enter Try.func27, Try.ntmps27
    go_wp2
    go_ret
    exact ⟨rfl, Below.refl _ _⟩

set_option maxRecDepth 100000 in
set_option maxHeartbeats 800000 in
theorem equalP_any (v u : Value) (xs ys : List Pw) (B C : Nat) (w : World) (hv : PRow w B v xs) (hu : PRow w C u ys) (hx : xs.length ≤ 1048576) (_ : ys.length ≤ 1048576) (r : Bool) (hr : decide (xs = ys) = r) :
    Calls Try.prog 28 #[v, u] w fun e w' => e = .returned (.bool r) ∧ Below w.heap.size w w' := by
  obtain ⟨A, c, rfl, hA⟩ := hv
  obtain ⟨A', c', rfl, hA'⟩ := hu
  have HR := hidv hr
  have HA := hidv hA
  have HA' := hidv hA'
  clear hr hA hA'
  by_cases hl : xs.length = ys.length
  · obtain ⟨n, hn⟩ : ∃ n, xs.length = n := ⟨_, rfl⟩
    have HL := hidv hl
    rw [← hl, hn]
    rw [hn] at hx
    have HN := hidv hn
    have hlb : ((n : Int) != (n : Int)) = false := by simp
    clear hl hn
    go_enter Try.func28, Try.ntmps28
    go_wp2
    go_loopw [13] (fun i wr => ∃ k : Nat, k ≤ n ∧ i = .int .i64 k ∧ Hid (xs.take k = ys.take k) ∧ ∃ m, wr = w.drewN m) (fun i _ => n - (intOf i).toNat)
    case atStart => exact ⟨0, Nat.zero_le _, rfl, hidv (by simp), 0, rfl⟩
    case round =>
      obtain ⟨k, hk, rfl, heq, m, rfl⟩ := hrel
      by_cases hlt : k < n
      · have hkx : k < xs.length := by have := HN.out; omega
        have hky : k < ys.length := by have := HN.out; have := HL.out; omega
        obtain ⟨g, o, rfl, hg, hc⟩ := HA.out (by omega)
        obtain ⟨g', o', rfl, hg', hc'⟩ := HA'.out (by omega)
        obtain ⟨c1, c2, c3⟩ := hc k hkx
        obtain ⟨c4, c5, c6⟩ := hc' k hky
        have hts : xs[k] = ys[k] → xs.take (k + 1) = ys.take (k + 1) := fun h => by
          rw [List.take_succ_eq_append_getElem hkx, List.take_succ_eq_append_getElem hky, heq.out, h]
        have hne : xs[k] ≠ ys[k] → xs ≠ ys := fun h e => h (by subst e; rfl)
        obtain ⟨⟨x, y, z⟩, hx1⟩ : ∃ x, xs[k] = x := ⟨_, rfl⟩
        obtain ⟨⟨x', y', z'⟩, hy1⟩ : ∃ x, ys[k] = x := ⟨_, rfl⟩
        rw [hx1] at c1 c2 c3
        rw [hy1] at c4 c5 c6
        rw [hx1, hy1] at hts hne
        dsimp only at c1 c2 c3 c4 c5 c6
        have HT := hidv hts
        have HNE := hidv hne
        have i1 : (0 : Int) ≤ (k : Int) := by omega
        have i2 : (k : Int) < (n : Int) := by omega
        clear hx1 hy1 hts hne hc hc'
        by_cases hxx : x = x'
        · subst hxx
          by_cases hyy : y = y'
          · subst hyy
            by_cases hzz : z = z'
            · subst hzz
              go_wp2
              go_quiet (fail)
              go_wp2
              go_roundw
              case rel => exact ⟨k + 1, by omega, by go_num, hidv (HT.out (by trivial)), _, rfl⟩
              case measure => simp [intOf]; omega
            · have hb : (z == z') = false := by simpa using hzz
              have HF : Hid (decide (xs = ys) = false) := hidv (by rw [decide_eq_false]; exact HNE.out (fun e => hzz (Prod.mk.inj (Prod.mk.inj e).2).2))
              clear hzz
              go_wp2
              go_quiet (fail)
              go_wp2
              go_ret
              exact ⟨ret_bool (by rw [← HR.out, HF.out]), below_drewN (below_drewN (Below.refl _ _) _) _⟩
          · have hb := toList_ne hyy
            have HF : Hid (decide (xs = ys) = false) := hidv (by rw [decide_eq_false]; exact HNE.out (fun e => hyy (Prod.mk.inj (Prod.mk.inj e).2).1))
            clear hyy
            go_wp2
            go_quiet (fail)
            go_wp2
            go_ret
            exact ⟨ret_bool (by rw [← HR.out, HF.out]), below_drewN (below_drewN (Below.refl _ _) _) _⟩
        · have hb := toList_ne hxx
          have HF : Hid (decide (xs = ys) = false) := hidv (by rw [decide_eq_false]; exact HNE.out (fun e => hxx (Prod.mk.inj e).1))
          clear hxx
          go_wp2
          go_quiet (fail)
          go_wp2
          go_ret
          exact ⟨ret_bool (by rw [← HR.out, HF.out]), below_drewN (below_drewN (Below.refl _ _) _) _⟩
      · go_wp2
        go_ret
        have he := heq.out
        rw [List.take_of_length_le (by have := HN.out; omega), List.take_of_length_le (by have := HN.out; have := HL.out; omega)] at he
        exact ⟨ret_bool (by rw [← HR.out, decide_eq_true he]), below_drewN (Below.refl _ _) _⟩
  · have hlb : ((xs.length : Int) != (ys.length : Int)) = true := by rw [bne_iff_ne]; omega
    obtain rfl : r = false := by
      rw [← HR.out, decide_eq_false]
      intro h
      exact hl (by rw [h])
    clear hl
    go_enter Try.func28, Try.ntmps28
    go_wp2
    go_ret
    exact ⟨rfl, Below.refl _ _⟩

end Go.Proofs.Ythgbfjeemfcnlaa
