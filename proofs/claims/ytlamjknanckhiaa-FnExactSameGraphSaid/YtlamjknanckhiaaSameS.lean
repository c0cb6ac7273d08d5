/-
  SameSystem, of the program and of the model: contracts.
-/
import Derived.Test.YtlamjknanckhiaaEqS
import Derived.Deep.QuietTactic
import Derived.BigQuiet
import Derived.Laws.StructEq
namespace Go.Proofs.Ytlamjknanckhiaa
open Go.RowKit Go
set_option linter.unusedVariables false

theorem toList_ne {x y : ByteArray} (h : x ≠ y) : (x.toList == y.toList) = false := by
  rw [beq_eq_false_iff_ne]
  intro e
  rw [ByteArray.toList_eq, ByteArray.toList_eq] at e
  obtain ⟨⟨a⟩⟩ := x
  obtain ⟨⟨b⟩⟩ := y
  exact h (by simpa using e)

set_option maxRecDepth 100000 in
set_option maxHeartbeats 800000 in
theorem specSame_any (v u : Value) (xs ys : List Eqn) (B C : Nat) (w : World) (hv : ERow w B v xs) (hu : ERow w C u ys) (hx : xs.length ≤ 1048576) (_ : ys.length ≤ 1048576) :
    Calls Try.prog 11 #[v, u] w fun e w' => e = .returned (.bool (decide (xs = ys))) ∧ Below w.heap.size w w' := by
  obtain ⟨A, c, rfl, hA⟩ := hv
  obtain ⟨A', c', rfl, hA'⟩ := hu
  obtain ⟨r, hr⟩ : ∃ r, decide (xs = ys) = r := ⟨_, rfl⟩
  rw [hr]
  have HR := hidv hr
  have HA := hidv hA
  have HA' := hidv hA'
  clear hr hA hA'
  by_cases hl : xs.length = ys.length
  · obtain ⟨n, hn⟩ : ∃ n, xs.length = n := ⟨_, rfl⟩
    have HL := hidv hl
    rw [← hl, hn]
    rw [hn] at hx
    have HN := hidv hn
    have hlb : ((n : Int) != (n : Int)) = false := by simp
    clear hl hn
    go_enter Try.func11, Try.ntmps11
    go_wp2
    go_loopw [5] (fun i wr => ∃ k : Nat, k ≤ n ∧ i = .int .i64 k ∧ Hid (xs.take k = ys.take k) ∧ ∃ m, wr = w.drewN m) (fun i _ => n - (intOf i).toNat)
    case atStart => exact ⟨0, Nat.zero_le _, rfl, hidv (by simp), 0, rfl⟩
    case round =>
      obtain ⟨k, hk, rfl, heq, m, rfl⟩ := hrel
      by_cases hlt : k < n
      · have hkx : k < xs.length := by have := HN.out; omega
        have hky : k < ys.length := by have := HN.out; have := HL.out; omega
        obtain ⟨g, o, rfl, hg, hc⟩ := HA.out (by omega)
        obtain ⟨g', o', rfl, hg', hc'⟩ := HA'.out (by omega)
        obtain ⟨c1, c2⟩ := hc k hkx
        obtain ⟨c3, c4⟩ := hc' k hky
        have hts := take_eq_succE hkx hky heq.out
        have hne : xs[k] ≠ ys[k] → xs ≠ ys := fun h e => h (by subst e; rfl)
        obtain ⟨⟨x, y⟩, hx1⟩ : ∃ x, xs[k] = x := ⟨_, rfl⟩
        obtain ⟨⟨x', y'⟩, hy1⟩ : ∃ x, ys[k] = x := ⟨_, rfl⟩
        rw [hx1] at c1 c2
        rw [hy1] at c3 c4
        rw [hx1, hy1] at hts hne
        dsimp only at c1 c2 c3 c4
        have HT := hidv hts
        have HNE := hidv hne
        have i1 : (0 : Int) ≤ (k : Int) := by omega
        have i2 : (k : Int) < (n : Int) := by omega
        clear hx1 hy1 hts hne hc hc'
        by_cases hxx : x = x'
        · subst hxx
          by_cases hyy : y = y'
          · subst hyy
            go_wp2
            go_quiet (fail)
            go_wp2
            go_roundw
            case rel => exact ⟨k + 1, by omega, by go_num, hidv (HT.out (by trivial)), _, rfl⟩
            case measure => simp [intOf]; omega
          · have hb := toList_ne hyy
            have HF : Hid (decide (xs = ys) = false) := hidv (by rw [decide_eq_false]; exact HNE.out (fun e => hyy (Prod.mk.inj e).2))
            clear hyy
            go_wp2
            go_quiet (fail)
            go_wp2
            go_ret
            exact ⟨ret_bool (by rw [← HR.out, HF.out]), below_drewN (below_drewN (Below.refl _ _) _) _⟩
        · have hb := toList_ne hxx
          have HF : Hid (decide (xs = ys) = false) := hidv (by rw [decide_eq_false]; exact HNE.out (fun e => hxx (Prod.mk.inj e).1))
          clear hxx
          go_wp2
          go_quiet (fail)
          go_wp2
          go_ret
          exact ⟨ret_bool (by rw [← HR.out, HF.out]), below_drewN (below_drewN (Below.refl _ _) _) _⟩
      · go_wp2
        go_ret
        have he := heq.out
        rw [List.take_of_length_le (by have := HN.out; omega), List.take_of_length_le (by have := HN.out; have := HL.out; omega)] at he
        exact ⟨ret_bool (by rw [← HR.out, decide_eq_true he]), below_drewN (Below.refl _ _) _⟩
  · have hlb : ((xs.length : Int) != (ys.length : Int)) = true := by rw [bne_iff_ne]; omega
    obtain rfl : r = false := by
      rw [← HR.out, decide_eq_false]
      intro h
      exact hl (by rw [h])
    clear hl
    go_enter Try.func11, Try.ntmps11
    go_wp2
    go_ret
    exact ⟨rfl, Below.refl _ _⟩

set_option maxRecDepth 100000 in
set_option maxHeartbeats 800000 in
theorem slicesEqual_any (v u : Value) (xs ys : List Eqn) (B C : Nat) (w : World) (hv : ERow w B v xs) (hu : ERow w C u ys) (hx : xs.length ≤ 1048576) (_ : ys.length ≤ 1048576) :
    Calls Try.prog 15 #[v, u] w fun e w' => e = .returned (.bool (decide (xs = ys))) ∧ Below w.heap.size w w' := by
  obtain ⟨A, c, rfl, hA⟩ := hv
  obtain ⟨A', c', rfl, hA'⟩ := hu
  obtain ⟨r, hr⟩ : ∃ r, decide (xs = ys) = r := ⟨_, rfl⟩
  rw [hr]
  have HR := hidv hr
  have HA := hidv hA
  have HA' := hidv hA'
  clear hr hA hA'
  by_cases hl : xs.length = ys.length
  · obtain ⟨n, hn⟩ : ∃ n, xs.length = n := ⟨_, rfl⟩
    have HL := hidv hl
    rw [← hl, hn]
    rw [hn] at hx
    have HN := hidv hn
    have hlb : ((n : Int) != (n : Int)) = false := by simp
    clear hl hn
    go_enter Try.func15, Try.ntmps15
    go_wp2
    go_loopw [13] (fun i wr => ∃ k : Nat, k ≤ n ∧ i = .int .i64 k ∧ Hid (xs.take k = ys.take k) ∧ ∃ m, wr = w.drewN m) (fun i _ => n - (intOf i).toNat)
    case atStart => exact ⟨0, Nat.zero_le _, rfl, hidv (by simp), 0, rfl⟩
    case round =>
      obtain ⟨k, hk, rfl, heq, m, rfl⟩ := hrel
      by_cases hlt : k < n
      · have hkx : k < xs.length := by have := HN.out; omega
        have hky : k < ys.length := by have := HN.out; have := HL.out; omega
        obtain ⟨g, o, rfl, hg, hc⟩ := HA.out (by omega)
        obtain ⟨g', o', rfl, hg', hc'⟩ := HA'.out (by omega)
        obtain ⟨c1, c2⟩ := hc k hkx
        obtain ⟨c3, c4⟩ := hc' k hky
        have hts := take_eq_succE hkx hky heq.out
        have hne : xs[k] ≠ ys[k] → xs ≠ ys := fun h e => h (by subst e; rfl)
        obtain ⟨⟨x, y⟩, hx1⟩ : ∃ x, xs[k] = x := ⟨_, rfl⟩
        obtain ⟨⟨x', y'⟩, hy1⟩ : ∃ x, ys[k] = x := ⟨_, rfl⟩
        rw [hx1] at c1 c2
        rw [hy1] at c3 c4
        rw [hx1, hy1] at hts hne
        dsimp only at c1 c2 c3 c4
        have HT := hidv hts
        have HNE := hidv hne
        have i1 : (0 : Int) ≤ (k : Int) := by omega
        have i2 : (k : Int) < (n : Int) := by omega
        clear hx1 hy1 hts hne hc hc'
        by_cases hxx : x = x'
        · subst hxx
          by_cases hyy : y = y'
          · subst hyy
            go_wp2
            go_quiet (fail)
            go_wp2
            go_roundw
            case rel => exact ⟨k + 1, by omega, by go_num, hidv (HT.out (by trivial)), _, rfl⟩
            case measure => simp [intOf]; omega
          · have hb := toList_ne hyy
            have HF : Hid (decide (xs = ys) = false) := hidv (by rw [decide_eq_false]; exact HNE.out (fun e => hyy (Prod.mk.inj e).2))
            clear hyy
            go_wp2
            go_quiet (fail)
            go_wp2
            go_ret
            exact ⟨ret_bool (by rw [← HR.out, HF.out]), below_drewN (below_drewN (Below.refl _ _) _) _⟩
        · have hb := toList_ne hxx
          have HF : Hid (decide (xs = ys) = false) := hidv (by rw [decide_eq_false]; exact HNE.out (fun e => hxx (Prod.mk.inj e).1))
          clear hxx
          go_wp2
          go_quiet (fail)
          go_wp2
          go_ret
          exact ⟨ret_bool (by rw [← HR.out, HF.out]), below_drewN (below_drewN (Below.refl _ _) _) _⟩
      · go_wp2
        go_ret
        have he := heq.out
        rw [List.take_of_length_le (by have := HN.out; omega), List.take_of_length_le (by have := HN.out; have := HL.out; omega)] at he
        exact ⟨ret_bool (by rw [← HR.out, decide_eq_true he]), below_drewN (Below.refl _ _) _⟩
  · have hlb : ((xs.length : Int) != (ys.length : Int)) = true := by rw [bne_iff_ne]; omega
    obtain rfl : r = false := by
      rw [← HR.out, decide_eq_false]
      intro h
      exact hl (by rw [h])
    clear hl
    go_enter Try.func15, Try.ntmps15
    go_wp2
    go_ret
    exact ⟨rfl, Below.refl _ _⟩

end Go.Proofs.Ytlamjknanckhiaa
