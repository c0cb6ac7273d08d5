/-
  slices.Equal of numbers and slices.EqualFunc of slices of them: contracts.
-/
import Derived.Test.YtncjfafailefoaaI5
import Derived.Deep.QuietTactic
import Derived.BigQuiet
namespace Go.Proofs.Ytncjfafailefoaa
open Go.RowKit Go
set_option linter.unusedVariables false

set_option maxRecDepth 100000 in
set_option maxHeartbeats 800000 in
theorem equalI_any (v u : Value) (xs ys : List Int) (B C : Nat) (w : World) (hv : Row w B v (xs.map (Value.int .i64))) (hu : Row w C u (ys.map (Value.int .i64))) (hx : xs.length ≤ maxLen) (_ : ys.length ≤ maxLen) (r : Bool) (hr : decide (xs = ys) = r) :
    Calls Try.prog 36 #[v, u] w fun e w' => e = .returned (.bool r) ∧ Below w.heap.size w w' := by
  unfold maxLen at hx
  obtain ⟨A, c, rfl, hA⟩ := hv
  obtain ⟨A', c', rfl, hA'⟩ := hu
  rw [List.length_map] at hA hA' ⊢
  rw [List.length_map]
  have HR := hidv hr
  have HA := hidv hA
  have HA' := hidv hA'
  clear hr hA hA'
  by_cases hl : xs.length = ys.length
  · obtain ⟨n, hn⟩ : ∃ n, xs.length = n := ⟨_, rfl⟩
    have HL := hidv hl
    rw [← hl, hn]
    rw [hn] at hx
    have HN := hidv hn
    have hlb : ((n : Int) != (n : Int)) = false := by simp
    clear hl hn
    go_enter Try.func36, Try.ntmps36
    go_wp2
    go_loopw [13] (fun i wr => ∃ k : Nat, k ≤ n ∧ i = .int .i64 k ∧ Hid (xs.take k = ys.take k) ∧ ∃ m, wr = w.drewN m) (fun i _ => n - (intOf i).toNat)
    case atStart => exact ⟨0, Nat.zero_le _, rfl, hidv (by simp), 0, rfl⟩
    case round =>
      obtain ⟨k, hk, rfl, heq, m, rfl⟩ := hrel
      by_cases hlt : k < n
      · have hkx : k < xs.length := by have := HN.out; omega
        have hky : k < ys.length := by have := HN.out; have := HL.out; omega
        obtain ⟨g, o, rfl, hg, hc⟩ := HA.out (by omega)
        obtain ⟨g', o', rfl, hg', hc'⟩ := HA'.out (by omega)
        have c1 := hc k _ (map_int_at hkx)
        have c2 := hc' k _ (map_int_at hky)
        have hts : xs[k] = ys[k] → xs.take (k + 1) = ys.take (k + 1) := fun h => by
          rw [List.take_succ_eq_append_getElem hkx, List.take_succ_eq_append_getElem hky, heq.out, h]
        have hne : xs[k] ≠ ys[k] → xs ≠ ys := fun h e => h (by subst e; rfl)
        obtain ⟨x, hx1⟩ : ∃ x, xs[k] = x := ⟨_, rfl⟩
        obtain ⟨y, hy1⟩ : ∃ x, ys[k] = x := ⟨_, rfl⟩
        rw [hx1] at c1
        rw [hy1] at c2
        rw [hx1, hy1] at hts hne
        have HT := hidv hts
        have HNE := hidv hne
        have i1 : (0 : Int) ≤ (k : Int) := by omega
        have i2 : (k : Int) < (n : Int) := by omega
        clear hx1 hy1 hts hne hc hc'
        by_cases hxx : x = y
        · subst hxx
          go_wp2
          go_quiet (fail)
          go_wp2
          go_roundw
          case rel => exact ⟨k + 1, by omega, by go_num, hidv (HT.out (by trivial)), _, rfl⟩
          case measure => simp [intOf]; omega
        · have hb : (x == y) = false := by simpa using hxx
          have hb2 : (x != y) = true := by simpa using hxx
          have HF : Hid (decide (xs = ys) = false) := hidv (by rw [decide_eq_false]; exact HNE.out hxx)
          clear hxx
          go_wp2
          go_quiet (fail)
          go_wp2
          go_ret
          exact ⟨ret_bool (by rw [← HR.out, HF.out]), below_drewN (below_drewN (Below.refl _ _) _) _⟩
      · go_wp2
        go_ret
        have he := heq.out
        rw [List.take_of_length_le (by have := HN.out; omega), List.take_of_length_le (by have := HN.out; have := HL.out; omega)] at he
        exact ⟨ret_bool (by rw [← HR.out, decide_eq_true he]), below_drewN (Below.refl _ _) _⟩
  · have hlb : ((xs.length : Int) != (ys.length : Int)) = true := by rw [bne_iff_ne]; omega
    obtain rfl : r = false := by
      rw [← HR.out, decide_eq_false]
      intro h
      exact hl (by rw [h])
    clear hl
    go_enter Try.func36, Try.ntmps36
    go_wp2
    go_ret
    exact ⟨rfl, Below.refl _ _⟩

set_option maxRecDepth 100000 in
set_option maxHeartbeats 800000 in
theorem equalF_any (v u : Value) (rs ss : List (List Int)) (w : World) (hv : IRows w w.heap.size v rs) (hu : IRows w w.heap.size u ss) (hx : rs.length ≤ maxLen) (hy : ss.length ≤ maxLen) (hs : ∀ r ∈ rs, r.length ≤ maxLen) (ht : ∀ r ∈ ss, r.length ≤ maxLen) (r : Bool) (hr : decide (rs = ss) = r) :
    Calls Try.prog 35 #[v, u, .func (.func 36) #[] #[]] w fun e w' => e = .returned (.bool r) ∧ Below w.heap.size w w' := by
  obtain ⟨A, c, rfl, hA⟩ := hv.at
  obtain ⟨A', c', rfl, hA'⟩ := hu.at
  unfold maxLen at hx hy
  obtain ⟨n, hn⟩ : ∃ n, rs.length = n := ⟨_, rfl⟩
  obtain ⟨m, hm⟩ : ∃ m, ss.length = m := ⟨_, rfl⟩
  have HR := hidv hr
  have HA := hidv hA
  have HA' := hidv hA'
  have HS := hidv hs
  have HT := hidv ht
  rw [hn] at hx ⊢
  rw [hm] at hy ⊢
  have HN := hidv hn
  have HM := hidv hm
  clear hr hn hm hA hA' hs ht hv hu
  by_cases hnm : n = m
  · subst hnm
    have hlb : ((n : Int) != (n : Int)) = false := by simp
    go_enter Try.func35, Try.ntmps35
    go_wp2
    go_loopw [17] (fun i wr => ∃ k : Nat, k ≤ n ∧ i = .int .i64 k ∧ Hid (rs.take k = ss.take k) ∧ Hid (Below w.heap.size w wr)) (fun i _ => n - (intOf i).toNat)
    case atStart => exact ⟨0, Nat.zero_le _, rfl, hidv (by simp), hidv (Below.refl _ _)⟩
    case round =>
      obtain ⟨k, hk, rfl, heq, hb⟩ := hrel
      by_cases hlt : k < n
      · have hkx : k < rs.length := by have := HN.out; omega
        have hky : k < ss.length := by have := HM.out; omega
        obtain ⟨g, o, rfl, hg, hce⟩ := HA.out (by omega)
        obtain ⟨g', o', rfl, hg', hce'⟩ := HA'.out (by omega)
        obtain ⟨a, cp, c1, r1⟩ := hce k hkx
        obtain ⟨a', cp', c2, r2⟩ := hce' k hky
        obtain ⟨l, hl⟩ : ∃ l, rs[k].length = l := ⟨_, rfl⟩
        obtain ⟨l', hl'⟩ : ∃ l, ss[k].length = l := ⟨_, rfl⟩
        rw [hl] at c1 r1
        rw [hl'] at c2 r2
        obtain ⟨b, hbq⟩ : ∃ b, decide (rs[k] = ss[k]) = b := ⟨_, rfl⟩
        have hS : ∀ w', Below w.heap.size w w' → w'.cell? ⟨g, o + k, none⟩ = some (.slice a l cp) ∧ w'.cell? ⟨g', o' + k, none⟩ = some (.slice a' l' cp') ∧ Below w.heap.size w w' := fun w' hw =>
          ⟨(hw.cell (p := ⟨g, _, none⟩) hg).trans c1, (hw.cell (p := ⟨g', _, none⟩) hg').trans c2, hw⟩
        have HQ := hidv hS
        have hcall : ∀ W, Below w.heap.size w W → _ := fun W (hW : Below w.heap.size w W) => equalI_any _ _ rs[k] ss[k] w.heap.size w.heap.size W (r1.below hW) (r2.below hW) (HS.out _ (List.getElem_mem _)) (HT.out _ (List.getElem_mem _)) b hbq
        have HC := hidv hcall
        have HB := hidv hbq
        have hb' := hb.out
        have i1 : (0 : Int) ≤ (k : Int) := by omega
        have i2 : (k : Int) < (n : Int) := by omega
        clear hce hce' c1 c2 r1 r2 hl hl' hS hcall hbq
        have d1 := (HQ.out _ hb').1
        have d2 := (HQ.out _ hb').2.1
        go_wp2_with fail
        refine (HC.out _ hb').mono ?_
        rintro e w2 ⟨rfl, hbw⟩
        have hbe : Below w.heap.size w w2 := below_two hb' hbw
        cases b
        · have hne : rs[k] ≠ ss[k] := by have := HB.out; simpa using this
          obtain rfl : r = false := by
            rw [← HR.out]; simp only [decide_eq_false_iff_not]
            rintro rfl
            exact hne rfl
          clear hne
          go_wp2
          go_ret
          exact ⟨rfl, hbe⟩
        · have heq2 : rs[k] = ss[k] := by have := HB.out; simpa using this
          have htk : rs.take (k + 1) = ss.take (k + 1) := by
            rw [List.take_succ_eq_append_getElem hkx, List.take_succ_eq_append_getElem hky, heq.out, heq2]
          have HTK := hidv htk
          clear heq2 htk
          go_wp2
          go_roundw
          case rel => exact ⟨k + 1, by omega, by go_num, HTK, hidv hbe⟩
          case measure => simp [intOf]; omega
      · have hk2 : k = n := by omega
        have hr2 : r = true := by
          have h1 := heq.out
          rw [List.take_of_length_le (by have := HN.out; omega), List.take_of_length_le (by have := HM.out; omega)] at h1
          rw [← HR.out]; simp [h1]
        subst hr2
        go_wp2
        go_ret
        exact ⟨rfl, hb.out⟩
  · obtain rfl : r = false := by
      rw [← HR.out]; simp only [decide_eq_false_iff_not]
      rintro rfl
      exact hnm (HN.out.symm.trans HM.out)
    have hne : ((n : Int) != (m : Int)) = true := by simp; omega
    go_enter Try.func35, Try.ntmps35
    go_wp2
    go_ret
    exact ⟨rfl, Below.refl _ _⟩

end Go.Proofs.Ytncjfafailefoaa
