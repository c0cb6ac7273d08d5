/-
  Two slices of slices of numbers compared by the laws' own function: a contract.
-/
import Derived.Test.YtpjidcfdcpjafaaI2
namespace Go.Proofs.Ytpjidcfdcpjafaa
open Go.RowKit Go
set_option linter.unusedVariables false

theorem below_two {w wa wb : World} (h : Below w.heap.size w wa) (k : Below wa.heap.size wa wb) : Below w.heap.size w wb := h.trans (k.mono h.size)

set_option maxHeartbeats 400000 in
theorem eqIS_any (v u : Value) (rs ss : List (List Int)) (w : World) (hv : IRows w w.heap.size v rs) (hu : IRows w w.heap.size u ss) (hx : rs.length ≤ maxLen) (hy : ss.length ≤ maxLen) (hs : ∀ r ∈ rs, r.length ≤ maxLen) (ht : ∀ r ∈ ss, r.length ≤ maxLen) :
    Calls Try.prog 40 #[v, u] w fun e w' => e = .returned (.bool (decide (rs = ss))) ∧ Below w.heap.size w w' := by
  obtain ⟨A, c, rfl, hA⟩ := hv.at
  obtain ⟨A', c', rfl, hA'⟩ := hu.at
  unfold maxLen at hx hy
  obtain ⟨r, hr⟩ : ∃ r, decide (rs = ss) = r := ⟨_, rfl⟩
  rw [hr]
  obtain ⟨n, hn⟩ : ∃ n, rs.length = n := ⟨_, rfl⟩
  obtain ⟨m, hm⟩ : ∃ m, ss.length = m := ⟨_, rfl⟩
  have HR := hidv hr
  have HA := hidv hA
  have HA' := hidv hA'
  have HS := hidv hs
  have HT := hidv ht
  rw [hn] at hx ⊢
  rw [hm] at hy ⊢
  have HN := hidv hn
  have HM := hidv hm
  clear hr hn hm hA hA' hs ht hv hu
  by_cases hnm : n = m
  · subst hnm
    go_enter Try.func40, Try.ntmps40
    go_wp2
    go_loopw [5] (fun i wr => ∃ k : Nat, k ≤ n ∧ i = .int .i64 k ∧ Hid (rs.take k = ss.take k) ∧ Hid (Below w.heap.size w wr)) (fun i _ => n - (intOf i).toNat)
    case atStart => exact ⟨0, Nat.zero_le _, rfl, hidv (by simp), hidv (Below.refl _ _)⟩
    case round =>
      obtain ⟨k, hk, rfl, heq, hb⟩ := hrel
      by_cases hlt : k < n
      · have hkx : k < rs.length := by have := HN.out; omega
        have hky : k < ss.length := by have := HM.out; omega
        obtain ⟨g, o, rfl, hg, hce⟩ := HA.out (by omega)
        obtain ⟨g', o', rfl, hg', hce'⟩ := HA'.out (by omega)
        obtain ⟨a, cp, c1, r1⟩ := hce k hkx
        obtain ⟨a', cp', c2, r2⟩ := hce' k hky
        obtain ⟨l, hl⟩ : ∃ l, rs[k].length = l := ⟨_, rfl⟩
        obtain ⟨l', hl'⟩ : ∃ l, ss[k].length = l := ⟨_, rfl⟩
        rw [hl] at c1 r1
        rw [hl'] at c2 r2
        obtain ⟨b, hbq⟩ : ∃ b, decide (rs[k] = ss[k]) = b := ⟨_, rfl⟩
        have hS : ∀ w', Below w.heap.size w w' → w'.cell? ⟨g, o + k, none⟩ = some (.slice a l cp) ∧ w'.cell? ⟨g', o' + k, none⟩ = some (.slice a' l' cp') ∧ Below w.heap.size w w' := fun w' hw =>
          ⟨(hw.cell (p := ⟨g, _, none⟩) hg).trans c1, (hw.cell (p := ⟨g', _, none⟩) hg').trans c2, hw⟩
        have HQ := hidv hS
        have hcall : ∀ W, Below w.heap.size w W → _ := fun W (hW : Below w.heap.size w W) => eqInts_any _ _ rs[k] ss[k] w.heap.size w.heap.size W (r1.below hW) (r2.below hW) (HS.out _ (List.getElem_mem _)) (HT.out _ (List.getElem_mem _))
        rw [hbq] at hcall
        have HC := hidv hcall
        have HB := hidv hbq
        have hb' := hb.out
        have i1 : (0 : Int) ≤ (k : Int) := by omega
        have i2 : (k : Int) < (n : Int) := by omega
        clear hce hce' c1 c2 r1 r2 hl hl' hS hcall hbq
        go_wp2_with fail
        go_region_held3 (fun w' => w'.cell? ⟨g, o + k, none⟩ = some (.slice a l cp) ∧ w'.cell? ⟨g', o' + k, none⟩ = some (.slice a' l' cp') ∧ Below w.heap.size w w') (first | exact HQ.out _ (Below.drew hb') | exact HQ.out _ (below_two (Below.drew hb') hbw)) (first | (go_at_call 80; refine (HC.out _ (Below.drew hb')).mono ?_; rintro e w2 ⟨rfl, hbw⟩))
        have hbe : Below w.heap.size w w2 := below_two (Below.drew hb') hbw
        cases b
        · have hne : rs[k] ≠ ss[k] := by have := HB.out; simpa using this
          obtain rfl : r = false := by
            rw [← HR.out]; simp only [decide_eq_false_iff_not]
            rintro rfl
            exact hne rfl
          clear hne
          go_wp2
          go_ret
          exact ⟨rfl, hbe⟩
        · have heq2 : rs[k] = ss[k] := by have := HB.out; simpa using this
          have htk : rs.take (k + 1) = ss.take (k + 1) := by
            rw [List.take_succ_eq_append_getElem hkx, List.take_succ_eq_append_getElem hky, heq.out, heq2]
          have HTK := hidv htk
          clear heq2 htk
          go_wp2
          go_roundw
          case rel => exact ⟨k + 1, by omega, by go_num, HTK, hidv hbe⟩
          case measure => simp [intOf]; omega
      · have hk2 : k = n := by omega
        have hr2 : r = true := by
          have h1 := heq.out
          rw [List.take_of_length_le (by have := HN.out; omega), List.take_of_length_le (by have := HM.out; omega)] at h1
          rw [← HR.out]; simp [h1]
        subst hr2
        go_wp2
        go_ret
        exact ⟨rfl, hb.out⟩
  · have hr2 : r = false := by
      rw [← HR.out]; simp only [decide_eq_false_iff_not]
      rintro rfl
      exact hnm (HN.out.symm.trans HM.out)
    subst hr2
    have hne : ((n : Int) != (m : Int)) = true := by simp; omega
    go_enter Try.func40, Try.ntmps40
    go_wp2
    go_ret
    exact ⟨rfl, Below.refl _ _⟩

end Go.Proofs.Ytpjidcfdcpjafaa
