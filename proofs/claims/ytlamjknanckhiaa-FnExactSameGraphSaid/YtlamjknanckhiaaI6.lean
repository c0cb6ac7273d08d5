/-
  SameGraph of the model: a contract.
-/
import Derived.Test.YtlamjknanckhiaaI5
import Derived.Test.YtlamjknanckhiaaSameS
namespace Go.Proofs.Ytlamjknanckhiaa
open Go.RowKit Go
set_option linter.unusedVariables false

set_option maxRecDepth 100000 in
set_option maxHeartbeats 800000 in
theorem specSameG_any (v u va ua : Value) (es fs : List Eqn) (rs ss : List (List Int)) (w : World) (hv : ERow w w.heap.size va es) (hu : ERow w w.heap.size ua fs) (hv2 : IRows w w.heap.size v rs) (hu2 : IRows w w.heap.size u ss)
    (he : es.length ≤ 1048576) (hf : fs.length ≤ 1048576) (hx : rs.length ≤ 1048576) (hy : ss.length ≤ 1048576) (hs : ∀ r ∈ rs, r.length ≤ maxLen) (ht : ∀ r ∈ ss, r.length ≤ maxLen) :
    Calls Try.prog 5 #[.agg #[va, v], .agg #[ua, u]] w fun e w' => e = .returned (.bool (decide (es = fs) && decide (rs = ss))) ∧ Below w.heap.size w w' := by
  obtain ⟨A, c, rfl, hA⟩ := hv2.at
  obtain ⟨A', c', rfl, hA'⟩ := hu2.at
  obtain ⟨Ae, ce, rfl, hAe⟩ := id hv
  obtain ⟨Af, cf, rfl, hAf⟩ := id hu
  obtain ⟨r, hr⟩ : ∃ r, (decide (es = fs) && decide (rs = ss)) = r := ⟨_, rfl⟩
  rw [hr]
  obtain ⟨n, hn⟩ : ∃ n, rs.length = n := ⟨_, rfl⟩
  obtain ⟨m, hm⟩ : ∃ m, ss.length = m := ⟨_, rfl⟩
  obtain ⟨ne, hne⟩ : ∃ m, es.length = m := ⟨_, rfl⟩
  obtain ⟨nf, hnf⟩ : ∃ m, fs.length = m := ⟨_, rfl⟩
  rw [hn] at hx ⊢
  rw [hm] at hy ⊢
  have hbx : Below w.heap.size w ((w.alloc (.cells #[.slice Ae es.length ce, .slice A n c] 30)).alloc (.cells #[.slice Af fs.length cf, .slice A' m c'] 30)) := ((Below.refl _ _).alloc (Nat.le_refl _) _).alloc (by simp) _
  have hx0 := ((Bx.new w 30 #[.slice Ae es.length ce, .slice A n c]).alloc (.cells #[.slice Af fs.length cf, .slice A' m c'] 30))
  have hy0 := (Bx.new (w.alloc (.cells #[.slice Ae es.length ce, .slice A n c] 30)) 30 #[.slice Af fs.length cf, .slice A' m c'])
  rw [World.size_alloc] at hy0
  have hsame := fun W (hW : Below w.heap.size w W) => specSame_any _ _ es fs w.heap.size w.heap.size W (hv.below hW) (hu.below hW) he hf
  rw [hne] at hbx hx0 hy0 hsame ⊢
  rw [hnf] at hbx hx0 hy0 hsame ⊢
  have HR := hidv hr
  have HA := hidv hA
  have HA' := hidv hA'
  have HS := hidv hs
  have HT := hidv ht
  have HN := hidv hn
  have HM := hidv hm
  have HSA := hidv hsame
  clear hr hn hm hA hA' hs ht hv hu hv2 hu2 hsame hAe hAf hne hnf he hf
  go_enter Try.func5, Try.ntmps5
  go_wp2_with fail
  obtain ⟨W, hW⟩ : ∃ W, ((w.alloc (.cells #[.slice Ae ne ce, .slice A n c] 30)).alloc (.cells #[.slice Af nf cf, .slice A' m c'] 30)) = W := ⟨_, rfl⟩
  rw [hW] at hbx hx0 hy0 ⊢
  have hWs : W.heap.size = w.heap.size + 2 := by rw [← hW]; simp
  clear hW
  obtain ⟨b, hbq⟩ : ∃ b, decide (es = fs) = b := ⟨_, rfl⟩
  have hcall := HSA.out W hbx
  rw [hbq] at hcall
  refine hcall.mono ?_
  rintro e w2 ⟨rfl, hb2⟩
  clear hcall
  have HR2 : Hid ((b && decide (rs = ss)) = r) := hidv (by rw [← hbq]; exact HR.out)
  have hbw : Below w.heap.size w w2 := hbx.trans (hb2.mono (by omega))
  have hx2 := (hx0.below hb2).two
  have hy2 := (hy0.below hb2).two
  obtain ⟨hx1, hx2⟩ := hx2
  obtain ⟨hy1, hy2⟩ := hy2
  cases b
  · obtain rfl : r = false := by have := HR2.out; simpa using this.symm
    go_wp2
    go_ret
    exact ⟨rfl, hbw⟩
  · have HR3 : Hid (decide (rs = ss) = r) := hidv (by simpa using HR2.out)
    by_cases hnm : n = m
    · subst hnm
      go_wp2_with fail
      go_loopw [5] (fun i wr => ∃ k : Nat, k ≤ n ∧ i = .int .i64 k ∧ Hid (rs.take k = ss.take k) ∧ Hid (Below w2.heap.size w2 wr)) (fun i _ => n - (intOf i).toNat)
      case atStart => exact ⟨0, Nat.zero_le _, rfl, hidv (by simp), hidv (Below.refl _ _)⟩
      case round =>
        obtain ⟨k, hk, rfl, heq, hb⟩ := hrel
        have hsz := hbw.size
        have hsz2 := hb2.size
        have e1 := (hb.out.cell (p := ⟨w.heap.size, 1, none⟩) (by show w.heap.size < _; omega)).trans hx2
        have e2 := (hb.out.cell (p := ⟨w.heap.size + 1, 1, none⟩) (by show w.heap.size + 1 < _; omega)).trans hy2
        by_cases hlt : k < n
        · have hkx : k < rs.length := by have := HN.out; omega
          have hky : k < ss.length := by have := HM.out; omega
          obtain ⟨g, o, rfl, hg, hce⟩ := HA.out (by omega)
          obtain ⟨g', o', rfl, hg', hce'⟩ := HA'.out (by omega)
          obtain ⟨a, cp, c1, r1⟩ := hce k hkx
          obtain ⟨a', cp', c2, r2⟩ := hce' k hky
          obtain ⟨l, hl⟩ : ∃ l, rs[k].length = l := ⟨_, rfl⟩
          obtain ⟨l', hl'⟩ : ∃ l, ss[k].length = l := ⟨_, rfl⟩
          rw [hl] at c1 r1
          rw [hl'] at c2 r2
          obtain ⟨b, hbq⟩ : ∃ b, decide (rs[k] = ss[k]) = b := ⟨_, rfl⟩
          have hS : ∀ w', Below w2.heap.size w2 w' → w'.cell? ⟨w.heap.size, 1, none⟩ = some (.slice (some ⟨g, o, none⟩) n c) ∧ w'.cell? ⟨w.heap.size + 1, 1, none⟩ = some (.slice (some ⟨g', o', none⟩) n c') ∧ w'.cell? ⟨g, o + k, none⟩ = some (.slice a l cp) ∧ w'.cell? ⟨g', o' + k, none⟩ = some (.slice a' l' cp') ∧ Below w2.heap.size w2 w' := fun w' hw =>
            ⟨(hw.cell (p := ⟨w.heap.size, 1, none⟩) (by show w.heap.size < _; omega)).trans hx2, (hw.cell (p := ⟨w.heap.size + 1, 1, none⟩) (by show w.heap.size + 1 < _; omega)).trans hy2, ((hbw.trans (hw.mono hsz)).cell (p := ⟨g, _, none⟩) hg).trans c1, ((hbw.trans (hw.mono hsz)).cell (p := ⟨g', _, none⟩) hg').trans c2, hw⟩
          have HQ := hidv hS
          have hcall : ∀ W, Below w2.heap.size w2 W → _ := fun W (hW : Below w2.heap.size w2 W) => sameI_any _ _ rs[k] ss[k] w.heap.size w.heap.size W (r1.below (hbw.trans (hW.mono hsz))) (r2.below (hbw.trans (hW.mono hsz))) (HS.out _ (List.getElem_mem _)) (HT.out _ (List.getElem_mem _))
          rw [hbq] at hcall
          have HC := hidv hcall
          have HB := hidv hbq
          have hb' := hb.out
          have i1 : (0 : Int) ≤ (k : Int) := by omega
          have i2 : (k : Int) < (n : Int) := by omega
          clear hce hce' c1 c2 r1 r2 hl hl' hS hcall hbq
          go_wp2_with fail
          go_region_held3 (fun w' => w'.cell? ⟨w.heap.size, 1, none⟩ = some (.slice (some ⟨g, o, none⟩) n c) ∧ w'.cell? ⟨w.heap.size + 1, 1, none⟩ = some (.slice (some ⟨g', o', none⟩) n c') ∧ w'.cell? ⟨g, o + k, none⟩ = some (.slice a l cp) ∧ w'.cell? ⟨g', o' + k, none⟩ = some (.slice a' l' cp') ∧ Below w2.heap.size w2 w') (first | exact HQ.out _ (Below.drew hb') | exact HQ.out _ (below_two (Below.drew hb') hbwx)) (first | (go_at_call 12; refine (HC.out _ (Below.drew hb')).mono ?_; rintro e w4 ⟨rfl, hbwx⟩))
          have hbe : Below w2.heap.size w2 w4 := below_two (Below.drew hb') hbwx
          cases b
          · have hne : rs[k] ≠ ss[k] := by have := HB.out; simpa using this
            obtain rfl : r = false := by
              rw [← HR3.out]; simp only [decide_eq_false_iff_not]
              rintro rfl
              exact hne rfl
            clear hne
            have hbz := hbw.trans (hbe.mono hsz)
            go_wp2
            go_ret
            exact ⟨rfl, hbz⟩
          · have heq2 : rs[k] = ss[k] := by have := HB.out; simpa using this
            have htk : rs.take (k + 1) = ss.take (k + 1) := by
              rw [List.take_succ_eq_append_getElem hkx, List.take_succ_eq_append_getElem hky, heq.out, heq2]
            have HTK := hidv htk
            clear heq2 htk
            go_wp2
            go_roundw
            case rel => exact ⟨k + 1, by omega, by go_num, HTK, hidv hbe⟩
            case measure => simp [intOf]; omega
        · have hk2 : k = n := by omega
          have hr2 : r = true := by
            have h1 := heq.out
            rw [List.take_of_length_le (by have := HN.out; omega), List.take_of_length_le (by have := HM.out; omega)] at h1
            rw [← HR3.out]; simp [h1]
          subst hr2
          have hbz := hbw.trans (hb.out.mono hsz)
          go_wp2
          go_ret
          exact ⟨rfl, hbz⟩
    · obtain rfl : r = false := by
        rw [← HR3.out]; simp only [decide_eq_false_iff_not]
        rintro rfl
        exact hnm (HN.out.symm.trans HM.out)
      have hnb : ((n : Int) != (m : Int)) = true := by simp; omega
      go_wp2
      go_ret
      exact ⟨rfl, hbw⟩

end Go.Proofs.Ytlamjknanckhiaa
