/-
  Whether factors prove that a system has no solution, in the model: contracts.
-/
import Derived.Test.YtgfdcpmjaamhdaaNp
import Derived.Test.YtgfdcpmjaamhdaaI2
import Derived.Test.YtgfdcpmjaamhdaaDiff
import Derived.BigQuiet
import Derived.Deep.QuietTactic
namespace Go.Proofs.Ytgfdcpmjaamhdaa
open Go.RowKit Go
set_option linter.unusedVariables false

theorem ints_at {xs : List Int} {j : Nat} {x : Int} (h : xs[j]? = some x) : (ints xs)[j]? = some (.int .i64 x) := by
  unfold ints
  rw [List.getElem?_map, h]
  rfl

set_option maxRecDepth 100000 in
set_option maxHeartbeats 3200000 in
theorem l02Proof_any (v u : Value) (S : List (List Int)) (F : List Int) (n B C : Nat) (w : World) (hv : IRows w B v S) (hB : B ≤ w.heap.size) (hu : Row w C u (ints F)) (hC : C ≤ w.heap.size) (hok : NpOk S F n) (d : Bool) (hd : d = true ↔ NpP S F n) :
    Calls Try.prog 14 #[v, u] w fun e w' => e = .returned (.bool d) ∧ Below w.heap.size w w' := by
  obtain ⟨A, cA, rfl, hA⟩ := (hv.more hB).at
  obtain ⟨Au, cu, rfl, hAu⟩ := hu
  obtain ⟨L, hL⟩ : ∃ L, (ints F).length = L := ⟨_, rfl⟩
  have hL5 : L = 5 * n := by rw [← hL]; simp [ints]; exact hok.2.2.1
  have h4 := hok.1
  rw [hL] at hAu ⊢
  rw [hok.2.1]
  have HSL := hidv hok.2.1
  have HA := hidv hA
  have HU := hidv hAu
  have HOK := hidv hok
  have HD := hidv hd
  have HL5 := hidv hL5
  clear hA hAu hok hd hL hL5 hv
  go_enter Try.func14, Try.ntmps14
  go_wp2
  go_loopw [5, 6] (fun q i wr => ∃ c : Nat, c ≤ 4 ∧ i = .int .i64 (c : Int) ∧ q = .int .i64 (ltrN S F n c) ∧ Hid (∀ c' < c, ∀ x < 4, 0 ≤ totN S F c' (4 + x) n) ∧ Hid (Below w.heap.size w wr)) (fun _ i _ => 4 - (intOf i).toNat)
  case atStart => exact ⟨0, by omega, rfl, rfl, hidv (fun c' h => by omega), hidv (Below.refl _ _)⟩
  case round =>
    obtain ⟨c, hc4, rfl, rfl, hall, hbe⟩ := hrel
    obtain ⟨l0, l1⟩ := ltr_bound HOK.out c hc4
    by_cases hc : c < 4
    · have HLN := hidv (show ltrN S F n (c + 1) = ltrN S F n c + totN S F c c n from rfl)
      obtain ⟨lt, hlt⟩ : ∃ q, ltrN S F n c = q := ⟨_, rfl⟩
      rw [hlt] at l0 l1 HLN ⊢
      clear hlt
      go_wp2_with fail
      go_loopw [7] (fun i wr => ∃ x : Nat, x ≤ 4 ∧ i = .int .i64 (x : Int) ∧ Hid (∀ x' < x, 0 ≤ totN S F c (4 + x') n) ∧ Hid (Below w.heap.size w wr)) (fun i _ => 4 - (intOf i).toNat)
      case atStart => exact ⟨0, by omega, rfl, hidv (fun x' h => by omega), hbe⟩
      case round =>
        obtain ⟨x, hx4, rfl, hxs, hbx⟩ := hrel
        by_cases hx : x < 4
        · go_wp2_with fail
          go_loopw [8, 9] (fun q i wr => ∃ m : Nat, m ≤ n ∧ i = .int .i64 (m : Int) ∧ q = .int .i64 (totN S F c (4 + x) m) ∧ Hid (Below w.heap.size w wr)) (fun _ i _ => n - (intOf i).toNat)
          case atStart => exact ⟨0, by omega, rfl, rfl, hbx⟩
          case round =>
            obtain ⟨m, hmn, rfl, rfl, hbm⟩ := hrel
            obtain ⟨t0, t1⟩ := tot_bound HOK.out hc (k := 4 + x) (by omega) m hmn
            by_cases hm : m < n
            · obtain ⟨f0, hf0, hg0, _, _⟩ := HOK.out.fac (j := 5 * m) (by omega)
              obtain ⟨f1, hf1, hg1, _, _⟩ := HOK.out.fac (j := 5 * m + 1 + c) (by omega)
              obtain ⟨hr, s, hs8, hse, hsg, s0, s1⟩ := HOK.out.row hm (k := 4 + x) (by omega)
              have hw := wgt_bound HOK.out hm hc
              have hwe : wgt F m c = f0 + f1 := by unfold wgt; rw [hg0, hg1]
              rw [hwe] at hw
              obtain ⟨p0, p1⟩ := mul_bound hw.1 hw.2 s0 s1
              have hst : totN S F c (4 + x) (m + 1) = totN S F c (4 + x) m + (f0 + f1) * s := by
                show totN S F c (4 + x) m + wgt F m c * (S.getD m []).getD (4 + x) 0 = _
                rw [hwe, hsg]
              obtain ⟨gu, ou, rfl, hgu, hcu⟩ := HU.out (by have := HL5.out; omega)
              obtain ⟨g, o, rfl, hg, hce⟩ := HA.out (by have := HSL.out; omega)
              obtain ⟨a, cp, r0, hrow⟩ := hce m hr
              rw [hs8] at r0 hrow
              obtain ⟨a', c', hae, hac⟩ := hrow
              injection hae with ha1 _ ha2
              subst ha1 ha2
              obtain ⟨ga, oa, rfl, hga, hca⟩ := hac (by simp [ints, hs8])
              have k0 : wr.cell? ⟨gu, ou + 5 * m, none⟩ = some (.int .i64 f0) := (hbm.out.cell (p := ⟨gu, _, none⟩) (by show gu < _; omega)).trans (hcu _ _ (ints_at hf0))
              have k1 : wr.cell? ⟨gu, ou + (5 * m + 1 + c), none⟩ = some (.int .i64 f1) := (hbm.out.cell (p := ⟨gu, _, none⟩) (by show gu < _; omega)).trans (hcu _ _ (ints_at hf1))
              have k2 : wr.cell? ⟨g, o + m, none⟩ = some (.slice (some ⟨ga, oa, none⟩) 8 cp) := (hbm.out.cell (p := ⟨g, _, none⟩) (by show g < _; omega)).trans r0
              have k3 : wr.cell? ⟨ga, oa + (4 + x), none⟩ = some (.int .i64 s) := (hbm.out.cell (p := ⟨ga, _, none⟩) (by show ga < _; omega)).trans (hca _ _ (ints_at hse))
              have i1 : (0 : Int) ≤ (m : Int) := by omega
              have i2 : (m : Int) < (n : Int) := by omega
              have i3 : (0 : Int) ≤ 5 * (m : Int) := by omega
              have i4 : 5 * (m : Int) < (L : Int) := by have := HL5.out; omega
              have i5 : (0 : Int) ≤ 5 * (m : Int) + 1 + (c : Int) := by omega
              have i6 : 5 * (m : Int) + 1 + (c : Int) < (L : Int) := by have := HL5.out; omega
              have i7 : (0 : Int) ≤ 4 + (x : Int) := by omega
              have i8 : 4 + (x : Int) < 8 := by omega
              have n1 : (5 * (m : Int)).toNat = 5 * m := by omega
              have n2 : (5 * (m : Int) + 1 + (c : Int)).toNat = 5 * m + 1 + c := by omega
              have n3 : (4 + (x : Int)).toNat = 4 + x := by omega
              obtain ⟨P, hP⟩ : ∃ P, (f0 + f1) * s = P := ⟨_, rfl⟩
              have ew : IntKind.i64.wrap ((f0 + f1) * s) = P := by rw [hP]; rw [hP] at p0 p1; exact IntWalk.i64_in _ (by omega)
              rw [hP] at p0 p1 hst
              obtain ⟨t, ht⟩ : ∃ t, totN S F c (4 + x) m = t := ⟨_, rfl⟩
              rw [ht] at t0 t1 hst ⊢
              have HST := hidv hst
              obtain ⟨w1, w2⟩ := hw
              clear hst ht hP hce r0 hac hcu hca hf0 hf1 hg0 hg1 hwe hsg hse hs8
              go_wp2_with fail
              go_quiet (fail)
              go_wp2_with fail
              go_roundw
              case rel => exact ⟨m + 1, by omega, by go_num, by rw [HST.out], hidv (below_drewN hbm.out _)⟩
              case measure => simp [intOf]; omega
            · obtain rfl : n = m := by omega
              by_cases hneg : totN S F c (4 + x) n < 0
              · obtain rfl : d = false := iffNo HD.out (fun h => by have := h.1 c hc x hx; omega)
                obtain ⟨t, ht⟩ : ∃ t, totN S F c (4 + x) n = t := ⟨_, rfl⟩
                rw [ht] at t0 t1 hneg ⊢
                clear ht
                go_wp2_with fail
                go_ret
                exact ⟨rfl, hbm.out⟩
              · have hxs2 : ∀ x' < x + 1, 0 ≤ totN S F c (4 + x') n := fun x' h => by
                  rcases Nat.lt_or_ge x' x with h2 | h2
                  · exact hxs.out x' h2
                  · obtain rfl : x' = x := by omega
                    omega
                have HXS := hidv hxs2
                clear hxs2
                obtain ⟨t, ht⟩ : ∃ t, totN S F c (4 + x) n = t := ⟨_, rfl⟩
                rw [ht] at t0 t1 hneg ⊢
                clear ht
                go_wp2_with fail
                go_roundw
                case rel => exact ⟨x + 1, by omega, by go_num, HXS, hbm⟩
                case measure => simp [intOf]; omega
        · obtain rfl : x = 4 := by omega
          have hall2 : ∀ c' < c + 1, ∀ x < 4, 0 ≤ totN S F c' (4 + x) n := fun c' h x hx => by
            rcases Nat.lt_or_ge c' c with h2 | h2
            · exact hall.out c' h2 x hx
            · obtain rfl : c' = c := by omega
              exact hxs.out x hx
          have HAL := hidv hall2
          clear hall2
          go_wp2_with fail
          go_loopw [5, 10] (fun q i wr => ∃ m : Nat, m ≤ n ∧ i = .int .i64 (m : Int) ∧ q = .int .i64 (lt + totN S F c c m) ∧ Hid (Below w.heap.size w wr)) (fun _ i _ => n - (intOf i).toNat)
          case atStart => exact ⟨0, by omega, rfl, by simp [totN], hbx⟩
          case round =>
            obtain ⟨m, hmn, rfl, rfl, hbm⟩ := hrel
            obtain ⟨t0, t1⟩ := tot_bound HOK.out hc (k := c) (by omega) m hmn
            by_cases hm : m < n
            · obtain ⟨f0, hf0, hg0, _, _⟩ := HOK.out.fac (j := 5 * m) (by omega)
              obtain ⟨f1, hf1, hg1, _, _⟩ := HOK.out.fac (j := 5 * m + 1 + c) (by omega)
              obtain ⟨hr, s, hs8, hse, hsg, s0, s1⟩ := HOK.out.row hm (k := c) (by omega)
              have hw := wgt_bound HOK.out hm hc
              have hwe : wgt F m c = f0 + f1 := by unfold wgt; rw [hg0, hg1]
              rw [hwe] at hw
              obtain ⟨p0, p1⟩ := mul_bound hw.1 hw.2 s0 s1
              have hst : totN S F c c (m + 1) = totN S F c c m + (f0 + f1) * s := by
                show totN S F c c m + wgt F m c * (S.getD m []).getD c 0 = _
                rw [hwe, hsg]
              obtain ⟨gu, ou, rfl, hgu, hcu⟩ := HU.out (by have := HL5.out; omega)
              obtain ⟨g, o, rfl, hg, hce⟩ := HA.out (by have := HSL.out; omega)
              obtain ⟨a, cp, r0, hrow⟩ := hce m hr
              rw [hs8] at r0 hrow
              obtain ⟨a', c', hae, hac⟩ := hrow
              injection hae with ha1 _ ha2
              subst ha1 ha2
              obtain ⟨ga, oa, rfl, hga, hca⟩ := hac (by simp [ints, hs8])
              have k0 : wr.cell? ⟨gu, ou + 5 * m, none⟩ = some (.int .i64 f0) := (hbm.out.cell (p := ⟨gu, _, none⟩) (by show gu < _; omega)).trans (hcu _ _ (ints_at hf0))
              have k1 : wr.cell? ⟨gu, ou + (5 * m + 1 + c), none⟩ = some (.int .i64 f1) := (hbm.out.cell (p := ⟨gu, _, none⟩) (by show gu < _; omega)).trans (hcu _ _ (ints_at hf1))
              have k2 : wr.cell? ⟨g, o + m, none⟩ = some (.slice (some ⟨ga, oa, none⟩) 8 cp) := (hbm.out.cell (p := ⟨g, _, none⟩) (by show g < _; omega)).trans r0
              have k3 : wr.cell? ⟨ga, oa + c, none⟩ = some (.int .i64 s) := (hbm.out.cell (p := ⟨ga, _, none⟩) (by show ga < _; omega)).trans (hca _ _ (ints_at hse))
              have i1 : (0 : Int) ≤ (m : Int) := by omega
              have i2 : (m : Int) < (n : Int) := by omega
              have i3 : (0 : Int) ≤ 5 * (m : Int) := by omega
              have i4 : 5 * (m : Int) < (L : Int) := by have := HL5.out; omega
              have i5 : (0 : Int) ≤ 5 * (m : Int) + 1 + (c : Int) := by omega
              have i6 : 5 * (m : Int) + 1 + (c : Int) < (L : Int) := by have := HL5.out; omega
              have i7 : (0 : Int) ≤ (c : Int) := by omega
              have i8 : (c : Int) < 8 := by omega
              have n1 : (5 * (m : Int)).toNat = 5 * m := by omega
              have n2 : (5 * (m : Int) + 1 + (c : Int)).toNat = 5 * m + 1 + c := by omega
              obtain ⟨P, hP⟩ : ∃ P, (f0 + f1) * s = P := ⟨_, rfl⟩
              have ew : IntKind.i64.wrap ((f0 + f1) * s) = P := by rw [hP]; rw [hP] at p0 p1; exact IntWalk.i64_in _ (by omega)
              rw [hP] at p0 p1 hst
              obtain ⟨t, ht⟩ : ∃ t, totN S F c c m = t := ⟨_, rfl⟩
              rw [ht] at t0 t1 hst ⊢
              have HST := hidv hst
              obtain ⟨w1, w2⟩ := hw
              clear hst ht hP hce r0 hac hcu hca hf0 hf1 hg0 hg1 hwe hsg hse hs8
              go_wp2_with fail
              go_quiet (fail)
              go_wp2_with fail
              go_roundw
              case rel => exact ⟨m + 1, by omega, by go_num, by rw [HST.out, Int.add_assoc], hidv (below_drewN hbm.out _)⟩
              case measure => simp [intOf]; omega
            · obtain rfl : n = m := by omega
              rw [← HLN.out]
              go_wp2_with fail
              go_roundw
              case rel => exact ⟨c + 1, by omega, by go_num, rfl, HAL, hbm⟩
              case measure => simp [intOf]; omega
    · obtain rfl : c = 4 := by omega
      have hfin : d = decide (0 < ltrN S F n 4) := by
        rw [Bool.eq_iff_iff, HD.out, decide_eq_true_iff]
        exact ⟨fun h => h.2, fun h => ⟨hall.out, h⟩⟩
      obtain ⟨lt, hlt⟩ : ∃ q, ltrN S F n 4 = q := ⟨_, rfl⟩
      rw [hlt] at l0 l1 hfin ⊢
      have HFI := hidv hfin
      clear hlt hfin
      go_wp2_with fail
      go_ret
      exact ⟨ret_bool (by rw [HFI.out]), hbe.out⟩

end Go.Proofs.Ytgfdcpmjaamhdaa
