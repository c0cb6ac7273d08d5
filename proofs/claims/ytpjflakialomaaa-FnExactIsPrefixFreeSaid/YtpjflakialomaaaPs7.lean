/-
  IsPrefixFree, IsSuffixFree, of the model: contracts.
-/
import Derived.Test.YtpjflakialomaaaPf7
import Derived.Test.YtpjflakialomaaaBe7
namespace Go.Proofs.Ytpjflakialomaaa
open Go.RowKit Go
set_option linter.unusedVariables false

set_option maxRecDepth 100000 in
set_option maxHeartbeats 1600000 in
theorem specFreePre_any (v : Value) (xs : List ByteArray) (B : Nat) (w : World) (hv : Row w B v (xs.map Value.string)) (hB : B ≤ w.heap.size) (hx : xs.length ≤ 1048576) (hs : ∀ s ∈ xs, s.size ≤ maxLen) (b : Bool) (c : Int) (hd : IfOk (SetOk xs) (NonePre xs) b c) :
    Calls Try.prog 20 #[v] w fun e w' => e = .returned (.tuple #[.bool b, .int .i64 c]) ∧ Below w.heap.size w w' := by
  obtain ⟨q, hq⟩ := iffB (SetOk xs)
  have C1 := hidv (l07Ok_any v xs B w hv hB hx hs q hq)
  obtain ⟨A, cc, rfl, hA⟩ := strRow_at hv
  obtain ⟨n, hn⟩ : ∃ n, xs.length = n := ⟨_, rfl⟩
  have HA := hidv hA
  have HS := hidv hs
  have HD := hidv hd
  have HQ := hidv hq
  rw [hn] at hx C1 ⊢
  have HN := hidv hn
  clear hv hA hs hd hq hn
  go_enter Try.func20, Try.ntmps20
  go_wp2_with fail
  refine C1.out.mono ?_
  rintro e w1 ⟨rfl, m1, hm1⟩
  have HW1 := hidv hm1
  clear hm1 C1
  cases q
  · obtain ⟨rfl, rfl⟩ := HD.out.2 (fun h => absurd (HQ.out.mpr h) (by decide))
    go_wp2_with fail
    go_ret2
    exact ⟨rfl, below_q HW1.out⟩
  obtain ⟨rfl, hb⟩ := HD.out.1 (HQ.out.mp rfl)
  have HBB := hidv hb
  clear hb
  go_wp2_with fail
  go_loopw [4] (fun i wr => ∃ k : Nat, k ≤ n ∧ i = .int .i64 k ∧ Hid (UptoPre xs k 0) ∧ ∃ z, Hid (wr = w.drewN z)) (fun i _ => n - (intOf i).toNat)
  case atStart => exact ⟨0, Nat.zero_le _, rfl, hidv (fun a ha b hb hab hh => by omega), _, HW1⟩
  case round =>
    obtain ⟨k, hk, rfl, hall, z, HWR⟩ := hrel
    by_cases hlt : k < n
    · have hkx : k < xs.length := by have := HN.out; omega
      obtain ⟨g, o, rfl, hg, hce⟩ := HA.out (by have := HN.out; omega)
      have d1 := hce k hkx
      have hsz := HS.out xs[k] (List.getElem_mem _)
      obtain ⟨x, hx1⟩ : ∃ x, xs[k] = x := ⟨_, rfl⟩
      have HX1 := hidv hx1
      rw [hx1] at d1 hsz
      have HD1 := hidv d1
      have HCE := hidv hce
      clear hx1 hce d1
      have j1 : (0 : Int) ≤ (k : Int) := by omega
      have j2 : (k : Int) < (n : Int) := by omega
      obtain ⟨wo, hwo⟩ : ∃ wo : World, wo = wr := ⟨_, rfl⟩
      go_wp2_with fail
      go_loopw [5] (fun i wr => ∃ j : Nat, j ≤ n ∧ i = .int .i64 j ∧ Hid (UptoPre xs k j) ∧ ∃ z, Hid (wr = w.drewN z)) (fun i _ => n - (intOf i).toNat)
      case atStart => exact ⟨0, Nat.zero_le _, rfl, hall, _, HWR⟩
      case round =>
        obtain ⟨j, hj, rfl, hall2, z2, HW2⟩ := hrel
        by_cases hlj : j < n
        · have hjx : j < xs.length := by have := HN.out; omega
          have d2 := HCE.out j hjx
          have hsy := HS.out xs[j] (List.getElem_mem _)
          obtain ⟨y, hy1⟩ : ∃ x, xs[j] = x := ⟨_, rfl⟩
          have HY1 := hidv hy1
          rw [hy1] at d2 hsy
          have c1 := ((below_q HW2.out).cell (p := ⟨g, _, none⟩) (by show g < _; omega)).trans HD1.out
          have c2 := ((below_q HW2.out).cell (p := ⟨g, _, none⟩) (by show g < _; omega)).trans d2
          have i1 : (0 : Int) ≤ (j : Int) := by omega
          have i2 : (j : Int) < (n : Int) := by omega
          clear hy1 d2
          by_cases hkj : k = j
          · have hne : ((k : Int) != (j : Int)) = false := by rw [hkj]; simp
            have HU := hidv (hall2.out.same hkj)
            clear hkj
            go_wp2_with fail
            go_quiet (fail)
            go_wp2_with fail
            go_roundw
            case rel => exact ⟨j + 1, by omega, by go_num, HU, _, hidv (drewN_of2 HW2.out)⟩
            case measure => simp [intOf]; omega
          · have hne : ((k : Int) != (j : Int)) = true := by rw [bne_iff_ne]; omega
            have C := fun W => begins_any x y W hsz hsy
            obtain ⟨q, hq⟩ : ∃ q, Lib.hasPrefix x.data.toList y.data.toList = q := ⟨_, rfl⟩
            rw [hq] at C
            have HQ2 := hidv hq
            have HC := hidv C
            clear hq C
            cases q
            · have HU := hidv (hall2.out.next hkx hjx (by rw [HX1.out, HY1.out]; exact HQ2.out))
              go_wp2_with fail
              go_quiet (first | (go_at_call 45; exact Calls.quiet_of_same ((HC.out _).mono fun _ _ h => ⟨h.1, h.2.symm⟩)))
              go_wp2_with fail
              go_roundw
              case rel => exact ⟨j + 1, by omega, by go_num, HU, _, hidv (drewN_of2 HW2.out)⟩
              case measure => simp [intOf]; omega
            · obtain rfl : b = false := iff_no HBB.out (fun h => by have h1 := h k hkx j hjx hkj; rw [HX1.out, HY1.out, HQ2.out] at h1; cases h1)
              go_wp2_with fail
              go_quiet (first | (go_at_call 45; exact Calls.quiet_of_same ((HC.out _).mono fun _ _ h => ⟨h.1, h.2.symm⟩)))
              go_wp2_with fail
              go_ret2
              exact ⟨rfl, below_q (drewN_of2 HW2.out)⟩
        · obtain rfl : j = n := by omega
          have HU := hidv (hall2.out.row HN.out)
          go_wp2_with fail
          go_roundw
          case rel => exact ⟨k + 1, by omega, by go_num, HU, _, HW2⟩
          case measure => simp [intOf]; omega
    · obtain rfl : k = n := by omega
      obtain rfl : b = true := iff_yes HBB.out (hall.out.all HN.out)
      go_wp2_with fail
      go_ret2
      exact ⟨rfl, below_q HWR.out⟩

set_option maxRecDepth 100000 in
set_option maxHeartbeats 1600000 in
theorem specFreeSuf_any (v : Value) (xs : List ByteArray) (B : Nat) (w : World) (hv : Row w B v (xs.map Value.string)) (hB : B ≤ w.heap.size) (hx : xs.length ≤ 1048576) (hs : ∀ s ∈ xs, s.size ≤ maxLen) (b : Bool) (c : Int) (hd : IfOk (SetOk xs) (NoneSuf xs) b c) :
    Calls Try.prog 22 #[v] w fun e w' => e = .returned (.tuple #[.bool b, .int .i64 c]) ∧ Below w.heap.size w w' := by
  obtain ⟨q, hq⟩ := iffB (SetOk xs)
  have C1 := hidv (l07Ok_any v xs B w hv hB hx hs q hq)
  obtain ⟨A, cc, rfl, hA⟩ := strRow_at hv
  obtain ⟨n, hn⟩ : ∃ n, xs.length = n := ⟨_, rfl⟩
  have HA := hidv hA
  have HS := hidv hs
  have HD := hidv hd
  have HQ := hidv hq
  rw [hn] at hx C1 ⊢
  have HN := hidv hn
  clear hv hA hs hd hq hn
  go_enter Try.func22, Try.ntmps22
  go_wp2_with fail
  refine C1.out.mono ?_
  rintro e w1 ⟨rfl, m1, hm1⟩
  have HW1 := hidv hm1
  clear hm1 C1
  cases q
  · obtain ⟨rfl, rfl⟩ := HD.out.2 (fun h => absurd (HQ.out.mpr h) (by decide))
    go_wp2_with fail
    go_ret2
    exact ⟨rfl, below_q HW1.out⟩
  obtain ⟨rfl, hb⟩ := HD.out.1 (HQ.out.mp rfl)
  have HBB := hidv hb
  clear hb
  go_wp2_with fail
  go_loopw [4] (fun i wr => ∃ k : Nat, k ≤ n ∧ i = .int .i64 k ∧ Hid (UptoSuf xs k 0) ∧ ∃ z, Hid (wr = w.drewN z)) (fun i _ => n - (intOf i).toNat)
  case atStart => exact ⟨0, Nat.zero_le _, rfl, hidv (fun a ha b hb hab hh => by omega), _, HW1⟩
  case round =>
    obtain ⟨k, hk, rfl, hall, z, HWR⟩ := hrel
    by_cases hlt : k < n
    · have hkx : k < xs.length := by have := HN.out; omega
      obtain ⟨g, o, rfl, hg, hce⟩ := HA.out (by have := HN.out; omega)
      have d1 := hce k hkx
      have hsz := HS.out xs[k] (List.getElem_mem _)
      obtain ⟨x, hx1⟩ : ∃ x, xs[k] = x := ⟨_, rfl⟩
      have HX1 := hidv hx1
      rw [hx1] at d1 hsz
      have HD1 := hidv d1
      have HCE := hidv hce
      clear hx1 hce d1
      have j1 : (0 : Int) ≤ (k : Int) := by omega
      have j2 : (k : Int) < (n : Int) := by omega
      obtain ⟨wo, hwo⟩ : ∃ wo : World, wo = wr := ⟨_, rfl⟩
      go_wp2_with fail
      go_loopw [5] (fun i wr => ∃ j : Nat, j ≤ n ∧ i = .int .i64 j ∧ Hid (UptoSuf xs k j) ∧ ∃ z, Hid (wr = w.drewN z)) (fun i _ => n - (intOf i).toNat)
      case atStart => exact ⟨0, Nat.zero_le _, rfl, hall, _, HWR⟩
      case round =>
        obtain ⟨j, hj, rfl, hall2, z2, HW2⟩ := hrel
        by_cases hlj : j < n
        · have hjx : j < xs.length := by have := HN.out; omega
          have d2 := HCE.out j hjx
          have hsy := HS.out xs[j] (List.getElem_mem _)
          obtain ⟨y, hy1⟩ : ∃ x, xs[j] = x := ⟨_, rfl⟩
          have HY1 := hidv hy1
          rw [hy1] at d2 hsy
          have c1 := ((below_q HW2.out).cell (p := ⟨g, _, none⟩) (by show g < _; omega)).trans HD1.out
          have c2 := ((below_q HW2.out).cell (p := ⟨g, _, none⟩) (by show g < _; omega)).trans d2
          have i1 : (0 : Int) ≤ (j : Int) := by omega
          have i2 : (j : Int) < (n : Int) := by omega
          clear hy1 d2
          by_cases hkj : k = j
          · have hne : ((k : Int) != (j : Int)) = false := by rw [hkj]; simp
            have HU := hidv (hall2.out.same hkj)
            clear hkj
            go_wp2_with fail
            go_quiet (fail)
            go_wp2_with fail
            go_roundw
            case rel => exact ⟨j + 1, by omega, by go_num, HU, _, hidv (drewN_of2 HW2.out)⟩
            case measure => simp [intOf]; omega
          · have hne : ((k : Int) != (j : Int)) = true := by rw [bne_iff_ne]; omega
            have C := fun W => ends_any x y W hsz hsy
            obtain ⟨q, hq⟩ : ∃ q, Lib.hasSuffix x.data.toList y.data.toList = q := ⟨_, rfl⟩
            rw [hq] at C
            have HQ2 := hidv hq
            have HC := hidv C
            clear hq C
            cases q
            · have HU := hidv (hall2.out.next hkx hjx (by rw [HX1.out, HY1.out]; exact HQ2.out))
              go_wp2_with fail
              go_quiet (first | (go_at_call 48; exact Calls.quiet_of_same ((HC.out _).mono fun _ _ h => ⟨h.1, h.2.symm⟩)))
              go_wp2_with fail
              go_roundw
              case rel => exact ⟨j + 1, by omega, by go_num, HU, _, hidv (drewN_of2 HW2.out)⟩
              case measure => simp [intOf]; omega
            · obtain rfl : b = false := iff_no HBB.out (fun h => by have h1 := h k hkx j hjx hkj; rw [HX1.out, HY1.out, HQ2.out] at h1; cases h1)
              go_wp2_with fail
              go_quiet (first | (go_at_call 48; exact Calls.quiet_of_same ((HC.out _).mono fun _ _ h => ⟨h.1, h.2.symm⟩)))
              go_wp2_with fail
              go_ret2
              exact ⟨rfl, below_q (drewN_of2 HW2.out)⟩
        · obtain rfl : j = n := by omega
          have HU := hidv (hall2.out.row HN.out)
          go_wp2_with fail
          go_roundw
          case rel => exact ⟨k + 1, by omega, by go_num, HU, _, HW2⟩
          case measure => simp [intOf]; omega
    · obtain rfl : k = n := by omega
      obtain rfl : b = true := iff_yes HBB.out (hall.out.all HN.out)
      go_wp2_with fail
      go_ret2
      exact ⟨rfl, below_q HWR.out⟩

end Go.Proofs.Ytpjflakialomaaa
