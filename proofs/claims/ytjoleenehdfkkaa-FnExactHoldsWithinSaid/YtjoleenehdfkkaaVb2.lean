/-
  Valid bounds, in the model: a contract.
-/
import Derived.Test.YtjoleenehdfkkaaVb
namespace Go.Proofs.Ytjoleenehdfkkaa
open Go.RowKit Go
set_option linter.unusedVariables false

/-- Bounds as the document wants them: one to four states, the start one of them, four rising lists of ends, and from each state four states. -/
def BndOk (s : Int) (ns es : List (List Int)) : Prop :=
  (1 ≤ ns.length ∧ ns.length ≤ 4) ∧ (0 ≤ s ∧ s < ns.length) ∧ es.length = 4 ∧ (∀ i (h : i < ns.length), ns[i].length = 4 ∧ InN ns.length ns[i]) ∧ ∀ i (h : i < es.length), InN ns.length es[i] ∧ Rising es[i]

theorem bndOk_of {s : Int} {n : Nat} {ns es : List (List Int)} (hn : ns.length = n) (h1 : (1 : Int) ≤ n ∧ (n : Int) ≤ 4) (h2 : 0 ≤ s ∧ s < (n : Int)) (h3 : es.length = 4)
    (h4 : ∀ i (h : i < ns.length), ns[i].length = 4 ∧ InN n ns[i]) (h5 : ∀ i (h : i < es.length), InN n es[i] ∧ Rising es[i]) : BndOk s ns es := by
  subst hn
  exact ⟨by omega, h2, h3, h4, h5⟩

set_option maxRecDepth 100000 in
set_option maxHeartbeats 1600000 in
theorem l05Ok_any (b : Nat) (s : Int) (ns es : List (List Int)) (A P : Option Addr) (ca cp B : Nat) (w : World) (c0 : w.cell? ⟨b, 0, none⟩ = some (.int .i64 s)) (c1 : w.cell? ⟨b, 1, none⟩ = some (.slice A ns.length ca)) (c2 : w.cell? ⟨b, 2, none⟩ = some (.slice P es.length cp))
    (hv : IRows w B (.slice A ns.length ca) ns) (hu : IRows w B (.slice P es.length cp) es) (hx : RowsMax maxLen ns) (hp : RowsMax maxLen es) (d : Bool) (hd : d = true ↔ BndOk s ns es) :
    Calls Try.prog 37 #[.pointer (some ⟨b, 0, none⟩)] w fun e w' => e = .returned (.bool d) ∧ ∃ m, w' = w.drewN m := by
  obtain ⟨_, _, hve, hA⟩ := hv.at
  obtain ⟨_, _, hue, hP⟩ := hu.at
  simp only [Value.slice.injEq] at hve hue
  obtain ⟨rfl, -, rfl⟩ := hve
  obtain ⟨rfl, -, rfl⟩ := hue
  have hnl := hx.1
  have hml := hp.1
  unfold maxLen at hnl hml
  obtain ⟨n, hn⟩ : ∃ n, ns.length = n := ⟨_, rfl⟩
  obtain ⟨m, hm⟩ : ∃ n, es.length = n := ⟨_, rfl⟩
  have HA := hidv hA
  have HP := hidv hP
  have HD := hidv hd
  have HX := hidv hx.2
  have HY := hidv hp.2
  rw [hn] at c1 hnl
  rw [hm] at c2 hml
  have HN := hidv hn
  have HM := hidv hm
  clear hA hP hd hn hm hv hu hx hp
  obtain ⟨d1, hd1⟩ := iffB ((1 : Int) ≤ n ∧ (n : Int) ≤ 4)
  have HD1 := hidv hd1
  have C1 := hidv (fun W => l00In2_any n 1 4 W d1 hd1)
  clear hd1
  go_enter Try.func37, Try.ntmps37
  go_wp2_with fail
  refine (C1.out _).mono ?_
  rintro e w1 ⟨rfl, hw1⟩
  obtain rfl : w = w1 := hw1.symm
  cases d1
  · obtain rfl : d = false := iff_no HD.out (fun h => by
      have h1 := h.1; rw [HN.out] at h1
      exact absurd (HD1.out.mpr ⟨by omega, by omega⟩) (by simp))
    go_wp2
    go_ret
    exact ⟨rfl, 0, rfl⟩
  have hn4 := HD1.out.mp rfl
  obtain ⟨hn1, hn2⟩ := hn4
  obtain ⟨d2, hd2⟩ := iffB ((0 : Int) ≤ s ∧ s ≤ (n : Int) - 1)
  have HD2 := hidv hd2
  have C2 := hidv (fun W => l00In2_any s 0 ((n : Int) - 1) W d2 hd2)
  clear hd2
  go_wp2_with fail
  refine (C2.out _).mono ?_
  rintro e w1 ⟨rfl, hw1⟩
  obtain rfl : w = w1 := hw1.symm
  cases d2
  · obtain rfl : d = false := iff_no HD.out (fun h => by
      have h1 := h.2.1; rw [HN.out] at h1
      exact absurd (HD2.out.mpr ⟨by omega, by omega⟩) (by simp))
    go_wp2
    go_ret
    exact ⟨rfl, 0, rfl⟩
  have hs4 := HD2.out.mp rfl
  obtain ⟨hs1, hs2⟩ := hs4
  by_cases hm4 : ¬ m = 4
  · obtain rfl : d = false := iff_no HD.out (fun h => hm4 (HM.out.symm.trans h.2.2.1))
    have hm5 : ((m : Int) != 4) = true := by rw [bne_iff_ne]; omega
    go_wp2
    go_ret
    exact ⟨rfl, 0, rfl⟩
  obtain rfl : m = 4 := Decidable.not_not.mp hm4
  clear hm4
  go_wp2_with fail
  go_loopw [4] (fun i wr => ∃ k : Nat, k ≤ n ∧ i = .int .i64 k ∧ Hid (∀ j (h : j < ns.length), j < k → ns[j].length = 4 ∧ InN n ns[j]) ∧ w = wr) (fun i _ => n - (intOf i).toNat)
  case atStart => exact ⟨0, by omega, rfl, hidv (fun j h hj => by omega), rfl⟩
  case round =>
    obtain ⟨k, hk, rfl, hall, rfl⟩ := hrel
    by_cases hlt : k < n
    · have hkx : k < ns.length := by have := HN.out; omega
      obtain ⟨g, o, rfl, hg, hce⟩ := HA.out (by omega)
      obtain ⟨a, cq, e1, r1⟩ := hce k hkx
      obtain ⟨xs, hxs⟩ : ∃ xs, ns[k] = xs := ⟨_, rfl⟩
      have hxl := HX.out ns[k] (List.getElem_mem _)
      rw [hxs] at e1 r1 hxl
      unfold maxLen at hxl
      obtain ⟨l, hl⟩ : ∃ l, xs.length = l := ⟨_, rfl⟩
      rw [hl] at e1 r1 hxl
      have HXS := hidv hxs
      have HL := hidv hl
      have HR := hidv r1
      have i1 : (0 : Int) ≤ (k : Int) := by omega
      have i2 : (k : Int) < (n : Int) := by omega
      clear hce hxs hl r1
      by_cases hl4 : ¬ l = 4
      · obtain rfl : d = false := iff_no HD.out (fun h => by have h1 := (h.2.2.2.1 k hkx).1; rw [HXS.out] at h1; exact hl4 (HL.out.symm.trans h1))
        have hl5 : ((l : Int) != 4) = true := by rw [bne_iff_ne]; omega
        go_wp2
        go_ret
        exact ⟨rfl, 0, rfl⟩
      obtain rfl : l = 4 := Decidable.not_not.mp hl4
      clear hl4
      go_wp2_with fail
      go_loopw [5] (fun i wr => ∃ q : Nat, q ≤ 4 ∧ i = .int .i64 q ∧ Hid (∀ j (h : j < xs.length), j < q → 0 ≤ xs[j] ∧ xs[j] < n) ∧ w = wr) (fun i _ => 4 - (intOf i).toNat)
      case atStart => exact ⟨0, by omega, rfl, hidv (fun j h hj => by omega), rfl⟩
      case round =>
        obtain ⟨q, hq, rfl, hin, rfl⟩ := hrel
        by_cases hlq : q < 4
        · have hqx : q < xs.length := by have := HL.out; omega
          obtain ⟨Ar, cr, hre, hrc⟩ := HR.out
          simp only [Value.slice.injEq] at hre
          obtain ⟨rfl, -, rfl⟩ := hre
          obtain ⟨gr, og, rfl, hgr, hcr⟩ := hrc (by simp [ints]; omega)
          have f1 := hcr q _ (map_int_at hqx)
          obtain ⟨x, hx1⟩ : ∃ x, xs[q] = x := ⟨_, rfl⟩
          rw [hx1] at f1
          have HX1 := hidv hx1
          obtain ⟨d3, hd3⟩ := iffB ((0 : Int) ≤ x ∧ x ≤ (n : Int) - 1)
          have HD3 := hidv hd3
          have C3 := hidv (fun W => l00In2_any x 0 ((n : Int) - 1) W d3 hd3)
          have j1 : (0 : Int) ≤ (q : Int) := by omega
          have j2 : (q : Int) < 4 := by omega
          clear hrc hcr hx1 hd3
          go_wp2_with fail
          refine (C3.out _).mono ?_
          rintro e w1 ⟨rfl, hw1⟩
          obtain rfl : w = w1 := hw1.symm
          cases d3
          · obtain rfl : d = false := iff_no HD.out (fun h => by
              have h1 := (h.2.2.2.1 k hkx).2
              rw [HXS.out, HN.out] at h1
              have h2 := h1 q hqx
              rw [HX1.out] at h2
              exact absurd (HD3.out.mpr ⟨by omega, by omega⟩) (by simp))
            go_wp2
            go_ret
            exact ⟨rfl, 0, rfl⟩
          · have hin2 : ∀ j (h : j < xs.length), j < q + 1 → 0 ≤ xs[j] ∧ xs[j] < n := fun j h hj => by
              rcases Nat.lt_or_ge j q with h2 | h2
              · exact hin.out j h h2
              · obtain rfl : j = q := by omega
                rw [HX1.out]; have := HD3.out.mp rfl; omega
            have HIN := hidv hin2
            clear hin2
            go_wp2_with fail
            go_roundw
            case rel => exact ⟨q + 1, by omega, by go_num, HIN, trivial⟩
            case measure => simp [intOf]; omega
        · have hall2 : ∀ j (h : j < ns.length), j < k + 1 → ns[j].length = 4 ∧ InN n ns[j] := fun j h hj => by
            rcases Nat.lt_or_ge j k with h2 | h2
            · exact hall.out j h h2
            · obtain rfl : j = k := by omega
              rw [HXS.out]
              exact ⟨HL.out, fun j h => hin.out j h (by have := HL.out; omega)⟩
          have HALL := hidv hall2
          clear hall2
          go_wp2_with fail
          go_roundw
          case rel => exact ⟨k + 1, by omega, by go_num, HALL, trivial⟩
          case measure => simp [intOf]; omega
    · have hnall := hidv (show ∀ j (h : j < ns.length), ns[j].length = 4 ∧ InN n ns[j] from fun j h => hall.out j h (by have := HN.out; omega))
      clear hall
      go_wp2_with fail
      go_loopw [6] (fun i wr => ∃ k : Nat, k ≤ 4 ∧ i = .int .i64 k ∧ Hid (∀ j (h : j < es.length), j < k → InN n es[j] ∧ Rising es[j]) ∧ ∃ q, wr = w.drewN q) (fun i _ => 4 - (intOf i).toNat)
      case atStart => exact ⟨0, by omega, rfl, hidv (fun j h hj => by omega), 0, rfl⟩
      case round =>
        obtain ⟨k, hk, rfl, hin, q, rfl⟩ := hrel
        by_cases hlq : k < 4
        · have hkx : k < es.length := by have := HM.out; omega
          obtain ⟨g, o, rfl, hg, hce⟩ := HP.out (by have := HM.out; omega)
          obtain ⟨a, cq, e1, r1⟩ := hce k hkx
          obtain ⟨xs, hxs⟩ : ∃ xs, es[k] = xs := ⟨_, rfl⟩
          have hxl := HY.out es[k] (List.getElem_mem _)
          rw [hxs] at e1 r1 hxl
          have HXS := hidv hxs
          obtain ⟨d3, hd3⟩ := iffB ((∀ j (h : j < xs.length), (0 : Int) ≤ xs[j] ∧ xs[j] ≤ (n : Int) - 1) ∧ Rising xs)
          have HD3 := hidv hd3
          have C3 := hidv (fun W (hW : Row W B (.slice a xs.length cq) (ints xs)) => l00Rises_any _ xs B 0 ((n : Int) - 1) W hW hxl d3 hd3)
          have HR := hidv r1
          have j1 : (0 : Int) ≤ (k : Int) := by omega
          have j2 : (k : Int) < 4 := by omega
          clear hce hxs r1 hd3 hxl
          go_wp2_with fail
          refine (C3.out (w.drewN q) HR.out).mono ?_
          rintro e w1 ⟨rfl, q2, rfl⟩
          cases d3
          · obtain rfl : d = false := iff_no HD.out (fun h => by
              have h1 := h.2.2.2.2 k hkx
              rw [HXS.out, HN.out] at h1
              exact absurd (HD3.out.mpr ⟨fun j h => by have := h1.1 j h; omega, h1.2⟩) (by simp))
            go_wp2
            go_ret
            exact ⟨rfl, _, rfl⟩
          · have hin2 : ∀ j (h : j < es.length), j < k + 1 → InN n es[j] ∧ Rising es[j] := fun j h hj => by
              rcases Nat.lt_or_ge j k with h2 | h2
              · exact hin.out j h h2
              · obtain rfl : j = k := by omega
                rw [HXS.out]
                have h3 := HD3.out.mp rfl
                exact ⟨fun j h => by have := h3.1 j h; omega, h3.2⟩
            have HIN := hidv hin2
            clear hin2
            go_wp2_with fail
            go_roundw
            case rel => exact ⟨k + 1, by omega, by go_num, HIN, _, rfl⟩
            case measure => simp [intOf]; omega
        · obtain rfl : d = true := iff_yes HD.out (bndOk_of HN.out ⟨hn1, by omega⟩ ⟨hs1, by omega⟩ HM.out hnall.out (fun j h => hin.out j h (by have := HM.out; omega)))
          go_wp2
          go_ret
          exact ⟨rfl, _, rfl⟩

end Go.Proofs.Ytjoleenehdfkkaa
