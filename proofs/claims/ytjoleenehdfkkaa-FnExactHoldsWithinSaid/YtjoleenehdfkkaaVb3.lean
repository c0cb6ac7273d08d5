/-
  Valid bounds, in the program: a contract.
-/
import Derived.Test.YtjoleenehdfkkaaVb2
namespace Go.Proofs.Ytjoleenehdfkkaa
open Go.RowKit Go
set_option linter.unusedVariables false

set_option maxRecDepth 100000 in
set_option maxHeartbeats 1600000 in
theorem implVB_any (v : Value) (s : Int) (ns es : List (List Int)) (B : Nat) (w : World) (hv : Bnd w B v s ns es) (hB : B ≤ w.heap.size) (hx : RowsMax maxLen ns) (hp : RowsMax maxLen es) (d : Bool) (hd : d = true ↔ BndOk s ns es) :
    Calls Try.prog 26 #[v] w fun e w' => e = .returned (.bool d) ∧ Below w.heap.size w w' := by
  obtain ⟨va, vb, rfl, hv1, hu1⟩ := hv.more hB
  obtain ⟨A, ca, rfl, hA⟩ := hv1.at
  obtain ⟨P, cp, rfl, hP⟩ := hu1.at
  have hnl := hx.1
  have hml := hp.1
  unfold maxLen at hnl hml
  obtain ⟨n, hn⟩ : ∃ n, ns.length = n := ⟨_, rfl⟩
  obtain ⟨m, hm⟩ : ∃ n, es.length = n := ⟨_, rfl⟩
  have HA := hidv hA
  have HP := hidv hP
  have HD := hidv hd
  have HX := hidv hx.2
  have HY := hidv hp.2
  rw [hn] at hnl ⊢
  rw [hm] at hml ⊢
  have HN := hidv hn
  have HM := hidv hm
  clear hA hP hd hn hm hv hv1 hu1 hx hp
  have hbx := (Bx.new w 34 #[.int .i64 s, .slice A n ca, .slice P m cp])
  have HB0 := hidv (show Below w.heap.size w (w.alloc (.cells #[.int .i64 s, .slice A n ca, .slice P m cp] 34)) from (Below.refl _ _).alloc (by simp) _)
  by_cases h1 : n < 1
  · obtain rfl : d = false := iff_no HD.out (fun h => by have := h.1.1; rw [HN.out] at this; omega)
    go_enter Try.func26, Try.ntmps26
    go_wp2
    go_ret
    exact ⟨rfl, HB0.out⟩
  by_cases h2 : 4 < n
  · obtain rfl : d = false := iff_no HD.out (fun h => by have := h.1.2; rw [HN.out] at this; omega)
    go_enter Try.func26, Try.ntmps26
    go_wp2
    go_ret
    exact ⟨rfl, HB0.out⟩
  go_enter Try.func26, Try.ntmps26
  go_wp2_with fail
  obtain ⟨W, hW⟩ : ∃ W, ((w.alloc (.cells #[.int .i64 s, .slice A n ca, .slice P m cp] 34)).alloc (.cells #[.int .i64 s] 2)) = W := ⟨_, rfl⟩
  have HBW := hidv (show Below w.heap.size w W from by rw [← hW]; exact ((Below.refl _ _).alloc (by simp) _).alloc (by simp) _)
  have hbx2 : Bx W w.heap.size 34 #[.int .i64 s, .slice A n ca, .slice P m cp] := by rw [← hW]; exact hbx.alloc _
  have hbn : Bx W (w.heap.size + 1) 2 #[.int .i64 s] := by
    rw [← hW]
    have h := Bx.new (w.alloc (.cells #[.int .i64 s, .slice A n ca, .slice P m cp] 34)) 2 #[.int .i64 s]
    rw [World.size_alloc] at h
    exact h
  have hrs : Row W (w.heap.size + 2) (.slice (some ⟨w.heap.size + 1, 0, none⟩) 1 1) (ints [s]) := ⟨_, 1, rfl, fun _ => ⟨_, 0, rfl, by omega, fun i x hi => by
    rcases i with _ | i
    · have h := hbn.cell 0
      simp [ints] at hi
      subst hi
      exact h
    · simp [ints] at hi⟩⟩
  rw [hW]
  have HBX := hidv hbx2
  clear hW hbx2 hbn hbx
  obtain ⟨d1, hd1⟩ := iffB (InN n [s])
  have HD1 := hidv hd1
  refine (areBelow_any _ [s] _ n W hrs (by simp [maxLen]) d1 hd1).mono ?_
  rintro e w1 ⟨rfl, hw1⟩
  obtain rfl : W = w1 := hw1.symm
  clear hrs hd1
  obtain ⟨x0, x1, x2⟩ := HBX.out.three
  cases d1
  · obtain rfl : d = false := iff_no HD.out (fun h => by
      have h1 := h.2.1; rw [HN.out] at h1
      exact absurd (HD1.out.mpr (fun j hj => by simp at hj; subst hj; exact h1)) (by simp))
    go_wp2
    go_ret
    exact ⟨rfl, HBW.out⟩
  have hs4 := HD1.out.mp rfl 0 (by simp)
  obtain ⟨hs1, hs2⟩ := hs4
  by_cases hm4 : ¬ m = 4
  · obtain rfl : d = false := iff_no HD.out (fun h => hm4 (HM.out.symm.trans h.2.2.1))
    have hm5 : ((m : Int) != 4) = true := by rw [bne_iff_ne]; omega
    go_wp2
    go_ret
    exact ⟨rfl, HBW.out⟩
  obtain rfl : m = 4 := Decidable.not_not.mp hm4
  clear hm4
  have hs3 := hidv (show 0 ≤ s ∧ s < (n : Int) from ⟨hs1, hs2⟩)
  clear hs1 hs2
  go_wp2_with fail
  go_loopw [34] (fun i wr => ∃ k : Nat, k ≤ n ∧ i = .int .i64 k ∧ Hid (∀ j (h : j < ns.length), j < k → ns[j].length = 4 ∧ InN n ns[j]) ∧ W = wr) (fun i _ => n - (intOf i).toNat)
  case atStart => exact ⟨0, by omega, rfl, hidv (fun j h hj => by omega), rfl⟩
  case round =>
    obtain ⟨k, hk, rfl, hall, rfl⟩ := hrel
    by_cases hlt : k < n
    · have hkx : k < ns.length := by have := HN.out; omega
      obtain ⟨g, o, rfl, hg, hce⟩ := HA.out (by omega)
      obtain ⟨a, cq, e0, r1⟩ := hce k hkx
      have e1 := (HBW.out.cell (p := ⟨g, o + k, none⟩) hg).trans e0
      have r2 := r1.below HBW.out
      obtain ⟨xs, hxs⟩ : ∃ xs, ns[k] = xs := ⟨_, rfl⟩
      have hxl := HX.out ns[k] (List.getElem_mem _)
      rw [hxs] at e1 r2 hxl
      have HXL := hidv hxl
      unfold maxLen at hxl
      obtain ⟨l, hl⟩ : ∃ l, xs.length = l := ⟨_, rfl⟩
      rw [hl] at e1 r2 hxl
      have HXS := hidv hxs
      have HL := hidv hl
      have i1 : (0 : Int) ≤ (k : Int) := by omega
      have i2 : (k : Int) < (n : Int) := by omega
      obtain ⟨d3, hd3⟩ := iffB (InN n xs)
      have HD3 := hidv hd3
      have C3 := hidv (areBelow_any _ xs _ n W r2 HXL.out d3 hd3)
      clear hce hxs hl r1 r2 e0 hd3
      by_cases hl4 : ¬ l = 4
      · obtain rfl : d = false := iff_no HD.out (fun h => by have h1 := (h.2.2.2.1 k hkx).1; rw [HXS.out] at h1; exact hl4 (HL.out.symm.trans h1))
        have hl5 : ((l : Int) != 4) = true := by rw [bne_iff_ne]; omega
        go_wp2
        go_ret
        exact ⟨rfl, HBW.out⟩
      obtain rfl : l = 4 := Decidable.not_not.mp hl4
      clear hl4
      go_wp2_with fail
      refine C3.out.mono ?_
      rintro e w1 ⟨rfl, hw1⟩
      obtain rfl : W = w1 := hw1.symm
      cases d3
      · obtain rfl : d = false := iff_no HD.out (fun h => by
          have h1 := (h.2.2.2.1 k hkx).2
          rw [HXS.out, HN.out] at h1
          exact absurd (HD3.out.mpr h1) (by simp))
        go_wp2
        go_ret
        exact ⟨rfl, HBW.out⟩
      · have hall2 : ∀ j (h : j < ns.length), j < k + 1 → ns[j].length = 4 ∧ InN n ns[j] := fun j h hj => by
          rcases Nat.lt_or_ge j k with h2 | h2
          · exact hall.out j h h2
          · obtain rfl : j = k := by omega
            rw [HXS.out]
            exact ⟨HL.out, HD3.out.mp rfl⟩
        have HALL := hidv hall2
        clear hall2
        go_wp2_with fail
        go_roundw
        case rel => exact ⟨k + 1, by omega, by go_num, HALL, trivial⟩
        case measure => simp [intOf]; omega
    · have hnall := hidv (show ∀ j (h : j < ns.length), ns[j].length = 4 ∧ InN n ns[j] from fun j h => hall.out j h (by have := HN.out; omega))
      clear hall
      obtain ⟨x0, x1, x2⟩ := HBX.out.three
      go_wp2_with fail
      go_loopw [51] (fun i wr => ∃ k : Nat, k ≤ 4 ∧ i = .int .i64 k ∧ Hid (∀ j (h : j < es.length), j < k → InN n es[j] ∧ Rising es[j]) ∧ ∃ q, wr = W.drewN q) (fun i _ => 4 - (intOf i).toNat)
      case atStart => exact ⟨0, by omega, rfl, hidv (fun j h hj => by omega), 0, rfl⟩
      case round =>
        obtain ⟨k, hk, rfl, hin, q, rfl⟩ := hrel
        by_cases hlq : k < 4
        · have hkx : k < es.length := by have := HM.out; omega
          obtain ⟨g, o, rfl, hg, hce⟩ := HP.out (by have := HM.out; omega)
          obtain ⟨a, cq, e0, r1⟩ := hce k hkx
          have e1 := (HBW.out.cell (p := ⟨g, o + k, none⟩) hg).trans e0
          have r2 := r1.below HBW.out
          obtain ⟨xs, hxs⟩ : ∃ xs, es[k] = xs := ⟨_, rfl⟩
          have hxl := HY.out es[k] (List.getElem_mem _)
          rw [hxs] at e1 r2 hxl
          have HXS := hidv hxs
          obtain ⟨d3, hd3⟩ := iffB (InN n xs)
          have HD3 := hidv hd3
          obtain ⟨d4, hd4⟩ := iffB (Rising xs)
          have HD4 := hidv hd4
          have C3 := hidv (fun W' (hW' : Row W' w.heap.size (.slice a xs.length cq) (ints xs)) => areBelow_any _ xs _ n W' hW' hxl d3 hd3)
          have C4 := hidv (fun W' (hW' : Row W' w.heap.size (.slice a xs.length cq) (ints xs)) => increases_any _ xs _ W' hW' hxl d4 hd4)
          have HR := hidv r2
          have j1 : (0 : Int) ≤ (k : Int) := by omega
          have j2 : (k : Int) < 4 := by omega
          clear hce hxs r1 r2 e0 hd3 hd4 hxl
          go_wp2_with fail
          refine (C3.out (W.drewN q) HR.out).mono ?_
          rintro e w1 ⟨rfl, hw1⟩
          subst hw1
          cases d3
          · obtain rfl : d = false := iff_no HD.out (fun h => by
              have h1 := h.2.2.2.2 k hkx
              rw [HXS.out, HN.out] at h1
              exact absurd (HD3.out.mpr h1.1) (by simp))
            go_wp2
            go_ret
            exact ⟨rfl, below_drewN HBW.out _⟩
          go_wp2_with fail
          refine (C4.out (W.drewN q) HR.out).mono ?_
          rintro e w1 ⟨rfl, q2, rfl⟩
          cases d4
          · obtain rfl : d = false := iff_no HD.out (fun h => by
              have h1 := h.2.2.2.2 k hkx
              rw [HXS.out] at h1
              exact absurd (HD4.out.mpr h1.2) (by simp))
            go_wp2
            go_ret
            exact ⟨rfl, below_drewN HBW.out _⟩
          · have hin2 : ∀ j (h : j < es.length), j < k + 1 → InN n es[j] ∧ Rising es[j] := fun j h hj => by
              rcases Nat.lt_or_ge j k with h2 | h2
              · exact hin.out j h h2
              · obtain rfl : j = k := by omega
                rw [HXS.out]
                exact ⟨HD3.out.mp (by trivial), HD4.out.mp (by trivial)⟩
            have HIN := hidv hin2
            clear hin2
            go_wp2_with fail
            go_roundw
            case rel => exact ⟨k + 1, by omega, by go_num, HIN, _, rfl⟩
            case measure => simp [intOf]; omega
        · obtain rfl : d = true := iff_yes HD.out (bndOk_of HN.out ⟨by omega, by omega⟩ hs3.out HM.out hnall.out (fun j h => hin.out j h (by have := HM.out; omega)))
          go_wp2
          go_ret
          exact ⟨rfl, below_drewN HBW.out _⟩

end Go.Proofs.Ytjoleenehdfkkaa
