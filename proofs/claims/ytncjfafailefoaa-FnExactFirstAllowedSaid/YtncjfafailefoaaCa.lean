/-
  CountAllowed, of the program: a contract.
-/
import Derived.Test.YtncjfafailefoaaCn
namespace Go.Proofs.Ytncjfafailefoaa
open Go.RowKit Go
set_option linter.unusedVariables false

/-- What CountAllowed tells: a number and a code. -/
def CountR (s : Int) (ns es : List (List Int)) (k n : Int) (v c : Int) : Prop :=
  (¬ BndOk s ns es → v = 0 ∧ c = 1) ∧ (BndOk s ns es → ¬ ((0 ≤ k ∧ k < 4) ∧ (0 ≤ n ∧ n < 21)) → v = 0 ∧ c = 2) ∧
  (BndOk s ns es → ((0 ≤ k ∧ k < 4) ∧ (0 ≤ n ∧ n < 21)) → v = (esum (cntC ns ns.length s.toNat n.toNat) (es.getD k.toNat []) (es.getD k.toNat []).length : Int) ∧ c = 0)
theorem countR_ex (s : Int) (ns es : List (List Int)) (k n : Int) : ∃ v c, CountR s ns es k n v c := by
  by_cases h1 : BndOk s ns es
  · by_cases h2 : (0 ≤ k ∧ k < 4) ∧ (0 ≤ n ∧ n < 21)
    · exact ⟨_, 0, fun h => absurd h1 h, fun _ h => absurd h2 h, fun _ _ => ⟨rfl, rfl⟩⟩
    · exact ⟨0, 2, fun h => absurd h1 h, fun _ _ => ⟨rfl, rfl⟩, fun _ h => absurd h h2⟩
  · exact ⟨0, 1, fun _ => ⟨rfl, rfl⟩, fun h => absurd h h1, fun h => absurd h h1⟩
theorem one_row {w : World} (y : Int) (g : Nat) (h : Bx w g 2 #[.int .i64 y]) : Row w (g + 1) (.slice (some ⟨g, 0, none⟩) 1 1) (ints [y]) := ⟨_, 1, rfl, fun _ => ⟨_, 0, rfl, by omega, fun i x hi => by
  rcases i with _ | i
  · have h := h.cell 0
    simp [ints] at hi
    subst hi
    exact h
  · simp [ints] at hi⟩⟩
theorem arrN_at (C : List Nat) (t : Nat) (h : t < C.length) : (arrN C)[t]? = some (.int .i64 (C.getD t 0 : Nat)) := by
  refine arrN_get C t ?_
  rw [List.getElem?_eq_getElem h, List.getD_eq_getElem?_getD, List.getElem?_eq_getElem h]; rfl
theorem addAt_arr (C : List Nat) (t x : Nat) : (arrN C).setIfInBounds t (.int .i64 ((C.getD t 0 + x : Nat) : Int)) = arrN (addAt C t x) := arrN_set _ _ _

set_option maxRecDepth 100000 in
set_option maxHeartbeats 3200000 in
theorem implCount_any (v : Value) (s : Int) (ns es : List (List Int)) (B : Nat) (k n : Int) (w : World) (hv : Bnd w B v s ns es) (hB : B ≤ w.heap.size) (hn : RowsMax maxLen ns) (hp : RowsMax maxLen es) (r c : Int) (hR : CountR s ns es k n r c) :
    Calls Try.prog 27 #[v, .int .i64 k, .int .i64 n] w fun e w' => e = .returned (.tuple #[.int .i64 r, .int .i64 c]) ∧ Below w.heap.size w w' := by
  obtain ⟨A, ca, P, cp, rfl⟩ := (hv.more hB).form
  have hv2 := hv.more hB
  obtain ⟨_, _, hvv, hvA, hvP⟩ := id hv2
  simp only [Value.agg.injEq, Array.mk.injEq, List.cons.injEq, and_true] at hvv
  obtain ⟨-, rfl, rfl⟩ := hvv
  obtain ⟨_, _, hve, hA⟩ := hvA.at
  simp only [Value.slice.injEq] at hve
  obtain ⟨rfl, -, rfl⟩ := hve
  obtain ⟨_, _, hue, hP⟩ := hvP.at
  simp only [Value.slice.injEq] at hue
  obtain ⟨rfl, -, rfl⟩ := hue
  have HA := hidv hA
  have HP := hidv hP
  have HPM := hidv hp.2
  obtain ⟨d1, hd1⟩ := iffB (BndOk s ns es)
  have HD1 := hidv hd1
  have HR := hidv hR
  have C1 := hidv (fun W (hW : Below w.heap.size w W) => implVB_any _ s ns es w.heap.size W (hv2.below hW) hW.size hn hp d1 hd1)
  obtain ⟨N, hnn⟩ : ∃ n, ns.length = n := ⟨_, rfl⟩
  obtain ⟨M, hmm⟩ : ∃ m, es.length = m := ⟨_, rfl⟩
  rw [hnn, hmm] at C1 ⊢
  have HNN := hidv hnn
  have HMM := hidv hmm
  have hbx := Bx.new w 27 #[.int .i64 s, .slice A N ca, .slice P M cp]
  have hb : Below w.heap.size w (w.alloc (.cells #[.int .i64 s, .slice A N ca, .slice P M cp] 27)) := (Below.refl _ _).alloc (by simp) _
  obtain ⟨W, hW⟩ : ∃ W, w.alloc (.cells #[.int .i64 s, .slice A N ca, .slice P M cp] 27) = W := ⟨_, rfl⟩
  rw [hW] at hbx hb
  have HB := hidv hb
  have HBX := hidv hbx
  have HWW := hidv hW
  clear hv hv2 hn hp hR hd1 hbx hb hW hnn hmm hvA hvP hA hP
  go_enter Try.func27, Try.ntmps27
  go_wp2_with fail
  rw [HWW.out]
  refine (C1.out _ HB.out).mono ?_
  rintro e w1 ⟨rfl, hb1⟩
  have HB1 := hidv (below_on HB.out hb1)
  have HBX1 := hidv (HBX.out.below hb1)
  clear hb1
  cases d1
  · obtain ⟨rfl, rfl⟩ := HR.out.1 (fun h => absurd (HD1.out.mpr h) (by simp))
    go_wp2_with fail
    go_ret2
    exact ⟨rfl, HB1.out⟩
  have HOK := hidv (show BndOk s ns es from HD1.out.mp (by trivial))
  obtain ⟨d3, hd3⟩ := iffB (InN 4 [k])
  have HD3 := hidv hd3
  clear hd3
  go_wp2_with fail
  have HB2 := hidv (HB1.out.alloc HB1.out.size (.cells #[.int .i64 k] 2))
  have HBX2 := hidv (HBX1.out.alloc (.cells #[.int .i64 k] 2))
  refine (areBelow_any _ [k] _ 4 _ (one_row k _ (Bx.new w1 2 #[.int .i64 k])) (by simp [maxLen]) d3 HD3.out).mono ?_
  rintro e w2 ⟨rfl, hw2⟩
  obtain ⟨W2, hW2⟩ : ∃ W, w1.alloc (.cells #[.int .i64 k] 2) = W := ⟨_, rfl⟩
  rw [hW2] at hw2 HB2 HBX2
  obtain rfl : W2 = w2 := hw2.symm
  clear hW2
  cases d3
  · obtain ⟨rfl, rfl⟩ := HR.out.2.1 HOK.out (fun h => absurd (HD3.out.mpr (fun j hj => by simp at hj; subst hj; exact h.1)) (by simp))
    go_wp2_with fail
    go_ret2
    exact ⟨rfl, HB2.out⟩
  obtain ⟨d4, hd4⟩ := iffB (InN 21 [n])
  have HD4 := hidv hd4
  clear hd4
  go_wp2_with fail
  have HB3 := hidv (HB2.out.alloc HB2.out.size (.cells #[.int .i64 n] 2))
  have HBX3 := hidv (HBX2.out.alloc (.cells #[.int .i64 n] 2))
  refine (areBelow_any _ [n] _ 21 _ (one_row n _ (Bx.new W2 2 #[.int .i64 n])) (by simp [maxLen]) d4 HD4.out).mono ?_
  rintro e w3 ⟨rfl, hw3⟩
  obtain ⟨W3, hW3⟩ : ∃ W, W2.alloc (.cells #[.int .i64 n] 2) = W := ⟨_, rfl⟩
  rw [hW3] at hw3 HB3 HBX3
  obtain rfl : W3 = w3 := hw3.symm
  clear hW3
  cases d4
  · obtain ⟨rfl, rfl⟩ := HR.out.2.1 HOK.out (fun h => absurd (HD4.out.mpr (fun j hj => by simp at hj; subst hj; exact h.2)) (by simp))
    go_wp2_with fail
    go_ret2
    exact ⟨rfl, HB3.out⟩
  have hk4 : 0 ≤ k ∧ k < 4 := HD3.out.mp (by trivial) 0 (by simp)
  have hn21 : 0 ≤ n ∧ n < 21 := HD4.out.mp (by trivial) 0 (by simp)
  obtain ⟨hr, rfl⟩ := HR.out.2.2 HOK.out ⟨hk4, hn21⟩
  obtain ⟨K, rfl⟩ : ∃ K : Nat, k = (K : Int) := ⟨k.toNat, by omega⟩
  obtain ⟨X, rfl⟩ : ∃ K : Nat, n = (K : Int) := ⟨n.toNat, by omega⟩
  obtain ⟨st, hst⟩ : ∃ st : Nat, s = (st : Int) := ⟨s.toNat, by have := HOK.out.2.1; omega⟩
  have hstn : st < N := by have := HOK.out.2.1; have := HNN.out; omega
  have hN4 : N ≤ 4 := by have := HOK.out.1.2; have := HNN.out; omega
  have hK4 : K < 4 := by omega
  have hX20 : X ≤ 20 := by omega
  subst hst
  rw [Int.toNat_natCast, Int.toNat_natCast, Int.toNat_natCast] at hr
  have HRR := hidv hr
  clear hr hk4 hn21
  have hz4 := Bx.new W3 58 #[.int .i64 0, .int .i64 0, .int .i64 0, .int .i64 0]
  have hb4 := HBX3.out.alloc (.cells #[.int .i64 0, .int .i64 0, .int .i64 0, .int .i64 0] 58)
  have hw4 := HB3.out.alloc HB3.out.size (.cells #[.int .i64 0, .int .i64 0, .int .i64 0, .int .i64 0] 58)
  have hsz3 := HBX3.out.lt
  obtain ⟨gC, hgC⟩ : ∃ g, W3.heap.size = g := ⟨_, rfl⟩
  obtain ⟨W4, hW4⟩ : ∃ W, W3.alloc (.cells #[.int .i64 0, .int .i64 0, .int .i64 0, .int .i64 0] 58) = W := ⟨_, rfl⟩
  rw [hW4] at hz4 hb4 hw4
  rw [hgC] at hz4 hsz3
  have hz4 : Bx W4 gC 58 (arrN (List.replicate 4 0)) := hz4
  have hlt4 := hz4.lt
  obtain ⟨z0, z1, z2⟩ := hb4.three
  have c0 : W4.cell? ⟨gC, st, none⟩ = some (.int .i64 0) := by
    rw [hz4.cell st]
    have h := arrN_at (List.replicate 4 0) st (by simp; omega)
    rw [h]
    congr 3
    rw [List.getD_eq_getElem?_getD, List.getElem?_replicate]
    split <;> rfl
  have f0 : W4.frozen? ⟨gC, st, none⟩ = false := hz4.frozen st
  have hs4 : Bx (W4.setCell ⟨gC, st, none⟩ (.int .i64 1)) gC 58 (arrN (cntC ns 4 st 0)) := by
    have h := hz4.set st (.int .i64 ((1 : Nat) : Int))
    have h2 := addAt_arr (List.replicate 4 0) st 1
    rw [show (List.replicate 4 0).getD st 0 + 1 = 1 by rw [List.getD_eq_getElem?_getD, List.getElem?_replicate]; split <;> rfl] at h2
    rw [h2] at h
    exact h
  have HS4 := hidv hs4
  have HB4 := hidv (hb4.far ⟨gC, st, none⟩ (by show gC ≠ _; omega) (.int .i64 1))
  have HW4 := hidv (hw4.setCell (p := ⟨gC, st, none⟩) (by show w.heap.size ≤ gC; omega) (.int .i64 1))
  have i0 : (0 : Int) ≤ (st : Int) := by omega
  have i1 : (st : Int) < 4 := by omega
  have HGC := hidv (show w.heap.size < gC from hsz3)
  clear hz4 hb4 hw4 hs4
  go_wp2_with fail
  clear hW4
  go_loopw [34] (fun i wr => ∃ x : Nat, x ≤ X ∧ i = .int .i64 (x : Int) ∧ Hid (Bx wr gC 58 (arrN (cntC ns 4 st x))) ∧ Hid (Bx wr w.heap.size 27 #[.int .i64 (st : Int), .slice A N ca, .slice P M cp]) ∧ Hid (Below w.heap.size w wr)) (fun i _ => X - (intOf i).toNat)
  case atStart => exact ⟨0, by omega, rfl, HS4, HB4, HW4⟩
  case round =>
    obtain ⟨x, hx, rfl, hc, hbx, hbe⟩ := hrel
    by_cases hlt : x < X
    · obtain ⟨WO, hWO⟩ : ∃ W, wr = W := ⟨_, rfl⟩
      rw [hWO] at hc hbx hbe ⊢
      clear hWO
      have hcs := hc.out.lt
      have hl0 := Bx.new WO 58 #[.int .i64 0, .int .i64 0, .int .i64 0, .int .i64 0]
      have HL0 := hidv (show Bx (WO.alloc (.cells #[.int .i64 0, .int .i64 0, .int .i64 0, .int .i64 0] 58)) WO.heap.size 58 (arrN (allAdd ns (cntC ns 4 st x) 4 0)) from hl0)
      have HC0 := hidv (hc.out.alloc (.cells #[.int .i64 0, .int .i64 0, .int .i64 0, .int .i64 0] 58))
      have HX0 := hidv (hbx.out.alloc (.cells #[.int .i64 0, .int .i64 0, .int .i64 0, .int .i64 0] 58))
      have HE0 := hidv (hbe.out.alloc hbe.out.size (.cells #[.int .i64 0, .int .i64 0, .int .i64 0, .int .i64 0] 58))
      obtain ⟨C, hC⟩ : ∃ C, cntC ns 4 st x = C := ⟨_, rfl⟩
      have hCl : C.length = 4 := by rw [← hC]; exact cntC_len _ _ _ _
      have hCs : C.sum ≤ 1099511627776 := by
        rw [← hC]
        refine Nat.le_trans (cntC_sum HOK.out 4 st (by have := HNN.out; omega) (by omega) x) ?_
        exact Nat.le_trans (Nat.pow_le_pow_right (by omega) (show x ≤ 20 by omega)) (by decide)
      rw [hC] at HL0 HC0
      have HCC := hidv hC
      have j1 : (x : Int) < (X : Int) := by omega
      clear hl0 hc hbx hbe hC
      obtain ⟨W5, hW5⟩ : ∃ W, WO.alloc (.cells #[.int .i64 0, .int .i64 0, .int .i64 0, .int .i64 0] 58) = W := ⟨_, rfl⟩
      rw [hW5] at HL0 HC0 HX0 HE0
      obtain ⟨gL, hgL⟩ : ∃ g, WO.heap.size = g := ⟨_, rfl⟩
      rw [hgL] at HL0 hcs
      obtain ⟨z0, z1, z2⟩ := HX0.out.three
      go_wp2_with fail
      clear hW5
      go_loopw [39] (fun i wr => ∃ q : Nat, q ≤ N ∧ i = .int .i64 (q : Int) ∧ Hid (Bx wr gL 58 (arrN (allAdd ns C 4 q))) ∧ Hid (Bx wr gC 58 (arrN C)) ∧ Hid (Bx wr w.heap.size 27 #[.int .i64 (st : Int), .slice A N ca, .slice P M cp]) ∧ Hid (Below w.heap.size w wr)) (fun i _ => N - (intOf i).toNat)
      case atStart => exact ⟨0, by omega, rfl, HL0, HC0, HX0, HE0⟩
      case round =>
        obtain ⟨q, hq, rfl, hl, hc, hbx, hbe⟩ := hrel
        by_cases hqN : q < N
        · have hqn : q < ns.length := by have := HNN.out; omega
          obtain ⟨g, o, rfl, hg, hce⟩ := HA.out (by omega)
          obtain ⟨a, cq, e0, r0⟩ := hce q hqn
          obtain ⟨hrw, hl4, hin⟩ := row_at HOK.out q hqn
          have e1 := (hbe.out.cell (p := ⟨g, o + q, none⟩) hg).trans e0
          obtain ⟨Ar, cr, hre, hrc⟩ := r0
          simp only [Value.slice.injEq] at hre
          obtain ⟨rfl, -, rfl⟩ := hre
          obtain ⟨gr, og, rfl, hgr, hcr⟩ := hrc (by simp [ints]; omega)
          obtain ⟨row, hrow⟩ : ∃ row, ns[q] = row := ⟨_, rfl⟩
          rw [hrow] at hrw hl4 hin e1 hcr
          rw [hl4] at e1
          obtain ⟨b, hb⟩ : ∃ b, C.getD q 0 = b := ⟨_, rfl⟩
          have hbs : b ≤ 1099511627776 := by rw [← hb]; exact Nat.le_trans (getD_le_sum C q) hCs
          have cC : Hid (∀ W, Bx W gC 58 (arrN C) → W.cell? ⟨gC, q, none⟩ = some (.int .i64 (b : Int))) := hidv (fun W hW => by
            rw [hW.cell q, arrN_at C q (by omega), hb])
          have HALL := hidv (show allAdd ns C 4 (q + 1) = rowAdd (allAdd ns C 4 q) b row 4 from by rw [allAdd_succ, hb, hrw])
          have hps := allAdd_sum HOK.out C 4 (by have := HNN.out; omega) q (by omega)
          have hpl := psum_le C q
          obtain ⟨L0, hL0⟩ : ∃ L0, allAdd ns C 4 q = L0 := ⟨_, rfl⟩
          have hL0l : L0.length = 4 := by rw [← hL0]; exact allAdd_len _ _ _ _
          rw [hL0] at hl hps HALL
          have hin4 : InN L0.length row := fun j hj => by have := hin j hj; have := HNN.out; omega
          have HIN := hidv hin
          have HCR := hidv hcr
          have HRL := hidv hl4
          have HINL := hidv hin4
          have hL0s : L0.sum ≤ 4398046511104 := by omega
          have k0 : (0 : Int) ≤ (q : Int) := by omega
          have k1 : (q : Int) < (N : Int) := by omega
          have k2 : (q : Int) < 4 := by omega
          clear hce e0 hrc hcr hrow hrw hl4 hin hps hpl hL0 hin4 hb
          obtain ⟨z0, z1, z2⟩ := hbx.out.three
          go_wp2_with fail
          go_loopw [46] (fun i wr => ∃ l : Nat, l ≤ 4 ∧ i = .int .i64 (l : Int) ∧ Hid (Bx wr gL 58 (arrN (rowAdd L0 b row l))) ∧ Hid (Bx wr gC 58 (arrN C)) ∧ Hid (Bx wr w.heap.size 27 #[.int .i64 (st : Int), .slice (some ⟨g, o, none⟩) N ca, .slice P M cp]) ∧ Hid (Below w.heap.size w wr)) (fun i _ => 4 - (intOf i).toNat)
          case atStart => exact ⟨0, by omega, rfl, hl, hc, hbx, hbe⟩
          case round =>
            obtain ⟨l, hl, rfl, hll, hc2, hbx2, hbe2⟩ := hrel
            by_cases hl4 : l < 4
            · have hlr : l < row.length := by have := HRL.out; omega
              have d0 := HCR.out l _ (map_int_at hlr)
              have d1 := (hbe2.out.cell (p := ⟨gr, og + l, none⟩) hgr).trans d0
              have hti := HIN.out l hlr
              obtain ⟨T, hT⟩ : ∃ T : Nat, row[l] = (T : Int) := ⟨(row[l]).toNat, by omega⟩
              rw [hT] at d1 hti
              have hTN : T < N := by have := HNN.out; omega
              have hT4 : T < 4 := by omega
              have hRl : (rowAdd L0 b row l).length = 4 := by rw [rowAdd_len]; exact hL0l
              have hsm := rowAdd_sum L0 b row HINL.out l (by omega)
              have hgs := getD_le_sum (rowAdd L0 b row l) T
              have c1 : wr.cell? ⟨gL, T, none⟩ = some (.int .i64 ((rowAdd L0 b row l).getD T 0 : Nat)) := by
                rw [hll.out.cell T]
                exact arrN_at _ _ (by omega)
              have f1 : wr.frozen? ⟨gL, T, none⟩ = false := hll.out.frozen T
              have c2 := cC.out wr hc2.out
              have hst := addAt_arr (rowAdd L0 b row l) T b
              have hsu := rowAdd_succ L0 b row l hlr
              rw [hT, Int.toNat_natCast] at hsu
              rw [← hsu] at hst
              have hlb : l * b ≤ 4 * 1099511627776 := Nat.mul_le_mul (by omega) hbs
              obtain ⟨y, hy⟩ : ∃ y, (rowAdd L0 b row l).getD T 0 = y := ⟨_, rfl⟩
              rw [hy] at c1 hst hgs
              have HST := hidv hst
              have m0 : y ≤ 17592186044416 := by omega
              have m1 : (0 : Int) ≤ (l : Int) := by omega
              have m2 : (l : Int) < 4 := by omega
              have m3 : (0 : Int) ≤ (T : Int) := by omega
              have m4 : (T : Int) < 4 := by omega
              clear d0 hti hT hRl hsm hgs hst hsu hlb hy
              go_wp2_with fail
              go_region
              go_wp2_with fail
              go_roundw
              case rel =>
                refine ⟨l + 1, by omega, by go_num, hidv ?_, hidv (show Bx (wr.setCell _ _) gC 58 _ from hc2.out.far _ (by simp <;> omega) _), hidv (show Bx (wr.setCell _ _) w.heap.size 27 _ from hbx2.out.far _ (by simp; have := HGC.out; omega) _), hidv (Below.drew (hbe2.out.setCell (by have := HGC.out; simp; omega) _))⟩
                rw [← HST.out]
                have h := hll.out.set T (.int .i64 ((y + b : Nat) : Int))
                rw [Int.natCast_add] at h ⊢
                exact h
              case measure => simp [intOf]; omega
            · obtain rfl : l = 4 := by omega
              rw [← HALL.out] at hll
              go_wp2_with fail
              go_roundw
              case rel => exact ⟨q + 1, by omega, by go_num, hll, hc2, hbx2, hbe2⟩
              case measure => simp [intOf]; omega
        · obtain rfl : q = N := by omega
          obtain ⟨a0, a1, a2, a3, ha⟩ := four_of (allAdd_len ns C 4 q)
          obtain ⟨b0, b1, b2, b3, hb⟩ := four_of hCl
          have hnx := hidv (show cntC ns 4 st (x + 1) = [a0, a1, a2, a3] from by
            simp only [cntC]
            rw [HCC.out, HNN.out, ha])
          rw [ha] at hl
          rw [hb] at hc
          have y0 : wr.cell? ⟨gL, 0, none⟩ = some (.int .i64 (a0 : Int)) := hl.out.cell 0
          have y1 : wr.cell? ⟨gL, 1, none⟩ = some (.int .i64 (a1 : Int)) := hl.out.cell 1
          have y2 : wr.cell? ⟨gL, 2, none⟩ = some (.int .i64 (a2 : Int)) := hl.out.cell 2
          have y3 : wr.cell? ⟨gL, 3, none⟩ = some (.int .i64 (a3 : Int)) := hl.out.cell 3
          have z0 : wr.cell? ⟨gC, 0, none⟩ = some (.int .i64 (b0 : Int)) := hc.out.cell 0
          have f0 : wr.frozen? ⟨gC, 0, none⟩ = false := hc.out.frozen 0
          have z1 : wr.cell? ⟨gC, 1, none⟩ = some (.int .i64 (b1 : Int)) := hc.out.cell 1
          have f1 : wr.frozen? ⟨gC, 1, none⟩ = false := hc.out.frozen 1
          have z2 : wr.cell? ⟨gC, 2, none⟩ = some (.int .i64 (b2 : Int)) := hc.out.cell 2
          have f2 : wr.frozen? ⟨gC, 2, none⟩ = false := hc.out.frozen 2
          have z3 : wr.cell? ⟨gC, 3, none⟩ = some (.int .i64 (b3 : Int)) := hc.out.cell 3
          have f3 : wr.frozen? ⟨gC, 3, none⟩ = false := hc.out.frozen 3
          clear ha hb
          go_wp2_with fail
          go_roundw
          case rel =>
            refine ⟨x + 1, by omega, by go_num, hidv ?_, hidv ((((hbx.out.far _ (by simp; have := HGC.out; omega) _).far _ (by simp; have := HGC.out; omega) _).far _ (by simp; have := HGC.out; omega) _).far _ (by simp; have := HGC.out; omega) _), hidv ((((hbe.out.setCell (by have := HGC.out; simp; omega) _).setCell (by have := HGC.out; simp; omega) _).setCell (by have := HGC.out; simp; omega) _).setCell (by have := HGC.out; simp; omega) _)⟩
            rw [hnx.out]
            exact ((((hc.out.set 0 _).set 1 _).set 2 _).set 3 _)
          case measure => simp [intOf]; omega
    · obtain rfl : x = X := by omega
      obtain ⟨C, hC⟩ : ∃ C, cntC ns 4 st x = C := ⟨_, rfl⟩
      have hCl : C.length = 4 := by rw [← hC]; exact cntC_len _ _ _ _
      have hCs : C.sum ≤ 1099511627776 := by
        rw [← hC]
        refine Nat.le_trans (cntC_sum HOK.out 4 st (by have := HNN.out; omega) (by omega) x) ?_
        exact Nat.le_trans (Nat.pow_le_pow_right (by omega) (show x ≤ 20 by omega)) (by decide)
      have hKe : K < es.length := by have := HOK.out.2.2.1; omega
      obtain ⟨g, o, hPe, hg, hce⟩ := HP.out (by omega)
      obtain ⟨a, cq, e0, r0⟩ := hce K hKe
      have hed := HOK.out.2.2.2.2 K hKe
      have hgd : es.getD K [] = es[K] := by rw [List.getD_eq_getElem?_getD, List.getElem?_eq_getElem hKe]; rfl
      obtain ⟨ends, hends⟩ : ∃ e, es[K] = e := ⟨_, rfl⟩
      rw [hends] at hgd
      have hres : r = (esum C ends ends.length : Int) := by
        rw [HRR.out, hgd]
        have h1 := cntC_app HOK.out st (4 - ns.length) (by have := HNN.out; omega) x
        rw [show ns.length + (4 - ns.length) = 4 by have := HNN.out; omega, hC] at h1
        rw [h1, esum_app]
      rw [hends] at hed e0 r0
      have hel := rising_len hed.1 hed.2
      have hel4 : ends.length ≤ 4 := by have := HNN.out; omega
      rw [hC] at hc
      subst hPe
      have e1 := (hbe.out.cell (p := ⟨g, o + K, none⟩) hg).trans e0
      obtain ⟨Ar, cr, hre, hrc⟩ := r0
      simp only [Value.slice.injEq] at hre
      obtain ⟨rfl, -, rfl⟩ := hre
      have hM : M = 4 := by have := HOK.out.2.2.1; have := HMM.out; omega
      subst hM
      have HRES := hidv hres
      have HED := hidv hed.1
      have HRC := hidv hrc
      obtain ⟨E, hE⟩ : ∃ E, ends.length = E := ⟨_, rfl⟩
      rw [hE] at e1 hel4
      have HE := hidv hE
      have k1 : (0 : Int) ≤ (K : Int) := by omega
      have k2 : (K : Int) < 4 := by omega
      obtain ⟨z0, z1, z2⟩ := hbx.out.three
      clear hce e0 hrc hgd hends hres hed hel hE hC
      go_wp2_with fail
      go_loop [14, 68] (fun t i => ∃ q : Nat, q ≤ E ∧ i = .int .i64 (q : Int) ∧ t = .int .i64 (esum C ends q : Nat)) (fun _ i => E - (intOf i).toNat)
      case atStart => exact ⟨0, by omega, rfl, rfl⟩
      case round =>
        obtain ⟨q, hq, rfl, rfl⟩ := hrel
        by_cases hqE : q < E
        · have hqe : q < ends.length := by have := HE.out; omega
          obtain ⟨gr, og, hAr, hgr, hcr⟩ := HRC.out (by simp [ints]; omega)
          subst hAr
          have d0 := hcr q _ (map_int_at hqe)
          have d1 := (hbe.out.cell (p := ⟨gr, og + q, none⟩) hgr).trans d0
          have hti := HED.out q hqe
          obtain ⟨T, hT⟩ : ∃ T : Nat, ends[q] = (T : Int) := ⟨(ends[q]).toNat, by omega⟩
          rw [hT] at d1 hti
          have hT4 : T < 4 := by have := HNN.out; omega
          have c1 : wr.cell? ⟨gC, T, none⟩ = some (.int .i64 (C.getD T 0 : Nat)) := by
            rw [hc.out.cell T]
            exact arrN_at _ _ (by omega)
          have hsu := esum_succ C ends q hqe
          rw [hT, Int.toNat_natCast] at hsu
          have hle := esum_le C ends q (by omega)
          have hgs := getD_le_sum C T
          have hqc : q * C.sum ≤ 4 * 1099511627776 := Nat.mul_le_mul (by omega) hCs
          obtain ⟨y, hy⟩ : ∃ y, C.getD T 0 = y := ⟨_, rfl⟩
          rw [hy] at c1 hsu hgs
          obtain ⟨u, hu⟩ : ∃ u, esum C ends q = u := ⟨_, rfl⟩
          rw [hu] at hsu hle ⊢
          have HSU := hidv hsu
          have m0 : y ≤ 1099511627776 := by omega
          have m00 : u ≤ 4398046511104 := by omega
          have m1 : (0 : Int) ≤ (q : Int) := by omega
          have m2 : (q : Int) < (E : Int) := by omega
          have m3 : (0 : Int) ≤ (T : Int) := by omega
          have m4 : (T : Int) < 4 := by omega
          clear d0 hti hT hsu hle hgs hqc hy hu hcr
          go_wp2_with fail
          go_round
          case rel => exact ⟨q + 1, by omega, by go_num, by rw [HSU.out, Int.natCast_add]⟩
          case measure => simp [intOf]; omega
        · obtain rfl : q = E := by omega
          go_wp2_with fail
          go_ret2
          refine ⟨ret_int2 ?_ rfl, hbe.out⟩
          rw [HRES.out, HE.out]

end Go.Proofs.Ytncjfafailefoaa
