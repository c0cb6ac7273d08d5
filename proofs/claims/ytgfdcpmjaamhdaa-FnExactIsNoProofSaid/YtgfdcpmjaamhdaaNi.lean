/-
  Whether factors prove that a system has no solution, in the program: its loops.
-/
import Derived.Test.YtgfdcpmjaamhdaaNq
namespace Go.Proofs.Ytgfdcpmjaamhdaa
open Go.RowKit Go
set_option linter.unusedVariables false

set_option maxRecDepth 100000 in
set_option maxHeartbeats 6400000 in
theorem isProof_any (v u : Value) (S : List (List Int)) (F : List Int) (n B C : Nat) (w : World) (hv : FRow w B v S) (hB : B ≤ w.heap.size) (hu : Row w C u (ints F)) (hcap : ∀ A l cu, u = .slice A l cu → l ≤ cu) (hC : C ≤ w.heap.size) (hok : NpOk S F n) (d : Bool) (hd : d = true ↔ NpP S F n) :
    Calls Try.prog 18 #[v, u] w fun e w' => e = .returned (.bool d) ∧ Below w.heap.size w w' := by
  obtain ⟨A, cA, rfl, hA⟩ := hv
  obtain ⟨Au, cu, rfl, hAu⟩ := hu
  have hcu := hcap _ _ _ rfl
  clear hcap
  obtain ⟨L, hL⟩ : ∃ L, (ints F).length = L := ⟨_, rfl⟩
  have hL5 : L = 5 * n := by rw [← hL]; simp [ints]; exact hok.2.2.1
  have h4 := hok.1
  rw [hL] at hAu hcu ⊢
  rw [hok.2.1]
  have HSL := hidv hok.2.1
  have HA := hidv hA
  have HU := hidv hAu
  have HOK := hidv hok
  have HD := hidv hd
  have HL5 := hidv hL5
  clear hA hAu hok hd hL hL5
  have hit0 : (w.iter ABCD 0).heap[w.heap.size]? = some (.stringIter ABCD 0) := World.iter_heap w ABCD 0
  have hib0 : Below w.heap.size w (w.iter ABCD 0) := below_al (Below.refl _ _) _
  have HIT0 := hidv hit0
  have HIB0 := hidv hib0
  clear hit0 hib0
  go_enter Try.func18, Try.ntmps18
  go_wp2_with fail
  go_loopw [5] (fun q wr => ∃ c : Nat, c ≤ 4 ∧ q = .int .i64 (ltrN S F n c) ∧ Hid (wr.heap[w.heap.size]? = some (.stringIter ABCD c)) ∧ Hid (∀ c' < c, ∀ x < 4, 0 ≤ totN S F c' (4 + x) n) ∧ Hid (Below w.heap.size w wr)) (fun _ wr => 4 - wr.iterPos w.heap.size)
  case atStart => exact ⟨0, by omega, rfl, HIT0, hidv (fun c' h => by omega), HIB0⟩
  case round =>
    obtain ⟨c, hc4, rfl, hit, hall, hbe⟩ := hrel
    obtain ⟨l0, l1⟩ := ltr_bound HOK.out c hc4
    have HIP := hidv (it_pos hit.out)
    by_cases hc : c < 4
    · have HLN := hidv (show ltrN S F n (c + 1) = ltrN S F n c + totN S F c c n from rfl)
      obtain ⟨lt, hlt⟩ : ∃ q, ltrN S F n c = q := ⟨_, rfl⟩
      rw [hlt] at l0 l1 HLN ⊢
      clear hlt
      obtain ⟨rx, hnx⟩ := next_abcd wr w.heap.size c hc hit.out
      obtain ⟨W1, hW1⟩ : ∃ W, wr.iterAt w.heap.size ABCD (c + 1) = W := ⟨_, rfl⟩
      have HIT1 := hidv (show W1.heap[w.heap.size]? = some (.stringIter ABCD (c + 1)) from by rw [← hW1]; exact Lib.iterAt_heap wr _ _ _ _ hit.out)
      have HB1 := hidv (show Below w.heap.size w W1 from by rw [← hW1]; exact Lib.below_iterAt hbe.out (Nat.le_refl _) _ _)
      rw [hW1] at hnx
      clear hW1
      have HIT2 := hidv (it_alloc HIT1.out (.cells #[.int .i64 0, .int .i64 0, .int .i64 0, .int .i64 0, .int .i64 0, .int .i64 0, .int .i64 0, .int .i64 0] 49))
      have HB2 := hidv (below_al HB1.out (.cells #[.int .i64 0, .int .i64 0, .int .i64 0, .int .i64 0, .int .i64 0, .int .i64 0, .int .i64 0, .int .i64 0] 49))
      have HX2 := hidv (show Bx _ W1.heap.size 49 (arrI (sumL S F c 0)) from Bx.new W1 49 #[.int .i64 0, .int .i64 0, .int .i64 0, .int .i64 0, .int .i64 0, .int .i64 0, .int .i64 0, .int .i64 0])
      have hw1 : w.heap.size < W1.heap.size := it_lt HIT1.out
      obtain ⟨g7, hg7⟩ : ∃ g, W1.heap.size = g := ⟨_, rfl⟩
      go_wp2_with fail
      clear hnx
      rw [hg7] at HX2 hw1
      clear hg7
      go_loopw [20] (fun i wr => ∃ m : Nat, m ≤ n ∧ i = .int .i64 (m : Int) ∧ Hid (Bx wr g7 49 (arrI (sumL S F c m))) ∧ Hid (wr.heap[w.heap.size]? = some (.stringIter ABCD (c + 1))) ∧ Hid (Below w.heap.size w wr)) (fun i _ => n - (intOf i).toNat)
      case atStart => exact ⟨0, by omega, rfl, HX2, HIT2, HB2⟩
      case round =>
        obtain ⟨m, hmn, rfl, hx, hik, hbm⟩ := hrel
        by_cases hm : m < n
        · obtain ⟨gu, ou, rfl, hgu, hcu'⟩ := HU.out (by have := HL5.out; omega)
          obtain ⟨g, rfl, hg, hce⟩ := HA.out (by have := HSL.out; omega)
          obtain ⟨f0, hf0, hg0, _, _⟩ := HOK.out.fac (j := 5 * m) (by omega)
          obtain ⟨f1, hf1, hg1, _, _⟩ := HOK.out.fac (j := 5 * m + 1 + c) (by omega)
          have hw := wgt_bound HOK.out hm hc
          have hwe : wgt F m c = f0 + f1 := by unfold wgt; rw [hg0, hg1]
          rw [hwe] at hw
          have HWE := hidv hwe
          have hml : m < S.length := by have := HSL.out; omega
          have hs8 := (HOK.out.2.2.2.2 S[m] (List.getElem_mem _)).1
          obtain ⟨x0, x1, x2, x3, x4, x5, x6, x7, hS⟩ : ∃ x0 x1 x2 x3 x4 x5 x6 x7, S[m] = [x0, x1, x2, x3, x4, x5, x6, x7] := by
            match hq : S[m], hs8 with
            | [x0, x1, x2, x3, x4, x5, x6, x7], _ => exact ⟨x0, x1, x2, x3, x4, x5, x6, x7, rfl⟩
          have hd := fun k x (h : ([x0, x1, x2, x3, x4, x5, x6, x7] : List Int)[k]? = some x) => (hbm.out.cell (p := ⟨g, m * 8 + k, none⟩) (by show g < _; omega)).trans (hce m hml k x (by rw [hS]; exact h))
          have d0 : wr.cell? ⟨g, m * 8, none⟩ = some (.int .i64 x0) := hd 0 x0 rfl
          have d1 := hd 1 x1 rfl
          have d2 := hd 2 x2 rfl
          have d3 := hd 3 x3 rfl
          have d4 := hd 4 x4 rfl
          have d5 := hd 5 x5 rfl
          have d6 := hd 6 x6 rfl
          have d7 := hd 7 x7 rfl
          have HSV := hidv (show ∀ k < 8, ∃ x : Int, ([x0, x1, x2, x3, x4, x5, x6, x7] : List Int)[k]? = some x ∧ (S.getD m []).getD k 0 = x ∧ -24 ≤ x ∧ x ≤ 24 from fun k hk => by
            obtain ⟨_, x, _, h1, h2, h3, h4⟩ := HOK.out.row hm hk
            exact ⟨x, by rw [← hS]; exact h1, h2, h3, h4⟩)
          have k0 : wr.cell? ⟨gu, ou + m * 5, none⟩ = some (.int .i64 f0) := (hbm.out.cell (p := ⟨gu, _, none⟩) (by show gu < _; omega)).trans (hcu' _ _ (ints_at (by rw [Nat.mul_comm]; exact hf0)))
          have k1 : wr.cell? ⟨gu, ou + m * 5 + (1 + c), none⟩ = some (.int .i64 f1) := by
            rw [show ou + m * 5 + (1 + c) = ou + (5 * m + 1 + c) by omega]
            exact (hbm.out.cell (p := ⟨gu, _, none⟩) (by show gu < _; omega)).trans (hcu' _ _ (ints_at hf1))
          have i1 : (0 : Int) ≤ (m : Int) := by omega
          have i2 : (m : Int) < (n : Int) := by omega
          have i3 : (0 : Int) ≤ (m : Int) * 5 := by omega
          have i4 : (m : Int) * 5 ≤ (L : Int) := by have := HL5.out; omega
          have i5 : (0 : Int) < ((L - m * 5 : Nat) : Int) := by have := HL5.out; omega
          have i6 : 1 + (c : Int) < ((L - m * 5 : Nat) : Int) := by have := HL5.out; omega
          have i7 : (0 : Int) ≤ 1 + (c : Int) := by omega
          have n1 : ((m : Int) * 5).toNat = m * 5 := by omega
          have n2 : (1 + (c : Int)).toNat = 1 + c := by omega
          have i8 : (L : Int) ≤ (cu : Int) := by omega
          obtain ⟨W3, hW3⟩ : ∃ W, wr.alloc (.cells #[.int .i64 x0, .int .i64 x1, .int .i64 x2, .int .i64 x3, .int .i64 x4, .int .i64 x5, .int .i64 x6, .int .i64 x7] 49) = W := ⟨_, rfl⟩
          have hbx9 : Bx W3 wr.heap.size 49 #[.int .i64 x0, .int .i64 x1, .int .i64 x2, .int .i64 x3, .int .i64 x4, .int .i64 x5, .int .i64 x6, .int .i64 x7] := by rw [← hW3]; exact Bx.new wr _ _
          have hba : Below wr.heap.size wr W3 := by rw [← hW3]; exact below_al (Below.refl _ _) _
          have k0' := (hba.cell (p := ⟨gu, ou + m * 5, none⟩) (World.block_lt_of_cell? _ _ k0)).trans k0
          have k1' := (hba.cell (p := ⟨gu, ou + m * 5 + (1 + c), none⟩) (World.block_lt_of_cell? _ _ k1)).trans k1
          have e0 := hbx9.cell 0
          have e1 := hbx9.cell 1
          have e2 := hbx9.cell 2
          have e3 := hbx9.cell 3
          have e4 := hbx9.cell 4
          have e5 := hbx9.cell 5
          have e6 := hbx9.cell 6
          have e7 := hbx9.cell 7
          have HB3 := hidv (below_on hbm.out hba)
          have HIK3 := hidv (it_below hik.out hba)
          have HX3 := hidv (show Bx W3 g7 49 (arrI (stg S F c m 0)) from by rw [stg_zero]; exact hx.out.below hba)
          obtain ⟨w1, w2⟩ := hw
          clear hce hd hS hs8 hbx9 hf0 hf1 hg0 hg1 hwe hcu' k0 k1 hba
          go_wp2_with fail
          clear hW3
          go_quiet (fail)
          go_wp2_with fail
          obtain ⟨OV, hOV⟩ : ∃ OV : Array Value, #[.int .i64 x0, .int .i64 x1, .int .i64 x2, .int .i64 x3, .int .i64 x4, .int .i64 x5, .int .i64 x6, .int .i64 x7] = OV := ⟨_, rfl⟩
          have HIX := hidv (fun k x (hk : k < 8) (h : ([x0, x1, x2, x3, x4, x5, x6, x7] : List Int)[k]? = some x) W => ix8 OV k (.int .i64 x) hk (by rw [← hOV]; exact arrI_get [x0, x1, x2, x3, x4, x5, x6, x7] k h) W)
          rw [hOV]
          clear hOV d0 d1 d2 d3 d4 d5 d6 d7 e0 e1 e2 e3 e4 e5 e6 e7 k0' k1'
          go_loopw [39] (fun i wr => ∃ k : Nat, k ≤ 8 ∧ i = .int .i64 (k : Int) ∧ Hid (Bx wr g7 49 (arrI (stg S F c m k))) ∧ Hid (wr.heap[w.heap.size]? = some (.stringIter ABCD (c + 1))) ∧ Hid (Below w.heap.size w wr)) (fun i _ => 8 - (intOf i).toNat)
          case atStart => exact ⟨0, by omega, rfl, hidv (show Bx (W3.drewN _) _ _ _ from HX3.out), hidv (show (W3.drewN _).heap[w.heap.size]? = _ from HIK3.out), hidv (below_drewN HB3.out _)⟩
          case round =>
            obtain ⟨k, hk8, rfl, hx, hik, hbk⟩ := hrel
            by_cases hk : k < 8
            · obtain ⟨x, hx1, hsg, s0, s1⟩ := HSV.out k hk
              have hix := HIX.out k x hk hx1
              obtain ⟨t0, t1⟩ := tot_bound HOK.out hc hk m hmn
              obtain ⟨p0, p1⟩ := mul_bound w1 w2 s0 s1
              have hst : totN S F c k (m + 1) = totN S F c k m + (f0 + f1) * x := by
                show totN S F c k m + wgt F m c * (S.getD m []).getD k 0 = _
                rw [HWE.out, hsg]
              have cx : wr.cell? ⟨g7, k, none⟩ = some (.int .i64 (totN S F c k m)) := (hx.out.cell k).trans (arrI_get _ _ (stg_at S F c m k hk))
              have fx : wr.frozen? ⟨g7, k, none⟩ = false := hx.out.frozen k
              have hss := stg_set S F c m k hk
              obtain ⟨P, hP⟩ : ∃ P, (f0 + f1) * x = P := ⟨_, rfl⟩
              have ew : IntKind.i64.wrap ((f0 + f1) * x) = P := by rw [hP]; rw [hP] at p0 p1; exact IntWalk.i64_in _ (by omega)
              rw [hP] at p0 p1 hst
              rw [hst] at hss
              obtain ⟨t, ht⟩ : ∃ t, totN S F c k m = t := ⟨_, rfl⟩
              rw [ht] at t0 t1 cx hss
              have HSS := hidv hss
              have j1 : (0 : Int) ≤ (k : Int) := by omega
              have j2 : (k : Int) < 8 := by omega
              clear hss hst ht hP hx1 hsg
              go_wp2_with fail
              go_roundw
              case rel =>
                refine ⟨k + 1, by omega, by go_num, hidv ?_, hidv (it_far hik.out _ (by simp; omega) _), hidv (hbk.out.setCell (by simp; omega) _)⟩
                rw [← HSS.out, ← arrI_set]
                exact hx.out.set k _
              case measure => simp [intOf]; omega
            · obtain rfl : k = 8 := by omega
              rw [stg_eight] at hx
              go_wp2_with fail
              go_roundw
              case rel => exact ⟨m + 1, by omega, by go_num, hx, hik, hbk⟩
              case measure => simp [intOf]; omega
        · obtain rfl : n = m := by omega
          have hrow : Row wr (g7 + 1) (.slice (some ⟨g7, 4, none⟩) 4 4) (ints [totN S F c 4 n, totN S F c 5 n, totN S F c 6 n, totN S F c 7 n]) := ⟨_, _, rfl, fun _ => ⟨g7, 4, rfl, Nat.lt_succ_self _, fun j y hy => (hx.out.cell (4 + j)).trans (by
            rw [sumL_eight]
            match j, hy with
            | 0, hy => exact hy
            | 1, hy => exact hy
            | 2, hy => exact hy
            | 3, hy => exact hy)⟩⟩
          have HM := hidv (minI_any _ _ _ wr hrow (by simp) (by simp))
          have ccx : wr.cell? ⟨g7, c, none⟩ = some (.int .i64 (totN S F c c n)) := (hx.out.cell c).trans (arrI_get _ _ (by unfold sumL; simp [show c < 8 by omega]))
          obtain ⟨t0, t1⟩ := tot_bound HOK.out hc (k := c) (by omega) n (Nat.le_refl _)
          have i1 : (0 : Int) ≤ (c : Int) := by omega
          have i2 : (c : Int) < 8 := by omega
          have HLIM := hidv (fun q (hq : q < 8) => tot_bound HOK.out hc hq n (Nat.le_refl _))
          clear hrow
          go_wp2_with fail
          refine HM.out.mono ?_
          rintro e w5 ⟨mm, rfl, hme, hml, rfl⟩
          have hmb : -(432 * (n : Int)) ≤ mm ∧ mm ≤ 432 * (n : Int) := by
            simp only [List.mem_cons, List.not_mem_nil, or_false] at hme
            rcases hme with rfl | rfl | rfl | rfl
            · exact HLIM.out 4 (by omega)
            · exact HLIM.out 5 (by omega)
            · exact HLIM.out 6 (by omega)
            · exact HLIM.out 7 (by omega)
          have HME := hidv hme
          have HML := hidv hml
          obtain ⟨m0, m1⟩ := hmb
          clear hme hml
          by_cases hneg : mm < 0
          · obtain rfl : d = false := iffNo HD.out (fun h => by
              have h2 := h.1 c hc
              have hme := HME.out
              simp only [List.mem_cons, List.not_mem_nil, or_false] at hme
              rcases hme with rfl | rfl | rfl | rfl
              · have : 0 ≤ totN S F c 4 n := h2 0 (by omega)
                omega
              · have : 0 ≤ totN S F c 5 n := h2 1 (by omega)
                omega
              · have : 0 ≤ totN S F c 6 n := h2 2 (by omega)
                omega
              · have : 0 ≤ totN S F c 7 n := h2 3 (by omega)
                omega)
            go_wp2_with fail
            go_ret
            exact ⟨rfl, hbm.out⟩
          · have hall2 : ∀ c' < c + 1, ∀ x < 4, 0 ≤ totN S F c' (4 + x) n := fun c' h x hx => by
              rcases Nat.lt_or_ge c' c with h2 | h2
              · exact hall.out c' h2 x hx
              · obtain rfl : c' = c := by omega
                have hx4 : x = 0 ∨ x = 1 ∨ x = 2 ∨ x = 3 := by omega
                rcases hx4 with rfl | rfl | rfl | rfl
                · show 0 ≤ totN S F c' 4 n
                  have := HML.out (totN S F c' 4 n) (by simp)
                  omega
                · show 0 ≤ totN S F c' 5 n
                  have := HML.out (totN S F c' 5 n) (by simp)
                  omega
                · show 0 ≤ totN S F c' 6 n
                  have := HML.out (totN S F c' 6 n) (by simp)
                  omega
                · show 0 ≤ totN S F c' 7 n
                  have := HML.out (totN S F c' 7 n) (by simp)
                  omega
            have HAL := hidv hall2
            have HIPN := hidv (it_pos hik.out)
            obtain ⟨t, ht⟩ : ∃ t, totN S F c c n = t := ⟨_, rfl⟩
            rw [ht] at t0 t1 ccx HLN
            clear hall2 ht
            go_wp2_with fail
            go_roundw
            case rel => exact ⟨c + 1, by omega, by rw [HLN.out], hik, HAL, hbm⟩
            case measure => rw [HIP.out, HIPN.out]; omega
    · obtain rfl : c = 4 := by omega
      have hnx : ∀ ty, (Instr.next (.pointer (some ⟨w.heap.size, 0, none⟩)) true ty).run Try.prog wr = .ok (.tuple #[.bool false]) wr := fun ty => Lib.run_next_end_at wr w.heap.size ABCD 4 ty hit.out (by decide)
      have hfin : d = decide (0 < ltrN S F n 4) := by
        rw [Bool.eq_iff_iff, HD.out, decide_eq_true_iff]
        exact ⟨fun h => h.2, fun h => ⟨hall.out, h⟩⟩
      obtain ⟨lt, hlt⟩ : ∃ q, ltrN S F n 4 = q := ⟨_, rfl⟩
      rw [hlt] at l0 l1 hfin ⊢
      have HFI := hidv hfin
      clear hlt hfin
      go_wp2_with fail
      go_ret
      exact ⟨ret_bool (by rw [HFI.out]), hbe.out⟩

end Go.Proofs.Ytgfdcpmjaamhdaa
