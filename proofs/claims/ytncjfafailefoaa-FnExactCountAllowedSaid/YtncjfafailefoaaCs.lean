/-
  CountAllowed, of the model: a contract.
-/
import Derived.Test.YtncjfafailefoaaCa
import Derived.Test.YtncjfafailefoaaMk
import Derived.Test.YtncjfafailefoaaL5
namespace Go.Proofs.Ytncjfafailefoaa
open Go.RowKit Go
set_option linter.unusedVariables false

def vn (C : List Nat) : List Value := C.map fun n : Nat => Value.int .i64 (n : Int)
theorem vn_len (C : List Nat) : (vn C).length = C.length := by simp [vn]
theorem vn_at (C : List Nat) (t : Nat) (h : t < C.length) : (vn C)[t]? = some (.int .i64 (C.getD t 0 : Nat)) := by
  simp [vn, h, List.getD_eq_getElem?_getD]
theorem vn_add (C : List Nat) (t x : Nat) : (vn C).set t (.int .i64 ((C.getD t 0 + x : Nat) : Int)) = vn (addAt C t x) := by
  simp [vn, addAt]

theorem vn_zero (N : Nat) : vn (List.replicate N 0) = List.replicate N (.int .i64 0) := by simp [vn]
theorem made_vn {w : World} {base N g : Nat} (h : w.ownsRow base 2 1 (.slice (some ⟨g, 0, none⟩) N N) N (madeCells (Value.int .i64 0).cells (N * 1)).toList) : w.ownsRow base 2 1 (.slice (some ⟨g, 0, none⟩) N N) N (vn (List.replicate N 0)) := by
  rw [vn_zero, ← toList_madeCells_one, ← Nat.mul_one N]
  rw [Nat.mul_one] at h ⊢
  exact h
theorem rep_getD (m t : Nat) : (List.replicate m 0 : List Nat).getD t 0 = 0 := by
  rw [List.getD_eq_getElem?_getD, List.getElem?_replicate]
  split <;> rfl

set_option maxRecDepth 100000 in
set_option maxHeartbeats 3200000 in
theorem specCount_any (v : Value) (s : Int) (ns es : List (List Int)) (B : Nat) (k n : Int) (w : World) (hv : Bnd w B v s ns es) (hB : B ≤ w.heap.size) (hn : RowsMax maxLen ns) (hp : RowsMax maxLen es) (r c : Int) (hR : CountR s ns es k n r c) :
    Calls Try.prog 26 #[v, .int .i64 k, .int .i64 n] w fun e w' => e = .returned (.tuple #[.int .i64 r, .int .i64 c]) ∧ Below w.heap.size w w' := by
  obtain ⟨i0, hi, hz0, hz1, hz2⟩ := info_parts Try.infoI5
  obtain ⟨va, vb, rfl, hv1, hu1⟩ := hv.more hB
  obtain ⟨A, ca, rfl, hA⟩ := hv1.at
  obtain ⟨P, cp, rfl, hP⟩ := hu1.at
  have hb : Below w.heap.size w (w.alloc (.cells #[.int .i64 s, .slice A ns.length ca, .slice P es.length cp] 27)) := (Below.refl _ _).alloc (by simp) _
  have hbx := Bx.new w 27 #[.int .i64 s, .slice A ns.length ca, .slice P es.length cp]
  obtain ⟨d1, hd1⟩ := iffB (BndOk s ns es)
  have HD1 := hidv hd1
  have HR := hidv hR
  have C1 := hidv (l05Ok_any w.heap.size s ns es A P ca cp w.heap.size _ hbx.three.1 hbx.three.2.1 hbx.three.2.2 (hv1.below hb) (hu1.below hb) hn hp d1 hd1)
  obtain ⟨N, hnn⟩ : ∃ n, ns.length = n := ⟨_, rfl⟩
  obtain ⟨M, hmm⟩ : ∃ m, es.length = m := ⟨_, rfl⟩
  have HA := hidv hA
  have HP := hidv hP
  rw [hnn, hmm] at hb hbx C1 ⊢
  have HNN := hidv hnn
  have HMM := hidv hmm
  obtain ⟨W, hW⟩ : ∃ W, w.alloc (.cells #[.int .i64 s, .slice A N ca, .slice P M cp] 27) = W := ⟨_, rfl⟩
  rw [hW] at C1 hb hbx
  have HB := hidv hb
  have HBX := hidv hbx
  have HWW := hidv hW
  clear hv hv1 hu1 hn hp hR hd1 hbx hb hW hA hP hnn hmm
  go_enter Try.func26, Try.ntmps26
  go_wp2_with fail
  rw [HWW.out]
  refine C1.out.mono ?_
  rintro e w1 ⟨rfl, q, hw1⟩
  have HB1 := hidv (show Below w.heap.size w w1 from by rw [hw1]; exact below_drewN HB.out q)
  have HBX1 := hidv (show Bx w1 w.heap.size 27 #[.int .i64 s, .slice A N ca, .slice P M cp] from by rw [hw1]; exact HBX.out)
  clear hw1
  cases d1
  · obtain ⟨rfl, rfl⟩ := HR.out.1 (fun h => absurd (HD1.out.mpr h) (by simp))
    go_wp2_with fail
    go_ret2
    exact ⟨rfl, HB1.out⟩
  have HOK := hidv (show BndOk s ns es from HD1.out.mp (by trivial))
  obtain ⟨d3, hd3⟩ := iffB ((0 : Int) ≤ k ∧ k ≤ 3)
  have HD3 := hidv hd3
  clear hd3
  go_wp2_with fail
  refine (l00In2_any k 0 3 _ d3 HD3.out).mono ?_
  rintro e w2 ⟨rfl, hw2⟩
  obtain rfl : w1 = w2 := hw2.symm
  cases d3
  · obtain ⟨rfl, rfl⟩ := HR.out.2.1 HOK.out (fun h => absurd (HD3.out.mpr ⟨h.1.1, by omega⟩) (by simp))
    go_wp2_with fail
    go_ret2
    exact ⟨rfl, HB1.out⟩
  obtain ⟨d4, hd4⟩ := iffB ((0 : Int) ≤ n ∧ n ≤ 20)
  have HD4 := hidv hd4
  clear hd4
  go_wp2_with fail
  refine (l00In2_any n 0 20 _ d4 HD4.out).mono ?_
  rintro e w2 ⟨rfl, hw2⟩
  obtain rfl : w1 = w2 := hw2.symm
  cases d4
  · obtain ⟨rfl, rfl⟩ := HR.out.2.1 HOK.out (fun h => absurd (HD4.out.mpr ⟨h.2.1, by omega⟩) (by simp))
    go_wp2_with fail
    go_ret2
    exact ⟨rfl, HB1.out⟩
  have hk4 := HD3.out.mp (by trivial)
  have hn21 := HD4.out.mp (by trivial)
  obtain ⟨hr, rfl⟩ := HR.out.2.2 HOK.out ⟨⟨hk4.1, by omega⟩, ⟨hn21.1, by omega⟩⟩
  obtain ⟨K, rfl⟩ : ∃ K : Nat, k = (K : Int) := ⟨k.toNat, by omega⟩
  obtain ⟨X, rfl⟩ : ∃ K : Nat, n = (K : Int) := ⟨n.toNat, by omega⟩
  obtain ⟨st, hst⟩ : ∃ st : Nat, s = (st : Int) := ⟨s.toNat, by have := HOK.out.2.1; omega⟩
  have hstn : st < N := by have := HOK.out.2.1; have := HNN.out; omega
  have hN4 : N ≤ 4 := by have := HOK.out.1.2; have := HNN.out; omega
  have hK4 : K < 4 := by omega
  have hX20 : X ≤ 20 := by omega
  subst hst
  rw [Int.toNat_natCast, Int.toNat_natCast, Int.toNat_natCast] at hr
  have HRR := hidv hr
  clear hr hk4 hn21
  have hsz1 := HBX1.out.lt
  obtain ⟨z0, z1, z2⟩ := HBX1.out.three
  go_wp2_with (at_make; refine wpList_make_full _ rfl _ _ 32 rfl w1.heap.size 2 i0 (.int .i64 0) 1 Try.underlying32 hi hz0 hz1 _ _ _ _ N rfl rfl rfl rfl (by rw [hz2]; omega) (by unfold maxLen; omega) (Nat.le_refl _) ?_; intro w0 hown0 hgr0; have hx0 := HBX1.out.grown hgr0 (by simp); obtain ⟨y0, y1, y2⟩ := hx0.three; have hmade := made_vn hown0; have cst : w0.cell? ⟨w1.heap.size, st, none⟩ = some (.int .i64 0) := (by rw [hmade.cellAt st (by omega), vn_at _ _ (by simp; omega), rep_getD]; rfl); have fst := hmade.frozenAt st)
  have hbs0 := below_grown hgr0 (Nat.le_refl _) (fun k hk => by cases hk)
  have hst0 : (w0.setCell ⟨w1.heap.size, st, none⟩ (.int .i64 1)).ownsRow w1.heap.size 2 1 (.slice (some ⟨w1.heap.size, 0, none⟩) N N) N (vn (cntC ns N st 0)) := by
    have h := (hmade.stored st (.int .i64 ((1 : Nat) : Int))).1
    have h2 := vn_add (List.replicate N 0) st 1
    rw [rep_getD] at h2
    rw [show (0 + 1 : Nat) = 1 from rfl] at h2
    rw [h2] at h
    exact h
  have HS0 := hidv (own_wider hst0 (show w.heap.size + 1 ≤ w1.heap.size by omega))
  have HX0 := hidv (hx0.far ⟨w1.heap.size, st, none⟩ (by show w1.heap.size ≠ _; omega) (.int .i64 1))
  have HE0 := hidv ((HB1.out.trans (hbs0.mono HB1.out.size)).setCell (p := ⟨w1.heap.size, st, none⟩) (by show w.heap.size ≤ w1.heap.size; omega) (.int .i64 1))
  clear hown0 hgr0 hx0 hmade cst fst hst0 hbs0 y0 y1 y2
  go_loopw [8, 9] (fun v i wr => ∃ (x g : Nat), x ≤ X ∧ i = .int .i64 (x : Int) ∧ v = .slice (some ⟨g, 0, none⟩) N N ∧ Hid (wr.ownsRow (w.heap.size + 1) 2 1 (.slice (some ⟨g, 0, none⟩) N N) N (vn (cntC ns N st x))) ∧ Hid (Bx wr w.heap.size 27 #[.int .i64 (st : Int), .slice A N ca, .slice P M cp]) ∧ Hid (Below w.heap.size w wr)) (fun _ i _ => X - (intOf i).toNat)
  case atStart => exact ⟨0, _, by omega, rfl, rfl, HS0, HX0, HE0⟩
  case round =>
    obtain ⟨x, g, hx, rfl, rfl, hc, hbx, hbe⟩ := hrel
    by_cases hlt : x < X
    · obtain ⟨WO, hWO⟩ : ∃ W, wr = W := ⟨_, rfl⟩
      rw [hWO] at hc hbx hbe ⊢
      clear hWO
      have hgl := World.ownsRow.lt hc.out g rfl
      obtain ⟨C, hC⟩ : ∃ C, cntC ns N st x = C := ⟨_, rfl⟩
      have hCl : C.length = N := by rw [← hC]; exact cntC_len _ _ _ _
      have hCs : C.sum ≤ 1099511627776 := by
        rw [← hC]
        refine Nat.le_trans (cntC_sum HOK.out N st (by have := HNN.out; omega) (by omega) x) ?_
        exact Nat.le_trans (Nat.pow_le_pow_right (by omega) (show x ≤ 20 by omega)) (by decide)
      rw [hC] at hc
      have HCC := hidv hC
      have j1 : (x : Int) < (X : Int) := by omega
      obtain ⟨z0, z1, z2⟩ := hbx.out.three
      clear hC
      go_wp2_with (at_make; refine wpList_make_full _ rfl _ _ 32 rfl WO.heap.size 2 i0 (.int .i64 0) 1 Try.underlying32 hi hz0 hz1 _ _ _ _ N rfl rfl rfl rfl (by rw [hz2]; omega) (by unfold maxLen; omega) (Nat.le_refl _) ?_; intro w0 hown0 hgr0)
      obtain ⟨gL, hgL⟩ : ∃ g, WO.heap.size = g := ⟨_, rfl⟩
      have HL0 := hidv (show w0.ownsRow gL 2 1 (.slice (some ⟨gL, 0, none⟩) N N) N (vn (allAdd ns C N 0)) from by rw [allAdd_zero, ← hgL]; exact made_vn hown0)
      have HC0 := hidv (own_apart hc.out hgr0 (fun k hk => by simp))
      have HX0 := hidv (hbx.out.grown hgr0 (by simp))
      have HE0 := hidv (hbe.out.trans ((below_grown hgr0 (Nat.le_refl _) (fun k hk => by cases hk)).mono hbe.out.size))
      rw [hgL] at hgl ⊢
      clear hown0 hgr0 hc hbx hbe hgL
      go_loopw [11] (fun i wr => ∃ q : Nat, q ≤ N ∧ i = .int .i64 (q : Int) ∧ Hid (wr.ownsRow gL 2 1 (.slice (some ⟨gL, 0, none⟩) N N) N (vn (allAdd ns C N q))) ∧ Hid (wr.ownsRow (w.heap.size + 1) 2 1 (.slice (some ⟨g, 0, none⟩) N N) N (vn C)) ∧ Hid (Bx wr w.heap.size 27 #[.int .i64 (st : Int), .slice A N ca, .slice P M cp]) ∧ Hid (Below w.heap.size w wr)) (fun i _ => N - (intOf i).toNat)
      case atStart => exact ⟨0, by omega, rfl, HL0, HC0, HX0, HE0⟩
      case round =>
        obtain ⟨q, hq, rfl, hl, hc, hbx, hbe⟩ := hrel
        by_cases hqN : q < N
        · have hqn : q < ns.length := by have := HNN.out; omega
          obtain ⟨gA, oA, rfl, hgA, hce⟩ := HA.out (by omega)
          obtain ⟨a, cq, e0, r0⟩ := hce q hqn
          obtain ⟨hrw, hl4, hin⟩ := row_at HOK.out q hqn
          obtain ⟨Ar, cr, hre, hrc⟩ := r0
          simp only [Value.slice.injEq] at hre
          obtain ⟨rfl, -, rfl⟩ := hre
          obtain ⟨gr, og, rfl, hgr, hcr⟩ := hrc (by simp [ints]; omega)
          obtain ⟨row, hrow⟩ : ∃ row, ns[q] = row := ⟨_, rfl⟩
          rw [hrow] at hrw hl4 hin e0 hcr
          rw [hl4] at e0
          obtain ⟨b, hb⟩ : ∃ b, C.getD q 0 = b := ⟨_, rfl⟩
          have hbs : b ≤ 1099511627776 := by rw [← hb]; exact Nat.le_trans (getD_le_sum C q) hCs
          have cC : Hid (∀ W, World.ownsRow W (w.heap.size + 1) 2 1 (.slice (some ⟨g, 0, none⟩) N N) N (vn C) → W.cell? ⟨g, q, none⟩ = some (.int .i64 (b : Int))) := hidv (fun W hW => by
            rw [hW.cellAt q (by omega), vn_at C q (by omega), hb])
          have HALL := hidv (show allAdd ns C N (q + 1) = rowAdd (allAdd ns C N q) b row 4 from by rw [allAdd_succ, hb, hrw])
          have hps := allAdd_sum HOK.out C N (by have := HNN.out; omega) q (by omega)
          have hpl := psum_le C q
          obtain ⟨L0, hL0⟩ : ∃ L0, allAdd ns C N q = L0 := ⟨_, rfl⟩
          have hL0l : L0.length = N := by rw [← hL0]; exact allAdd_len _ _ _ _
          rw [hL0] at hl hps HALL
          have hin4 : InN L0.length row := fun j hj => by have := hin j hj; have := HNN.out; omega
          have HIN := hidv hin
          have HCR := hidv hcr
          have HRL := hidv hl4
          have HINL := hidv hin4
          have HE1 := hidv e0
          have hL0s : L0.sum ≤ 4398046511104 := by omega
          have k0 : (0 : Int) ≤ (q : Int) := by omega
          have k1 : (q : Int) < (N : Int) := by omega
          clear hce e0 hrc hcr hrow hrw hl4 hin hps hpl hL0 hin4 hb
          go_wp2_with fail
          go_loopw [12] (fun i wr => ∃ l : Nat, l ≤ 4 ∧ i = .int .i64 (l : Int) ∧ Hid (wr.ownsRow gL 2 1 (.slice (some ⟨gL, 0, none⟩) N N) N (vn (rowAdd L0 b row l))) ∧ Hid (wr.ownsRow (w.heap.size + 1) 2 1 (.slice (some ⟨g, 0, none⟩) N N) N (vn C)) ∧ Hid (Bx wr w.heap.size 27 #[.int .i64 (st : Int), .slice (some ⟨gA, oA, none⟩) N ca, .slice P M cp]) ∧ Hid (Below w.heap.size w wr)) (fun i _ => 4 - (intOf i).toNat)
          case atStart => exact ⟨0, by omega, rfl, hl, hc, hbx, hbe⟩
          case round =>
            obtain ⟨l, hl, rfl, hll, hc2, hbx2, hbe2⟩ := hrel
            by_cases hl4 : l < 4
            · have hlr : l < row.length := by have := HRL.out; omega
              have d0 := HCR.out l _ (map_int_at hlr)
              have d1 := (hbe2.out.cell (p := ⟨gr, og + l, none⟩) hgr).trans d0
              have e1 := (hbe2.out.cell (p := ⟨gA, oA + q, none⟩) hgA).trans HE1.out
              have hti := HIN.out l hlr
              obtain ⟨T, hT⟩ : ∃ T : Nat, row[l] = (T : Int) := ⟨(row[l]).toNat, by omega⟩
              rw [hT] at d1 hti
              have hTN : T < N := by have := HNN.out; omega
              have hRl : (rowAdd L0 b row l).length = N := by rw [rowAdd_len]; exact hL0l
              have hsm := rowAdd_sum L0 b row HINL.out l (by omega)
              have hgs := getD_le_sum (rowAdd L0 b row l) T
              have c1 : wr.cell? ⟨gL, T, none⟩ = some (.int .i64 ((rowAdd L0 b row l).getD T 0 : Nat)) := by
                rw [hll.out.cellAt T (by omega)]
                exact vn_at _ _ (by omega)
              have f1 : wr.frozen? ⟨gL, T, none⟩ = false := hll.out.frozenAt T
              have c2 := cC.out wr hc2.out
              have hst := vn_add (rowAdd L0 b row l) T b
              have hsu := rowAdd_succ L0 b row l hlr
              rw [hT, Int.toNat_natCast] at hsu
              rw [← hsu] at hst
              have hlb : l * b ≤ 4 * 1099511627776 := Nat.mul_le_mul (by omega) hbs
              obtain ⟨y, hy⟩ : ∃ y, (rowAdd L0 b row l).getD T 0 = y := ⟨_, rfl⟩
              rw [hy] at c1 hst hgs
              have HST := hidv hst
              have m0 : y ≤ 17592186044416 := by omega
              have m1 : (0 : Int) ≤ (l : Int) := by omega
              have m2 : (l : Int) < 4 := by omega
              have m3 : (0 : Int) ≤ (T : Int) := by omega
              have m4 : (T : Int) < (N : Int) := by omega
              obtain ⟨z0, z1, z2⟩ := hbx2.out.three
              clear d0 hti hT hRl hsm hgs hst hsu hlb hy
              go_wp2_with fail
              go_region
              go_wp2_with fail
              go_roundw
              case rel =>
                refine ⟨l + 1, by omega, by go_num, hidv ?_, hidv (show World.ownsRow (wr.setCell ⟨gL, T, none⟩ _) (w.heap.size + 1) 2 1 _ N _ from own_apart hc2.out (grown_setCell wr gL T _) (fun k hk he => by
                  have h1 : some g = some k := hk
                  injection h1 with h1
                  injection he with he
                  omega)), hidv (show Bx (wr.setCell _ _) w.heap.size 27 _ from hbx2.out.far _ (by simp <;> omega) _), hidv (Below.drew (hbe2.out.setCell (by simp <;> omega) _))⟩
                rw [← HST.out]
                have h := (hll.out.stored T (.int .i64 ((y + b : Nat) : Int))).1
                rw [Int.natCast_add] at h ⊢
                exact h
              case measure => simp [intOf]; omega
            · obtain rfl : l = 4 := by omega
              rw [← HALL.out] at hll
              go_wp2_with fail
              go_roundw
              case rel => exact ⟨q + 1, by omega, by go_num, hll, hc2, hbx2, hbe2⟩
              case measure => simp [intOf]; omega
        · obtain rfl : q = N := by omega
          have hnx := hidv (show cntC ns q st (x + 1) = allAdd ns C q q from by
            simp only [cntC]
            rw [HCC.out, HNN.out])
          have HOW := hidv (own_wider hl.out (show w.heap.size + 1 ≤ gL by omega))
          go_wp2_with fail
          go_roundw
          case rel =>
            refine ⟨x + 1, gL, by omega, by go_num, rfl, hidv ?_, hbx, hbe⟩
            rw [hnx.out]
            exact HOW.out
          case measure => simp [intOf]; omega
    · obtain rfl : x = X := by omega
      obtain ⟨C, hC⟩ : ∃ C, cntC ns N st x = C := ⟨_, rfl⟩
      have hCl : C.length = N := by rw [← hC]; exact cntC_len _ _ _ _
      have hCs : C.sum ≤ 1099511627776 := by
        rw [← hC]
        refine Nat.le_trans (cntC_sum HOK.out N st (by have := HNN.out; omega) (by omega) x) ?_
        exact Nat.le_trans (Nat.pow_le_pow_right (by omega) (show x ≤ 20 by omega)) (by decide)
      have hKe : K < es.length := by have := HOK.out.2.2.1; omega
      obtain ⟨gP, o, hPe, hg, hce⟩ := HP.out (by omega)
      obtain ⟨a, cq, e0, r0⟩ := hce K hKe
      have hed := HOK.out.2.2.2.2 K hKe
      have hgd : es.getD K [] = es[K] := by rw [List.getD_eq_getElem?_getD, List.getElem?_eq_getElem hKe]; rfl
      obtain ⟨ends, hends⟩ : ∃ e, es[K] = e := ⟨_, rfl⟩
      rw [hends] at hgd
      have hres : r = (esum C ends ends.length : Int) := by
        rw [HRR.out, hgd, HNN.out, hC]
      rw [hends] at hed e0 r0
      have hel := rising_len hed.1 hed.2
      have hel4 : ends.length ≤ 4 := by have := HNN.out; omega
      rw [hC] at hc
      subst hPe
      have e1 := (hbe.out.cell (p := ⟨gP, o + K, none⟩) hg).trans e0
      obtain ⟨Ar, cr, hre, hrc⟩ := r0
      simp only [Value.slice.injEq] at hre
      obtain ⟨rfl, -, rfl⟩ := hre
      have hM : M = 4 := by have := HOK.out.2.2.1; have := HMM.out; omega
      subst hM
      have HRES := hidv hres
      have HED := hidv hed.1
      have HRC := hidv hrc
      obtain ⟨E, hE⟩ : ∃ E, ends.length = E := ⟨_, rfl⟩
      rw [hE] at e1 hel4
      have HE := hidv hE
      have k1 : (0 : Int) ≤ (K : Int) := by omega
      have k2 : (K : Int) < 4 := by omega
      obtain ⟨z0, z1, z2⟩ := hbx.out.three
      clear hce e0 hrc hgd hends hres hed hel hE hC
      go_wp2_with fail
      go_loop [13, 14] (fun t i => ∃ q : Nat, q ≤ E ∧ i = .int .i64 (q : Int) ∧ t = .int .i64 (esum C ends q : Nat)) (fun _ i => E - (intOf i).toNat)
      case atStart => exact ⟨0, by omega, rfl, rfl⟩
      case round =>
        obtain ⟨q, hq, rfl, rfl⟩ := hrel
        by_cases hqE : q < E
        · have hqe : q < ends.length := by have := HE.out; omega
          obtain ⟨gr, og, hAr, hgr, hcr⟩ := HRC.out (by simp [ints]; omega)
          subst hAr
          have d0 := hcr q _ (map_int_at hqe)
          have d1 := (hbe.out.cell (p := ⟨gr, og + q, none⟩) hgr).trans d0
          have hti := HED.out q hqe
          obtain ⟨T, hT⟩ : ∃ T : Nat, ends[q] = (T : Int) := ⟨(ends[q]).toNat, by omega⟩
          rw [hT] at d1 hti
          have hTN : T < N := by have := HNN.out; omega
          have c1 : wr.cell? ⟨g, T, none⟩ = some (.int .i64 (C.getD T 0 : Nat)) := by
            rw [hc.out.cellAt T (by omega)]
            exact vn_at _ _ (by omega)
          have hsu := esum_succ C ends q hqe
          rw [hT, Int.toNat_natCast] at hsu
          have hle := esum_le C ends q (by omega)
          have hgs := getD_le_sum C T
          have hqc : q * C.sum ≤ 4 * 1099511627776 := Nat.mul_le_mul (by omega) hCs
          obtain ⟨y, hy⟩ : ∃ y, C.getD T 0 = y := ⟨_, rfl⟩
          rw [hy] at c1 hsu hgs
          obtain ⟨u, hu⟩ : ∃ u, esum C ends q = u := ⟨_, rfl⟩
          rw [hu] at hsu hle ⊢
          have HSU := hidv hsu
          have m0 : y ≤ 1099511627776 := by omega
          have m00 : u ≤ 4398046511104 := by omega
          have m1 : (0 : Int) ≤ (q : Int) := by omega
          have m2 : (q : Int) < (E : Int) := by omega
          have m3 : (0 : Int) ≤ (T : Int) := by omega
          have m4 : (T : Int) < (N : Int) := by omega
          clear d0 hti hT hsu hle hgs hqc hy hu hcr
          go_wp2_with fail
          go_round
          case rel => exact ⟨q + 1, by omega, by go_num, by rw [HSU.out, Int.natCast_add]⟩
          case measure => simp [intOf]; omega
        · obtain rfl : q = E := by omega
          go_wp2_with fail
          go_ret2
          refine ⟨ret_int2 ?_ rfl, hbe.out⟩
          rw [HRES.out, HE.out]

end Go.Proofs.Ytncjfafailefoaa
