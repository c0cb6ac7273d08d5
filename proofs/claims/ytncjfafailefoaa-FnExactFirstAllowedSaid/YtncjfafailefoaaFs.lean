/-
  FirstAllowed, of the model: a contract.
-/
import Derived.Test.YtncjfafailefoaaFa
import Derived.Test.YtncjfafailefoaaMk
import Derived.Laws.BytesArg
import Derived.Deep.RegionHeldLaw
import Derived.Deep.AppendLies
namespace Go.Proofs.Ytncjfafailefoaa
open Go.RowKit Go
set_option linter.unusedVariables false

theorem byte_conv5 (W : World) (y : Int) : (convert 67 9 (.slice (some ⟨W.heap.size, 0, none⟩) 1 1)).run Try.prog (W.alloc (.cells #[.int .u8 y] 5)) = .ok (.string (strOfNums [y])) (W.alloc (.cells #[.int .u8 y] 5)) :=
  run_convert_bytes_arg (W.alloc (.cells #[.int .u8 y] 5)) 67 5 Try.underlying67 Try.underlying5 W.heap.size 0 1 1 [y] rfl (fun i hi => by
    obtain rfl : i = 0 := by omega
    rw [cell_of_row _ _ _ _ _ _ (heap_alloc_new W _)]
    rfl) 9 Try.underlying9
theorem Try.infoSF : (Try.prog.info? 9).map (fun i => (i.zero, i.size, i.bytes)) = some (some (.string ⟨#[]⟩), 1, 16) := by kernel_rfl
theorem one_newF (w : World) (o : Obj) (x : Value) (t : TypeId) : ∀ (j : Nat) (y : Value), [x][j]? = some y → ((w.alloc o).alloc (.cells #[x] t)).cell? ((⟨w.heap.size + 1, 0, none⟩ : Addr).add j) = some y := by
  intro j y hu
  have := one_new5 (w.alloc o) x t j y hu
  rw [World.size_alloc] at this
  exact this
theorem one_cellF (x : ByteArray) : ∀ y : Value, y ∈ [Value.string x] → y.oneCell' = true := by
  intro y hu
  obtain rfl : y = _ := by simpa using hu
  rfl
theorem ltr_str {l : Nat} (h : l < 4) : strOfNums [97 + (l : Int)] = ltr l := by
  have h4 : l = 0 ∨ l = 1 ∨ l = 2 ∨ l = 3 := by omega
  rcases h4 with rfl | rfl | rfl | rfl <;> rfl
theorem u8_ltr {l : Nat} (h : l < 4) : IntKind.u8.wrap (97 + (l : Int)) = 97 + (l : Int) := by
  have h1 : ∀ x : Int, IntKind.u8.wrap x = x % 256 := fun x => by kernel_rfl
  rw [h1]
  omega
/-- The states and the words that were met, as cells. -/
def stV (M : List (Int × ByteArray)) : List Value := ints (M.map Prod.fst)
def wdV (M : List (Int × ByteArray)) : List Value := M.map fun a => Value.string a.2
theorem stV_at {M : List (Int × ByteArray)} {i : Nat} {a : Int × ByteArray} (h : M[i]? = some a) : (stV M)[i]? = some (.int .i64 a.1) := by simp [stV, ints, h]
theorem wdV_at {M : List (Int × ByteArray)} {i : Nat} {a : Int × ByteArray} (h : M[i]? = some a) : (wdV M)[i]? = some (.string a.2) := by simp [wdV, h]
theorem stV_app (M : List (Int × ByteArray)) (a : Int × ByteArray) : stV (M ++ [a]) = stV M ++ [.int .i64 a.1] := by simp [stV, ints]
theorem wdV_app (M : List (Int × ByteArray)) (a : Int × ByteArray) : wdV (M ++ [a]) = wdV M ++ [.string a.2] := by simp [wdV]

set_option maxRecDepth 100000 in
set_option maxHeartbeats 3200000 in
theorem specFirst_any (v : Value) (s : Int) (ns es : List (List Int)) (B : Nat) (k : Int) (w : World) (hv : Bnd w B v s ns es) (hB : B ≤ w.heap.size) (hn : RowsMax maxLen ns) (hp : RowsMax maxLen es) (r : ByteArray) (c : Int) (hR : FirstR s ns es k r c) :
    Calls Try.prog 24 #[v, .int .i64 k] w fun e w' => e = .returned (.tuple #[.string r, .int .i64 c]) ∧ Below w.heap.size w w' := by
  obtain ⟨i0, hi, hz0, hz1, hz2⟩ := info_parts Try.infoI5
  obtain ⟨j0, hj, hy0, hy1, hy2⟩ := info_parts Try.infoSF
  obtain ⟨va, vb, rfl, hv1, hu1⟩ := hv.more hB
  obtain ⟨A, ca, rfl, hA⟩ := hv1.at
  obtain ⟨P, cp, rfl, hP⟩ := hu1.at
  have hb : Below w.heap.size w (w.alloc (.cells #[.int .i64 s, .slice A ns.length ca, .slice P es.length cp] 27)) := (Below.refl _ _).alloc (by simp) _
  have hbx := Bx.new w 27 #[.int .i64 s, .slice A ns.length ca, .slice P es.length cp]
  obtain ⟨d1, hd1⟩ := iffB (BndOk s ns es)
  have HD1 := hidv hd1
  have HR := hidv hR
  have C1 := hidv (l05Ok_any w.heap.size s ns es A P ca cp w.heap.size _ hbx.three.1 hbx.three.2.1 hbx.three.2.2 (hv1.below hb) (hu1.below hb) hn hp d1 hd1)
  obtain ⟨N, hnn⟩ : ∃ n, ns.length = n := ⟨_, rfl⟩
  obtain ⟨M, hmm⟩ : ∃ m, es.length = m := ⟨_, rfl⟩
  have HA := hidv hA
  have HP := hidv hP
  have HPM := hidv hp
  rw [hnn, hmm] at hb hbx C1 ⊢
  have HNN := hidv hnn
  have HMM := hidv hmm
  obtain ⟨W, hW⟩ : ∃ W, w.alloc (.cells #[.int .i64 s, .slice A N ca, .slice P M cp] 27) = W := ⟨_, rfl⟩
  rw [hW] at C1 hb hbx
  have HB := hidv hb
  have HBX := hidv hbx
  have HWW := hidv hW
  clear hv hv1 hu1 hn hp hR hd1 hbx hb hW hA hP hnn hmm
  go_enter Try.func24, Try.ntmps24
  go_wp2_with fail
  rw [HWW.out]
  refine C1.out.mono ?_
  rintro e w1 ⟨rfl, q, hw1⟩
  have HB1 := hidv (show Below w.heap.size w w1 from by rw [hw1]; exact below_drewN HB.out q)
  have HBX1 := hidv (show Bx w1 w.heap.size 27 #[.int .i64 s, .slice A N ca, .slice P M cp] from by rw [hw1]; exact HBX.out)
  clear hw1
  cases d1
  · obtain ⟨rfl, rfl⟩ := HR.out.1 (fun h => absurd (HD1.out.mpr h) (by simp))
    go_wp2_with fail
    go_ret2
    exact ⟨rfl, HB1.out⟩
  have HOK := hidv (show BndOk s ns es from HD1.out.mp (by trivial))
  obtain ⟨d3, hd3⟩ := iffB ((0 : Int) ≤ k ∧ k ≤ 3)
  have HD3 := hidv hd3
  clear hd3
  go_wp2_with fail
  refine (l00In2_any k 0 3 _ d3 HD3.out).mono ?_
  rintro e w2 ⟨rfl, hw2⟩
  obtain rfl : w1 = w2 := hw2.symm
  cases d3
  · obtain ⟨rfl, rfl⟩ := HR.out.2.1 HOK.out (fun h => absurd (HD3.out.mpr ⟨h.1, by omega⟩) (by simp))
    go_wp2_with fail
    go_ret2
    exact ⟨rfl, HB1.out⟩
  have hk4 := HD3.out.mp (by trivial)
  have hr := HR.out.2.2 HOK.out ⟨hk4.1, by omega⟩
  obtain ⟨K, rfl⟩ : ∃ K : Nat, k = (K : Int) := ⟨k.toNat, by omega⟩
  have hsn : 0 ≤ s ∧ s < (N : Int) := by have := HOK.out.2.1; have := HNN.out; omega
  have hN4 : N ≤ 4 := by have := HOK.out.1.2; have := HNN.out; omega
  have hN0 : 0 < N := by omega
  have hM4 : M = 4 := by have := HOK.out.2.2.1; have := HMM.out; omega
  subst hM4
  have hK4 : K < 4 := by omega
  have hKe : K < es.length := by have := HMM.out; omega
  obtain ⟨gP, oP, hPe, hgP, hceP⟩ := HP.out (by omega)
  subst hPe
  obtain ⟨gA, oA, hAe, hgA, hceA⟩ := HA.out (by have := HNN.out; omega)
  subst hAe
  obtain ⟨aE, cE, e0, r0⟩ := hceP K hKe
  have hgd : es.getD K [] = es[K] := by rw [List.getD_eq_getElem?_getD, List.getElem?_eq_getElem hKe]; rfl
  have hel := HPM.out.2 es[K] (List.getElem_mem _)
  obtain ⟨ends, hends⟩ : ∃ e, es[K] = e := ⟨_, rfl⟩
  rw [hends] at hgd e0 r0 hel
  rw [Int.toNat_natCast, hgd] at hr
  have EC := hidv (fun W (hW : Below w.heap.size w W) (y : Int) (d : Bool) (hd : d = true ↔ y ∈ ends) => has5_any _ ends y w.heap.size W (r0.below hW) hel d hd)
  have E1 := hidv (fun W (hW : Below w.heap.size w W) => (hW.cell (p := ⟨gP, oP + K, none⟩) hgP).trans e0)
  have HCA := hidv hceA
  have HRS := hidv hr
  have HMK := hidv (MOk.one (n := N) hsn.1 hsn.2)
  have hsz1 := HBX1.out.lt
  obtain ⟨z0, z1, z2⟩ := HBX1.out.three
  have HM0 := hidv (World.ownsRow.alloc (World.ownsRow_lit (e := 2) (size := 1) (base := w.heap.size + 1) w1 #[.int .i64 s] 1 (by omega) (by unfold maxLen; omega) rfl) (.cells #[.string ⟨#[]⟩] 9))
  have hu0 := World.ownsRow_lit (e := 9) (size := 1) (base := w.heap.size + 1) (w1.alloc (.cells #[.int .i64 s] 2)) #[.string ⟨#[]⟩] 1 (by simp; omega) (by unfold maxLen; omega) rfl
  rw [World.size_alloc] at hu0
  have HU0 := hidv hu0
  have HX0 := hidv ((HBX1.out.alloc (.cells #[.int .i64 s] 2)).alloc (.cells #[.string ⟨#[]⟩] 9))
  have HE0 := hidv (below_al (below_al HB1.out (.cells #[.int .i64 s] 2)) (.cells #[.string ⟨#[]⟩] 9))
  clear hu0 hr hk4 hgd hends e0 r0 hel hceP hceA HP HA HPM
  go_wp2_with fail
  go_loopw [6, 7, 8] (fun v u ij wr => ∃ (i f : Nat) (L : List (Int × ByteArray)), ij = .int .i64 (i : Int) ∧ i + f = 5 ∧ 1 ≤ L.length ∧ Hid (MOk N L) ∧ Hid (resA ns ends f i L = (r, c)) ∧ Hid (World.ownsRow wr (w.heap.size + 1) 2 1 v L.length (stV L)) ∧ Hid (World.ownsRow wr (w.heap.size + 1) 9 1 u L.length (wdV L)) ∧ Hid (Bx wr w.heap.size 27 #[.int .i64 s, .slice (some ⟨gA, oA, none⟩) N ca, .slice (some ⟨gP, oP, none⟩) 4 cp]) ∧ Hid (Below w.heap.size w wr)) (fun _ _ i _ => 5 - (intOf i).toNat)
  case atStart => exact ⟨0, 5, [(s, ⟨#[]⟩)], rfl, rfl, by simp, HMK, HRS, HM0, HU0, HX0, HE0⟩
  case round =>
    obtain ⟨i, f, L, rfl, hif, hL1, hok, hres, hm, hu, hbx, hbe⟩ := hrel
    obtain ⟨WO, hWO⟩ : ∃ W, wr = W := ⟨_, rfl⟩
    rw [hWO] at hm hu hbx hbe ⊢
    clear hWO
    obtain ⟨gm, cm, rfl, hgm1, hgm2⟩ := hm.out.form (by omega)
    obtain ⟨gu, cu, rfl, hgu1, hgu2⟩ := hu.out.form (by omega)
    have hL4 := hok.out.len
    obtain ⟨z0, z1, z2⟩ := hbx.out.three
    by_cases hlt : i < L.length
    · obtain ⟨f, rfl⟩ : ∃ g, f = g + 1 := ⟨f - 1, by omega⟩
      have hLi := List.getElem?_eq_getElem hlt
      have hin := hok.out.ins L[i] (List.getElem_mem _)
      have hhit := fun h => resA_hit (ns := ns) (e := ends) (f := f) hlt h
      have hon := fun h => resA_on (ns := ns) (e := ends) (f := f) hlt h
      have hat := fun (row : List Int) (x : ByteArray) l => rowA_at (row := row) (x := x) hlt l
      obtain ⟨⟨y, x⟩, hyx⟩ : ∃ a, L[i] = a := ⟨_, rfl⟩
      rw [hyx] at hLi hin hhit hon hat
      rw [hres.out] at hhit hon
      dsimp only at hin hhit hon
      obtain ⟨T, rfl⟩ : ∃ T : Nat, y = (T : Int) := ⟨y.toNat, by omega⟩
      rw [Int.toNat_natCast] at hon
      have hxs : x.size ≤ 4 := by omega
      have hxl : x.size ≤ L.length := hin.2.2
      have c1 : WO.cell? ⟨gm, i, none⟩ = some (.int .i64 (T : Int)) := by
        rw [hm.out.cellAt i (by omega), stV_at hLi]
      have c2 : WO.cell? ⟨gu, i, none⟩ = some (.string x) := by
        rw [hu.out.cellAt i (by omega), wdV_at hLi]
      obtain ⟨d, hd⟩ := iffB ((T : Int) ∈ ends)
      have CD := hidv (fun q => EC.out (WO.drewN q) (below_drewN hbe.out q) (T : Int) d hd)
      have e1 := E1.out WO hbe.out
      have i1 : (0 : Int) ≤ (K : Int) := by omega
      have i2 : (K : Int) < 4 := by omega
      have i3 : (0 : Int) ≤ (i : Int) := by omega
      have i4 : (i : Int) < (L.length : Int) := by omega
      have HHIT := hidv hhit
      have HON := hidv hon
      have HAT := hidv hat
      have hTn : T < ns.length := by have := HNN.out; omega
      have HD := hidv hd
      clear hd hhit hon hat hyx hLi
      go_wp2_with fail
      go_quiet (first | (go_at_call 46; exact Calls.quiet_of_same (CD.out _)))
      cases d
      · obtain ⟨hrw, hl4, hir⟩ := row_at HOK.out T hTn
        have hon2 := HON.out (fun h => absurd (HD.out.mpr h) (by simp))
        rw [hrw] at hon2
        obtain ⟨ar, cr, a0, ra0⟩ := HCA.out T hTn
        obtain ⟨row, hrow⟩ : ∃ row, ns[T] = row := ⟨_, rfl⟩
        rw [hrow] at hl4 hir hon2 a0 ra0
        rw [hl4] at a0 ra0
        obtain ⟨_, _, hre, hrc⟩ := ra0
        simp only [Value.slice.injEq] at hre
        obtain ⟨rfl, -, rfl⟩ := hre
        obtain ⟨gr, og, rfl, hgr, hcr⟩ := hrc (by simp [ints]; omega)
        have HON2 := hidv hon2.symm
        have HIR := hidv hir
        have HRL := hidv hl4
        have HCR := hidv hcr
        have hgetD : ∀ j, j < 4 → ∃ h : j < row.length, row.getD j 0 = row[j] := fun j hj => ⟨by omega, by rw [List.getD_eq_getElem?_getD, List.getElem?_eq_getElem (show j < row.length by omega)]; rfl⟩
        have HGD := hidv hgetD
        have HRI := hidv (show ∀ j, j < 4 → 0 ≤ row.getD j 0 ∧ row.getD j 0 < (N : Int) from fun j hj => by
          obtain ⟨h1, h2⟩ := hgetD j hj
          have h3 := hir j h1
          have := HNN.out
          rw [h2]
          omega)
        clear hon2 hir hl4 hrow hrw hrc hcr hgetD
        go_wp2_with fail
        go_loopw [6, 7, 9] (fun v u lj wr => ∃ l : Nat, l ≤ 4 ∧ lj = .int .i64 (l : Int) ∧ Hid (World.ownsRow wr (w.heap.size + 1) 2 1 v (rowA row x L l).length (stV (rowA row x L l))) ∧ Hid (World.ownsRow wr (w.heap.size + 1) 9 1 u (rowA row x L l).length (wdV (rowA row x L l))) ∧ Hid (Bx wr w.heap.size 27 #[.int .i64 s, .slice (some ⟨gA, oA, none⟩) N ca, .slice (some ⟨gP, oP, none⟩) 4 cp]) ∧ Hid (Below w.heap.size w wr)) (fun _ _ i _ => 4 - (intOf i).toNat)
        case atStart => exact ⟨0, by omega, rfl, hidv (show World.ownsRow (World.drewN WO _) (w.heap.size + 1) 2 1 _ L.length (stV L) from hm.out), hidv (show World.ownsRow (World.drewN WO _) (w.heap.size + 1) 9 1 _ L.length (wdV L) from hu.out), hidv (show Bx (World.drewN WO _) w.heap.size 27 #[.int .i64 s, .slice (some ⟨gA, oA, none⟩) N ca, .slice (some ⟨gP, oP, none⟩) 4 cp] from hbx.out), hidv (below_drewN hbe.out _)⟩
        case round =>
          clear hm hu hbx hbe c1 c2 e1 z0 z1 z2
          obtain ⟨l, hl, rfl, hm, hu, hbx, hbe⟩ := hrel
          obtain ⟨W5, hW5⟩ : ∃ W, wr = W := ⟨_, rfl⟩
          rw [hW5] at hm hu hbx hbe ⊢
          clear hW5
          have hRl := rowA_len row x L l
          have hRat := HAT.out row x l
          have hRok := hok.out.row (row := row) hxl (l := l) (fun j hj => HRI.out j (by omega))
          have hRsu : rowA row x L (l + 1) = metA row x (rowA row x L l) l := rfl
          by_cases hl4 : l < 4
          · obtain ⟨R, hR⟩ : ∃ R, rowA row x L l = R := ⟨_, rfl⟩
            rw [hR] at hm hu hRl hRat hRok hRsu
            have hR4 := hRok.len
            obtain ⟨g1, k1, rfl, hg11, hg12⟩ := hm.out.form (by omega)
            obtain ⟨g2, k2, rfl, hg21, hg22⟩ := hu.out.form (by omega)
            have c1 : W5.cell? ⟨g1, i, none⟩ = some (.int .i64 (T : Int)) := by
              rw [hm.out.cellAt i (by omega), stV_at hRat]
            have c2 := fun W (h : World.ownsRow W (w.heap.size + 1) 9 1 (.slice (some ⟨g2, 0, none⟩) R.length k2) R.length (wdV R)) => show W.cell? ⟨g2, i, none⟩ = some (.string x) from by
              rw [h.cellAt i (by omega), wdV_at hRat]
            have C2 := hidv c2
            obtain ⟨hlr, hgd⟩ := HGD.out l hl4
            have d0 := HCR.out l _ (map_int_at hlr)
            have d1 := (hbe.out.cell (p := ⟨gr, og + l, none⟩) hgr).trans d0
            have d2 := (hbe.out.cell (p := ⟨gA, oA + T, none⟩) hgA).trans a0
            obtain ⟨t, ht⟩ : ∃ t, row[l] = t := ⟨_, rfl⟩
            rw [ht] at d1 hgd
            obtain ⟨b, hb⟩ := iffB (t ∈ R.map Prod.fst)
            have CB := hidv (fun q => has5_any _ (R.map Prod.fst) t _ (W5.drewN q) (Row.of_own (show World.ownsRow (W5.drewN q) (w.heap.size + 1) 2 1 (.slice (some ⟨g1, 0, none⟩) R.length k1) R.length (stV R) from hm.out)) (by rw [List.length_map]; unfold maxLen; omega) b hb)
            obtain ⟨z0, z1, z2⟩ := hbx.out.three
            have j1 : (0 : Int) ≤ (T : Int) := by omega
            have j2 : (T : Int) < (N : Int) := by omega
            have j3 : (0 : Int) ≤ (l : Int) := by omega
            have j4 : (l : Int) < 4 := by omega
            have j5 : (i : Int) < (R.length : Int) := by omega
            have HB := hidv hb
            have HOLD := hidv (fun h => metA_old (row := row) (x := x) (M := R) (l := l) (by rw [hgd]; exact h))
            have HNEW := hidv (fun h => metA_new (row := row) (x := x) (M := R) (l := l) (by rw [hgd]; exact h))
            rw [← hRsu] at HOLD HNEW
            rw [hgd] at HNEW
            clear d0 ht hgd hb c2 hRat hRok hRsu hR
            go_wp2_with fail
            go_quiet (fail)
            go_wp2_with fail
            refine (CB.out _).mono ?_
            rintro e w2 ⟨rfl, hw2⟩
            have HM6 := hidv (show World.ownsRow w2 (w.heap.size + 1) 2 1 (.slice (some ⟨g1, 0, none⟩) R.length k1) R.length (stV R) from by rw [hw2]; exact hm.out)
            have HU6 := hidv (show World.ownsRow w2 (w.heap.size + 1) 9 1 (.slice (some ⟨g2, 0, none⟩) R.length k2) R.length (wdV R) from by rw [hw2]; exact hu.out)
            have HX6 := hidv (show Bx w2 w.heap.size 27 #[.int .i64 s, .slice (some ⟨gA, oA, none⟩) N ca, .slice (some ⟨gP, oP, none⟩) 4 cp] from by rw [hw2]; exact hbx.out)
            have HE6 := hidv (show Below w.heap.size w w2 from by rw [hw2]; exact below_drewN hbe.out _)
            clear hw2 hm hu hbx hbe c1 d1 d2 z0 z1 z2
            cases b
            · have HN2 := hidv (HNEW.out (fun h => absurd (HB.out.mpr h) (by simp)))
              have hcv := fun (W : World) (y : Int) => show (convert 67 9 (.slice (some ⟨W.heap.size, 0, none⟩) 1 1)).run Try.prog (W.alloc (.cells #[.int .u8 y] 5)).drew = .ok (.string (strOfNums [y])) (W.alloc (.cells #[.int .u8 y] 5)).drew from byte_conv5 W.drew y
              have hw64 : IntKind.i64.wrap (97 + (l : Int)) = 97 + (l : Int) := IntWalk.i64_in _ (by omega)
              have hu8 := u8_ltr hl4
              have hbig : ¬ (9223372036854775807 < x.size + 1) := by omega
              have hss : (strOfNums [97 + (l : Int)]).size = 1 := rfl
              go_wp2_with (at_builtin; refine wpList_append_own _ rfl (.tmp 59) (.tmp 61) 32 rfl (w.heap.size + 1) 2 i0 (.int .i64 0) 1 8 Try.underlying32 hi hz0 hz1 hz2 rfl (by decide) _ _ _ rfl (HM6.out.alloc _) ⟨w2.heap.size, 0, none⟩ 1 1 [.int .i64 t] rfl rfl (one_new5 w2 _ _) (one_cell5 _) ?_ ?_ ?_ ?_; (unfold maxLen; omega); omega; (rw [World.size_alloc]; have := HE6.out.size; omega); intro v1 w3 hown1 hgr1 _; have hgr1 : World.grownBy _ w3 (some g1) := hgr1; have hu7 := own_kinds (HM6.out.alloc _) (HU6.out.alloc _) (by decide) hgr1; have hx7 := (HX6.out.alloc _).grown hgr1 (by simp; omega); have he7 := grow5 HE6.out (own_wider HM6.out (by omega)) hgr1)
              have hu8d : Hid (World.ownsRow w3.drew (w.heap.size + 1) 9 1 (.slice (some ⟨g2, 0, none⟩) R.length k2) R.length (wdV R)) := hu7
              have hs7 : w.heap.size ≤ w3.heap.size := he7.size
              have hk0 : w3.cell? ⟨g2, i, none⟩ = some (.string x) := C2.out _ hu7
              have hk1 : (w3.alloc (.cells #[.int .u8 (97 + (l : Int))] 5)).cell? ⟨g2, i, none⟩ = some (.string x) := C2.out _ (World.ownsRow.alloc hu7 _)
              go_region_law (first | (refine step_append_lies (o := ⟨some 75, _, _, _, _, _⟩) _ (by rfl) (.tmp 63) (.tmp 74) 65 (by rfl) (w.heap.size + 1) 9 j0 (.string ⟨#[]⟩) 1 16 Try.underlying65 hj hy0 hy1 hy2 rfl (by decide) _ _ _ (by rfl) ((hu8d.out.alloc _).alloc _) ⟨w3.drew.heap.size + 1, 0, none⟩ 1 1 [.string (x ++ strOfNums [97 + (l : Int)])] (by rfl) rfl (one_newF w3.drew _ _ _) (one_cellF _) (by decide) (by unfold maxLen; omega) (by omega) (by have := hs7; simp; omega) (w3.drew.heap.size + 2) (by simp) ?_; intro v4 cap4 w4 hown4 hgr4 hat4 hlt4))
              all_goals
                have hgr4 : World.grownBy _ w4 (some g2) := hgr4
                have HM8 := hidv (own_kinds ((hu8d.out.alloc _).alloc _) (((show World.ownsRow w3.drew (w.heap.size + 1) 2 1 v1 (R.length + 1) (stV R ++ [.int .i64 t]) from hown1).alloc _).alloc _) (by decide) hgr4)
                have HU8 := hidv hown4
                have HX8 := hidv ((((show Bx w3.drew w.heap.size 27 #[.int .i64 s, .slice (some ⟨gA, oA, none⟩) N ca, .slice (some ⟨gP, oP, none⟩) 4 cp] from hx7).alloc _).alloc _).grown hgr4 (by simp; omega))
                have hb8 := below_al (below_al (show Below w.heap.size w w3.drew from Below.drew he7) (.cells #[.int .u8 (97 + (l : Int))] 5)) (.cells #[.string (x ++ strOfNums [97 + (l : Int)])] 9)
                have HE8 := hidv (hb8.grown hgr4 hb8.size (fun k hk => by cases hk; omega))
                clear hown4 hgr4 hat4 hlt4 hb8 hk0 hk1 hu8d hown1 hgr1 hu7 hx7 he7
                go_wp2_with fail
                go_roundw
                case rel =>
                  refine ⟨l + 1, by omega, by go_num, hidv ?_, hidv ?_, HX8, HE8⟩
                  · rw [HN2.out, stV_app, List.length_append, List.length_singleton]
                    exact HM8.out
                  · rw [HN2.out, wdV_app, List.length_append, List.length_singleton, ← ltr_str hl4]
                    exact HU8.out
                case measure => simp [intOf]; omega
            · have HO2 := hidv (HOLD.out (HB.out.mp (by trivial)))
              go_wp2_with fail
              go_roundw
              case rel => exact ⟨l + 1, by omega, by go_num, hidv (by rw [HO2.out]; exact HM6.out), hidv (by rw [HO2.out]; exact HU6.out), HX6, HE6⟩
              case measure => simp [intOf]; omega
          · obtain rfl : l = 4 := by omega
            have hR4 := hRok.len
            obtain ⟨g1, k1, rfl, hg11, hg12⟩ := hm.out.form (by omega)
            go_wp2_with fail
            go_roundw
            case rel => exact ⟨i + 1, f, rowA row x L 4, by go_num, by omega, by omega, hidv hRok, HON2, hm, hu, hbx, hbe⟩
            case measure => simp [intOf]; omega
      · have h := HHIT.out (HD.out.mp (by trivial))
        simp only [Prod.mk.injEq] at h
        obtain ⟨rfl, rfl⟩ := h
        go_wp2_with fail
        go_ret2
        exact ⟨rfl, below_drewN hbe.out _⟩
    · have h := hres.out
      rw [resA_end (by omega)] at h
      simp only [Prod.mk.injEq] at h
      obtain ⟨rfl, rfl⟩ := h
      go_wp2_with fail
      go_ret2
      exact ⟨rfl, hbe.out⟩

end Go.Proofs.Ytncjfafailefoaa
