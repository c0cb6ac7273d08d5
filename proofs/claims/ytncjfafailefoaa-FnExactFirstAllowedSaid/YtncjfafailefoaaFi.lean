/-
  FirstAllowed, of the program: a contract.
-/
import Derived.Test.YtncjfafailefoaaFc
import Derived.BigQuiet
import Derived.Deep.RegionLaw
import Derived.Deep.AppendLies
namespace Go.Proofs.Ytncjfafailefoaa
open Go.RowKit Go
set_option linter.unusedVariables false

theorem abcd_at {l : Nat} (h : l < 4) (W : World) : (Instr.slice 9 (.string ⟨#[97, 98, 99, 100]⟩) (some (.int .i64 (l : Int))) (some (.int .i64 ((l : Int) + 1))) none).run Try.prog W = .ok (.string (ltr l)) W := by
  have h4 : l = 0 ∨ l = 1 ∨ l = 2 ∨ l = 3 := by omega
  rcases h4 with rfl | rfl | rfl | rfl <;> rfl

set_option maxRecDepth 100000 in
set_option maxHeartbeats 3200000 in
theorem implFirst_any (v : Value) (s : Int) (ns es : List (List Int)) (B : Nat) (k : Int) (w : World) (hv : Bnd w B v s ns es) (hB : B ≤ w.heap.size) (hn : RowsMax maxLen ns) (hp : RowsMax maxLen es) (r : ByteArray) (c : Int) (hR : FirstR s ns es k r c) :
    Calls Try.prog 25 #[v, .int .i64 k] w fun e w' => e = .returned (.tuple #[.string r, .int .i64 c]) ∧ Below w.heap.size w w' := by
  obtain ⟨j0, hj, hy0, hy1, hy2⟩ := info_parts Try.infoAr
  obtain ⟨A, ca, P, cp, rfl⟩ := (hv.more hB).form
  have hv2 := hv.more hB
  obtain ⟨_, _, hvv, hvA, hvP⟩ := id hv2
  simp only [Value.agg.injEq, Array.mk.injEq, List.cons.injEq, and_true] at hvv
  obtain ⟨-, rfl, rfl⟩ := hvv
  obtain ⟨_, _, hve, hA⟩ := hvA.at
  simp only [Value.slice.injEq] at hve
  obtain ⟨rfl, -, rfl⟩ := hve
  obtain ⟨_, _, hue, hP⟩ := hvP.at
  simp only [Value.slice.injEq] at hue
  obtain ⟨rfl, -, rfl⟩ := hue
  have HA := hidv hA
  have HP := hidv hP
  have HPM := hidv hp.2
  obtain ⟨d1, hd1⟩ := iffB (BndOk s ns es)
  have HD1 := hidv hd1
  have HR := hidv hR
  have C1 := hidv (fun W (hW : Below w.heap.size w W) => implVB_any _ s ns es w.heap.size W (hv2.below hW) hW.size hn hp d1 hd1)
  obtain ⟨N, hnn⟩ : ∃ n, ns.length = n := ⟨_, rfl⟩
  obtain ⟨M, hmm⟩ : ∃ m, es.length = m := ⟨_, rfl⟩
  rw [hnn, hmm] at C1 ⊢
  have HNN := hidv hnn
  have HMM := hidv hmm
  have hbx := Bx.new w 27 #[.int .i64 s, .slice A N ca, .slice P M cp]
  have hb : Below w.heap.size w (w.alloc (.cells #[.int .i64 s, .slice A N ca, .slice P M cp] 27)) := (Below.refl _ _).alloc (by simp) _
  obtain ⟨W, hW⟩ : ∃ W, w.alloc (.cells #[.int .i64 s, .slice A N ca, .slice P M cp] 27) = W := ⟨_, rfl⟩
  rw [hW] at hbx hb
  have HB := hidv hb
  have HBX := hidv hbx
  have HWW := hidv hW
  clear hv hv2 hn hp hR hd1 hbx hb hW hnn hmm hvA hvP hA hP
  go_enter Try.func25, Try.ntmps25
  go_wp2_with fail
  rw [HWW.out]
  refine (C1.out _ HB.out).mono ?_
  rintro e w1 ⟨rfl, hb1⟩
  have HB1 := hidv (below_on HB.out hb1)
  have HBX1 := hidv (HBX.out.below hb1)
  clear hb1
  cases d1
  · obtain ⟨rfl, rfl⟩ := HR.out.1 (fun h => absurd (HD1.out.mpr h) (by simp))
    go_wp2_with fail
    go_ret2
    exact ⟨rfl, HB1.out⟩
  have HOK := hidv (show BndOk s ns es from HD1.out.mp (by trivial))
  obtain ⟨d3, hd3⟩ := iffB (InN 4 [k])
  have HD3 := hidv hd3
  clear hd3
  go_wp2_with fail
  have HB2 := hidv (HB1.out.alloc HB1.out.size (.cells #[.int .i64 k] 2))
  have HBX2 := hidv (HBX1.out.alloc (.cells #[.int .i64 k] 2))
  refine (areBelow_any _ [k] _ 4 _ (one_row k _ (Bx.new w1 2 #[.int .i64 k])) (by simp [maxLen]) d3 HD3.out).mono ?_
  rintro e w2 ⟨rfl, hw2⟩
  obtain ⟨W2, hW2⟩ : ∃ W, w1.alloc (.cells #[.int .i64 k] 2) = W := ⟨_, rfl⟩
  rw [hW2] at hw2 HB2 HBX2
  obtain rfl : W2 = w2 := hw2.symm
  clear hW2
  cases d3
  · obtain ⟨rfl, rfl⟩ := HR.out.2.1 HOK.out (fun h => absurd (HD3.out.mpr (fun j hj => by simp at hj; subst hj; exact h)) (by simp))
    go_wp2_with fail
    go_ret2
    exact ⟨rfl, HB2.out⟩
  have hk4 : 0 ≤ k ∧ k < 4 := HD3.out.mp (by trivial) 0 (by simp)
  have hr := HR.out.2.2 HOK.out hk4
  obtain ⟨K, rfl⟩ : ∃ K : Nat, k = (K : Int) := ⟨k.toNat, by omega⟩
  have hsn : 0 ≤ s ∧ s < (N : Int) := by have := HOK.out.2.1; have := HNN.out; omega
  have hN4 : N ≤ 4 := by have := HOK.out.1.2; have := HNN.out; omega
  have hN0 : 0 < N := by omega
  have hM4 : M = 4 := by have := HOK.out.2.2.1; have := HMM.out; omega
  subst hM4
  have hK4 : K < 4 := by omega
  have hKe : K < es.length := by have := HMM.out; omega
  obtain ⟨gP, oP, hPe, hgP, hceP⟩ := HP.out (by omega)
  subst hPe
  obtain ⟨gA, oA, hAe, hgA, hceA⟩ := HA.out (by have := HNN.out; omega)
  subst hAe
  obtain ⟨aE, cE, e0, r0⟩ := hceP K hKe
  have hgd : es.getD K [] = es[K] := by rw [List.getD_eq_getElem?_getD, List.getElem?_eq_getElem hKe]; rfl
  have hel := HPM.out es[K] (List.getElem_mem _)
  obtain ⟨ends, hends⟩ : ∃ e, es[K] = e := ⟨_, rfl⟩
  rw [hends] at hgd e0 r0 hel
  rw [Int.toNat_natCast, hgd] at hr
  have EC := hidv (fun W (hW : Below w.heap.size w W) (y : Int) (d : Bool) (hd : d = true ↔ y ∈ ends) => contains5_any _ ends y w.heap.size W (r0.below hW) hel d hd)
  have E1 := hidv (fun W (hW : Below w.heap.size w W) => (hW.cell (p := ⟨gP, oP + K, none⟩) hgP).trans e0)
  have HCA := hidv hceA
  have HRS := hidv hr
  have HMK := hidv (MOk.one (n := N) hsn.1 hsn.2)
  have hsz1 := HBX2.out.lt
  obtain ⟨z0, z1, z2⟩ := HBX2.out.three
  have HM0 := hidv (World.ownsRow_lit (e := 69) (size := 2) (base := w.heap.size + 1) W2 #[.int .i64 s, .string ⟨#[]⟩] 1 (by omega) (by unfold maxLen; omega) rfl)
  have HX0 := hidv (HBX2.out.alloc (.cells #[.int .i64 s, .string ⟨#[]⟩] 69))
  have HE0 := hidv (below_al HB2.out (.cells #[.int .i64 s, .string ⟨#[]⟩] 69))
  clear hr hk4 hgd hends e0 r0 hel hceP hceA HP HA HPM
  go_wp2_with fail
  go_loopw [6, 7] (fun v ij wr => ∃ (i f : Nat) (L : List (Int × ByteArray)), ij = .int .i64 (i : Int) ∧ i + f = 5 ∧ 1 ≤ L.length ∧ Hid (MOk N L) ∧ Hid (resA ns ends f i L = (r, c)) ∧ Hid (World.ownsRow wr (w.heap.size + 1) 69 2 v L.length (arV L)) ∧ Hid (Bx wr w.heap.size 27 #[.int .i64 s, .slice (some ⟨gA, oA, none⟩) N ca, .slice (some ⟨gP, oP, none⟩) 4 cp]) ∧ Hid (Below w.heap.size w wr)) (fun _ i _ => 5 - (intOf i).toNat)
  case atStart => exact ⟨0, 5, [(s, ⟨#[]⟩)], rfl, rfl, by simp, HMK, HRS, HM0, HX0, HE0⟩
  case round =>
    obtain ⟨i, f, L, rfl, hif, hL1, hok, hres, hm, hbx, hbe⟩ := hrel
    obtain ⟨WO, hWO⟩ : ∃ W, wr = W := ⟨_, rfl⟩
    rw [hWO] at hm hbx hbe ⊢
    clear hWO
    obtain ⟨gm, cm, rfl, hgm1, hgm2⟩ := hm.out.form (by omega)
    have hL4 := hok.out.len
    obtain ⟨z0, z1, z2⟩ := hbx.out.three
    by_cases hlt : i < L.length
    · obtain ⟨f, rfl⟩ : ∃ g, f = g + 1 := ⟨f - 1, by omega⟩
      have hLi := List.getElem?_eq_getElem hlt
      have hin := hok.out.ins L[i] (List.getElem_mem _)
      have hhit := fun h => resA_hit (ns := ns) (e := ends) (f := f) hlt h
      have hon := fun h => resA_on (ns := ns) (e := ends) (f := f) hlt h
      have hat := fun (row : List Int) (x : ByteArray) l => rowA_at (row := row) (x := x) hlt l
      obtain ⟨c1, c2⟩ := ar_cells hm.out i hlt
      obtain ⟨⟨y, x⟩, hyx⟩ : ∃ a, L[i] = a := ⟨_, rfl⟩
      rw [hyx] at hLi hin hhit hon hat c1 c2
      rw [hres.out] at hhit hon
      dsimp only at hin hhit hon c1 c2
      obtain ⟨T, rfl⟩ : ∃ T : Nat, y = (T : Int) := ⟨y.toNat, by omega⟩
      rw [Int.toNat_natCast] at hon
      have hxs : x.size ≤ 4 := by omega
      have hxl : x.size ≤ L.length := hin.2.2
      obtain ⟨d, hd⟩ := iffB ((T : Int) ∈ ends)
      have CD := hidv (fun q => EC.out (WO.drewN q) (below_drewN hbe.out q) (T : Int) d hd)
      have e1 := E1.out WO hbe.out
      have i1 : (0 : Int) ≤ (K : Int) := by omega
      have i2 : (K : Int) < 4 := by omega
      have i3 : (0 : Int) ≤ (i : Int) := by omega
      have i4 : (i : Int) < (L.length : Int) := by omega
      have HHIT := hidv hhit
      have HON := hidv hon
      have HAT := hidv hat
      have hTn : T < ns.length := by have := HNN.out; omega
      have HD := hidv hd
      clear hd hhit hon hat hyx hLi
      go_wp2_with fail
      go_quiet (first | (go_at_call 47; exact Calls.quiet_of_same (CD.out _)))
      cases d
      · obtain ⟨hrw, hl4, hir⟩ := row_at HOK.out T hTn
        have hon2 := HON.out (fun h => absurd (HD.out.mpr h) (by simp))
        rw [hrw] at hon2
        obtain ⟨ar, cr, a0, ra0⟩ := HCA.out T hTn
        obtain ⟨row, hrow⟩ : ∃ row, ns[T] = row := ⟨_, rfl⟩
        rw [hrow] at hl4 hir hon2 a0 ra0
        rw [hl4] at a0 ra0
        obtain ⟨_, _, hre, hrc⟩ := ra0
        simp only [Value.slice.injEq] at hre
        obtain ⟨rfl, -, rfl⟩ := hre
        obtain ⟨gr, og, rfl, hgr, hcr⟩ := hrc (by simp [ints]; omega)
        have HON2 := hidv hon2.symm
        have HCR := hidv hcr
        have hgetD : ∀ j, j < 4 → ∃ h : j < row.length, row.getD j 0 = row[j] := fun j hj => ⟨by omega, by rw [List.getD_eq_getElem?_getD, List.getElem?_eq_getElem (show j < row.length by omega)]; rfl⟩
        have HGD := hidv hgetD
        have HRI := hidv (show ∀ j, j < 4 → 0 ≤ row.getD j 0 ∧ row.getD j 0 < (N : Int) from fun j hj => by
          obtain ⟨h1, h2⟩ := hgetD j hj
          have h3 := hir j h1
          have := HNN.out
          rw [h2]
          omega)
        have a1 := (hbe.out.cell (p := ⟨gA, oA + T, none⟩) hgA).trans a0
        have j1 : (0 : Int) ≤ (T : Int) := by omega
        have j2 : (T : Int) < (N : Int) := by omega
        clear hon2 hir hl4 hrow hrw hrc hcr hgetD
        go_wp2_with fail
        go_quiet (fail)
        go_wp2_with fail
        go_loopw [6, 53] (fun v lj wr => ∃ l : Nat, l ≤ 4 ∧ lj = .int .i64 (l : Int) ∧ Hid (World.ownsRow wr (w.heap.size + 1) 69 2 v (rowA row x L l).length (arV (rowA row x L l))) ∧ Hid (Bx wr w.heap.size 27 #[.int .i64 s, .slice (some ⟨gA, oA, none⟩) N ca, .slice (some ⟨gP, oP, none⟩) 4 cp]) ∧ Hid (Below w.heap.size w wr)) (fun _ i _ => 4 - (intOf i).toNat)
        case atStart => exact ⟨0, by omega, rfl, hidv hm.out, hidv hbx.out, hidv (below_drewN (below_drewN hbe.out _) _)⟩
        case round =>
          clear hm hbx hbe c1 c2 e1 z0 z1 z2 a1
          obtain ⟨l, hl, rfl, hm, hbx, hbe⟩ := hrel
          obtain ⟨W5, hW5⟩ : ∃ W, wr = W := ⟨_, rfl⟩
          rw [hW5] at hm hbx hbe ⊢
          clear hW5
          have hRl := rowA_len row x L l
          have hRat := HAT.out row x l
          have hRok := hok.out.row (row := row) hxl (l := l) (fun j hj => HRI.out j (by omega))
          have hRsu : rowA row x L (l + 1) = metA row x (rowA row x L l) l := rfl
          by_cases hl4 : l < 4
          · obtain ⟨R, hR⟩ : ∃ R, rowA row x L l = R := ⟨_, rfl⟩
            rw [hR] at hm hRl hRat hRok hRsu
            have hR4 := hRok.len
            obtain ⟨g1, k1, rfl, hg11, hg12⟩ := hm.out.form (by omega)
            obtain ⟨hlr, hgd⟩ := HGD.out l hl4
            have d0 := HCR.out l _ (map_int_at hlr)
            have d1 := (hbe.out.cell (p := ⟨gr, og + l, none⟩) hgr).trans d0
            obtain ⟨t, ht⟩ : ∃ t, row[l] = t := ⟨_, rfl⟩
            rw [ht] at d1 hgd
            obtain ⟨b, hb⟩ := iffB (t ∈ R.map Prod.fst)
            have hbt := Bx.new W5 2 #[.int .i64 t]
            have hm6 := hm.out.alloc (.cells #[.int .i64 t] 2)
            have hx6 := hbx.out.alloc (.cells #[.int .i64 t] 2)
            have he6 := below_al hbe.out (.cells #[.int .i64 t] 2)
            have CB := hidv (containsF_any g1 k1 W5.heap.size t R _ (fun W hW i hi => ar_cells (own_below hm6 hW) i hi) (fun W hW => (hbt.below hW).cell 0) (by omega) b hb)
            have j3 : (0 : Int) ≤ (l : Int) := by omega
            have j4 : (l : Int) < 4 := by omega
            have j5 : (i : Int) < (R.length : Int) := by omega
            have HB := hidv hb
            have HOLD := hidv (fun h => metA_old (row := row) (x := x) (M := R) (l := l) (by rw [hgd]; exact h))
            have HNEW := hidv (fun h => metA_new (row := row) (x := x) (M := R) (l := l) (by rw [hgd]; exact h))
            rw [← hRsu] at HOLD HNEW
            rw [hgd] at HNEW
            have HBT := hidv hbt
            have HM6 := hidv hm6
            have HX6 := hidv hx6
            have HE6 := hidv he6
            have hiR : i < R.length := by omega
            have hRi : R[i] = ((T : Int), x) := by
              rw [List.getElem?_eq_getElem hiR] at hRat
              exact Option.some.inj hRat
            have HRI2 := hidv hRi
            clear d0 ht hgd hb hRat hRok hRsu hR hbt hm6 hx6 he6 hRi hm hbx
            go_wp2_with fail
            refine CB.out.mono ?_
            rintro e w2 ⟨rfl, hw2⟩
            have HM7 := hidv (own_below HM6.out hw2)
            have HX7 := hidv (HX6.out.below hw2)
            have HBT7 := hidv (HBT.out.below hw2)
            have HE7 := hidv (HE6.out.trans (hw2.mono HE6.out.size))
            clear hw2 d1
            cases b
            · have HN2 := hidv (HNEW.out (fun h => absurd (HB.out.mpr h) (by simp)))
              obtain ⟨c1, c2⟩ := ar_cells HM7.out i hiR
              rw [HRI2.out] at c1 c2
              dsimp only at c1 c2
              have c3 := HBT7.out.cell 0
              have hbig : ¬ (9223372036854775807 < x.size + 1) := by omega
              have hw64 : IntKind.i64.wrap ((l : Int) + 1) = (l : Int) + 1 := IntWalk.i64_in _ (by omega)
              have habc := fun W => abcd_at hl4 W
              have hsz : (ltr l).size = 1 := rfl
              have hs7 : w.heap.size ≤ w2.heap.size := HE7.out.size
              have hmd : Hid (World.ownsRow w2.drew (w.heap.size + 1) 69 2 (.slice (some ⟨g1, 0, none⟩) R.length k1) R.length (arV R)) := HM7
              go_wp2_with fail
              go_region_law (first | (refine step_append_lies (o := ⟨some 76, _, _, _, _, _⟩) _ (by rfl) (.tmp 62) (.tmp 75) 70 (by rfl) (w.heap.size + 1) 69 j0 (.agg #[.int .i64 0, .string ⟨#[]⟩]) 2 24 Try.underlying70 hj hy0 hy1 hy2 rfl (by decide) _ _ _ (by rfl) (hmd.out.alloc _) ⟨w2.drew.heap.size, 0, none⟩ 1 1 [.int .i64 t, .string (x ++ ltr l)] (by rfl) rfl (two_newF w2.drew _ _ _) (two_cellF _ _) (by decide) (by unfold maxLen; omega) (by omega) (by have := hs7; simp; omega) (w2.drew.heap.size + 1) (by simp) ?_; intro v4 cap4 w4 hown4 hgr4 hat4 hlt4))
              all_goals
                have hgr4 : World.grownBy _ w4 (some g1) := hgr4
                have HM8 := hidv hown4
                have HX8 := hidv (((show Bx w2.drew w.heap.size 27 #[.int .i64 s, .slice (some ⟨gA, oA, none⟩) N ca, .slice (some ⟨gP, oP, none⟩) 4 cp] from HX7.out).alloc _).grown hgr4 (by simp; omega))
                have hb8 := below_al (show Below w.heap.size w w2.drew from Below.drew HE7.out) (.cells #[.int .i64 t, .string (x ++ ltr l)] 69)
                have HE8 := hidv (hb8.grown hgr4 hb8.size (fun k hk => by cases hk; omega))
                clear hown4 hgr4 hat4 hlt4 hb8 hmd
                go_wp2_with fail
                go_roundw
                case rel =>
                  refine ⟨l + 1, by omega, by go_num, hidv ?_, HX8, HE8⟩
                  rw [HN2.out, arV_app, List.length_append, List.length_singleton]
                  exact HM8.out
                case measure => simp [intOf]; omega
            · have HO2 := hidv (HOLD.out (HB.out.mp (by trivial)))
              go_wp2_with fail
              go_roundw
              case rel => exact ⟨l + 1, by omega, by go_num, hidv (by rw [HO2.out]; exact HM7.out), HX7, HE7⟩
              case measure => simp [intOf]; omega
          · obtain rfl : l = 4 := by omega
            have hR4 := hRok.len
            obtain ⟨g1, k1, rfl, hg11, hg12⟩ := hm.out.form (by omega)
            go_wp2_with fail
            go_roundw
            case rel => exact ⟨i + 1, f, rowA row x L 4, by go_num, by omega, by omega, hidv hRok, HON2, hm, hbx, hbe⟩
            case measure => simp [intOf]; omega
      · have h := HHIT.out (HD.out.mp (by trivial))
        simp only [Prod.mk.injEq] at h
        obtain ⟨rfl, rfl⟩ := h
        go_wp2_with fail
        go_ret2
        exact ⟨rfl, below_drewN hbe.out _⟩
    · have h := hres.out
      rw [resA_end (by omega)] at h
      simp only [Prod.mk.injEq] at h
      obtain ⟨rfl, rfl⟩ := h
      go_wp2_with fail
      go_ret2
      exact ⟨rfl, hbe.out⟩

end Go.Proofs.Ytncjfafailefoaa
