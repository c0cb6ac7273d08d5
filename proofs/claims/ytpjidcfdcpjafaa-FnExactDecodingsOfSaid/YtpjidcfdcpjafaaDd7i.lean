/-
  find, of the program: a contract.
-/
import Derived.Test.YtpjidcfdcpjafaaDd7k
import Derived.RegionTactic
import Derived.Deep.RegionLaw
import Derived.Deep.RegionHeld3
namespace Go.Proofs.Ytpjidcfdcpjafaa
open Go.RowKit Go Go.Maps Go.WideMaps
set_option linter.unusedVariables false

set_option maxRecDepth 100000 in
set_option maxHeartbeats 3200000 in
/-- At the empty rest. -/
theorem find_end (vx : Value) (xs : List ByteArray) (B base p M : Nat) (s : ByteArray) (hB1 : B ≤ p) (hpb : p < base) (hMb : M < base) (hBb : B ≤ base) (hMp : M ≠ p)
    (vb : Value) (pre : List Int) (vf : Value) (rs : List (List Int)) (us : List Value) (D : DataW Unit) (w : World) (hbw : base ≤ w.heap.size) (hown : OwnC w M D) (hinv : CInv xs s D) (hbx : Bx w p 78 #[vx, .map (some M), vf])
    (hpre : w.ownsRow base 2 1 vb pre.length (pre.map (Value.int .i64))) (hpl : pre.length ≤ 60) (hfo : FoD w base vf rs us) (hrs : rs.length ≤ 1000000) (hap : ∀ u ∈ us, AP vb u) :
    Calls Try.prog 90 #[.pointer (some ⟨p, 0, none⟩), vb, .string ⟨#[]⟩] w fun e w' => e = .returned (.tuple #[]) ∧ FSt w w' B base p M vx vb pre us xs s (rs ++ [pre]) := by
  obtain ⟨i0, hi, hz0, hz1, hz2⟩ := info_parts Try.infoDd
  have x2 := hbx.cell 2
  have HC := hidv (fun W (h : Below w.heap.size w W) => cloneD_any vb pre base W (own_below hpre h) (by omega))
  obtain ⟨Ab, np, cb, rfl⟩ : ∃ A n c, vb = .slice A n c := by
    obtain ⟨A, c, h, _⟩ := Row.of_own hpre
    exact ⟨A, _, c, h⟩
  obtain ⟨Af, nf, cf, rfl⟩ : ∃ A n c, vf = .slice A n c := by
    obtain ⟨A, c, h, _⟩ := Row.of_own hfo.1
    exact ⟨A, _, c, h⟩
  have HS := hidv (fun W (h : Below w.heap.size w W) => (show W.cell? ⟨p, 2, none⟩ = some (.slice Af nf cf) from (hbx.below h).cell 2))
  have HBX := hidv hbx
  have HP := hidv hpre
  have HFO := hidv hfo
  have HOW := hidv hown
  have HIN := hidv hinv
  have HAP := hidv hap
  have hzp : p < w.heap.size := by omega
  clear hbx hpre hfo hown hinv hap
  go_enter Try.func90, Try.ntmps90
  go_wp2_with fail
  have hs0 : w.drew.cell? ⟨p, 2, none⟩ = some (.slice Af nf cf) := HS.out _ (below_dr w)
  go_region_law (first | (go_simp; go_at_call 113; refine (HC.out _ (by first | exact below_dr _ | exact Below.refl _ _)).mono ?_; rintro e w3 ⟨v3, rfl, hown3, hbq⟩; have hbe := below_on (show Below w.heap.size w _ from by first | exact below_dr _ | exact Below.refl _ _) hbq; have hs3 := HS.out _ hbe; have hw3 := hbe.size; obtain ⟨Au, nu, cu, rfl⟩ : ∃ A n c, v3 = .slice A n c := (by obtain ⟨A, c, h, _⟩ := hown3.row; exact ⟨A, _, c, h⟩); have hs3a := HS.out _ (below_al hbe (.cells #[.slice Au nu cu] 26))) | (refine step_append_lies (o := ⟨some 20, _, _, _, _, _⟩) _ (by rfl) (.tmp 16) (.tmp 19) 30 (by rfl) base 26 i0 (.slice none 0 0) 1 24 Try.underlying30 hi hz0 hz1 hz2 rfl (by decide) _ _ _ (by rfl) (World.ownsRow.alloc (own_below HFO.out.1 hbe) _) ⟨w3.heap.size, 0, none⟩ 1 1 [.slice Au nu cu] (by rfl) rfl (one_newD w3 _ _) (one_cellD _ _ _) (by decide) (by unfold maxLen; omega) (by omega) (by simp; omega) (w3.heap.size + 1) (by simp) ?_; intro g4 cap4 w4 hown4 hgr4 hat4 hlt4; have hbx4 := (((HBX.out.below hbe).alloc (.cells #[.slice Au nu cu] 26)).grown hgr4 (by intro h; have := (World.ownsRow.lt HFO.out.1 p h.symm).1; omega)); have y2 := hbx4.frozen 2; have z2 := hbx4.cell 2))
  all_goals
    have HFS := hidv (FSt.found hBb hB1 hpb hMb hMp hbw HOW.out HIN.out HBX.out HP.out HFO.out HAP.out hbe (show w3.ownsRow w.heap.size 2 1 _ _ _ from hown3) hown4 hgr4)
    clear hbx4 y2 z2 hown4 hgr4 hat4 hlt4 hown3 hbq hbe hs3 hs3a hw3
    go_wp2_with fail
    refine bodyPost_ret (results_none rfl _ _ _) rfl ?_
    exact ⟨rfl, HFS.out⟩

set_option maxRecDepth 100000 in
set_option maxHeartbeats 3200000 in
theorem find_step (vx : Value) (xs : List ByteArray) (B base p M : Nat) (s : ByteArray) (hs : s.size ≤ 60) (hx : WsOk xs) (hB1 : B ≤ p) (hB2 : B ≤ M) (hpb : p < base) (hMb : M < base) (hBb : B ≤ base) (hMp : M ≠ p) (i : Nat) (hi : i < s.size)
    (ih : ∀ (k : Nat) (vb : Value) (pre : List Int) (vf : Value) (rs : List (List Int)) (us : List Value) (D : DataW Unit) (w : World), i < k → k ≤ s.size → base ≤ w.heap.size → Row w B vx (xs.map Value.string) → OwnC w M D → CInv xs s D → Bx w p 78 #[vx, .map (some M), vf] →
      w.ownsRow base 2 1 vb pre.length (pre.map (Value.int .i64)) → pre.length + (s.size - k) ≤ 60 → FoD w base vf rs us → rs.length + fcB xs (sfx s k) ≤ 1000 → (∀ u ∈ us, AP vb u) →
      Calls Try.prog 90 #[.pointer (some ⟨p, 0, none⟩), vb, .string (sfx s k)] w fun e w' => e = .returned (.tuple #[]) ∧ FSt w w' B base p M vx vb pre us xs s (rs ++ dcB xs pre (sfx s k)))
    (vb : Value) (pre : List Int) (vf : Value) (rs : List (List Int)) (us : List Value) (D : DataW Unit) (w : World) (hbw : base ≤ w.heap.size) (hr : Row w B vx (xs.map Value.string)) (hown : OwnC w M D) (hinv : CInv xs s D) (hbx : Bx w p 78 #[vx, .map (some M), vf])
    (hpre : w.ownsRow base 2 1 vb pre.length (pre.map (Value.int .i64))) (hpl : pre.length + (s.size - i) ≤ 60) (hfo : FoD w base vf rs us) (hrs : rs.length + fcB xs (sfx s i) ≤ 1000) (hap : ∀ u ∈ us, AP vb u) :
    Calls Try.prog 90 #[.pointer (some ⟨p, 0, none⟩), vb, .string (sfx s i)] w fun e w' => e = .returned (.tuple #[]) ∧ FSt w w' B base p M vx vb pre us xs s (rs ++ dcB xs pre (sfx s i)) := by
  obtain ⟨j0, hj, hy0, hy1, hy2⟩ := info_parts Try.infoN
  obtain ⟨A, c, rfl, hA⟩ := strRow_at hr
  obtain ⟨n, hn⟩ : ∃ n, xs.length = n := ⟨_, rfl⟩
  have hn1000 : n ≤ 1000 := by rw [← hn]; exact hx.1
  have htsz : (sfx s i).size = s.size - i := sfx_size s i
  have hex := fun a => sfx_ext s i a
  have hps := fun k h => dcP_succ xs pre (sfx s i) k h
  have hpa := dcP_all hx pre (s := sfx s i) (by omega)
  have hcnt := dcB_count xs pre (sfx s i)
  have hb0 : ∀ k, vb.ownBlock = some k → k < w.heap.size := fun k hk => (World.ownsRow.lt hpre k hk).2
  have HB0 := hidv hb0
  have HST := hidv (show FSt w w B base p M (.slice A xs.length c) vb pre us xs s (rs ++ dcP xs pre (sfx s i) 0) from ⟨D, vf, us, hown, hinv, hbx, by rw [dcP_zero, List.append_nil]; exact hfo, hpre, KeepD.refl _ _ _ _, fun v _ h => h⟩)
  have hse : (sfx s i).toList.isEmpty = false := toList_nonempty (x := sfx s i) (by omega)
  have x0 := hbx.cell 0
  obtain ⟨t, ht⟩ : ∃ t, sfx s i = t := ⟨_, rfl⟩
  have HT := hidv ht
  rw [ht] at htsz hpa hcnt hse hrs HST ⊢
  simp only [ht] at hex hps
  obtain ⟨T, hT⟩ : ∃ T, fcB xs t = T := ⟨_, rfl⟩
  rw [hT] at hcnt hrs
  have HIH := hidv ih
  have HA := hidv hA
  have HX := hidv hx
  have HEX := hidv hex
  have HPS := hidv hps
  have HCN := hidv hcnt
  have HAP := hidv hap
  rw [hn] at hpa HST HIH x0 hr ⊢
  have HRW := hidv hr
  have HPA := hidv hpa
  have HN := hidv hn
  obtain ⟨Ab, np, cb, rfl⟩ : ∃ A n c, vb = .slice A n c := by
    obtain ⟨A, c, h, _⟩ := Row.of_own hpre
    exact ⟨A, _, c, h⟩
  clear hA hn hex hps hpa hcnt hb0 ht hT ih hap hr hown hinv hbx hpre hfo hx
  go_enter Try.func90, Try.ntmps90
  go_wp2_with fail
  go_loopw [29] (fun k wr => ∃ j : Nat, j ≤ n ∧ k = .int .i64 (j : Int) ∧ Hid (FSt w wr B base p M (.slice A n c) (.slice Ab np cb) pre us xs s (rs ++ dcP xs pre t j))) (fun k _ => n - (intOf k).toNat)
  case atStart => exact ⟨0, Nat.zero_le _, rfl, HST⟩
  case round =>
    obtain ⟨j, hjn, rfl, hst⟩ := hrel
    by_cases hltj : j < n
    · have hjx : j < xs.length := by have := HN.out; omega
      obtain ⟨g, o, rfl, hg, hce⟩ := HA.out (by have := HN.out; omega)
      obtain ⟨D1, vf1, us1, f1, f2, f3, f4, f5, f6, f7⟩ := hst.out
      have d1 := (f6.1.cell (p := ⟨g, o + j, none⟩) (by show g < B; omega)).trans (hce j hjx)
      have hx60 := HX.out.2.1 xs[j] (List.getElem_mem _)
      have hx1 : 1 ≤ xs[j].size := by
        have h1 := HX.out.2.2.1 xs[j].data.toList (by unfold Wl; exact List.mem_map_of_mem (List.getElem_mem _))
        simpa using h1
      have hsu := HPS.out j hjx
      have hmo := dcP_mono xs pre t (j + 1) n (by omega)
      rw [HPA.out, HCN.out] at hmo
      obtain ⟨x, hx⟩ : ∃ x, xs[j] = x := ⟨_, rfl⟩
      simp only [hx] at d1 hx60 hx1 hsu
      have e0 := f3.cell 0
      have e1 := f3.cell 1
      obtain ⟨q, hq⟩ : ∃ q, Lib.hasPrefix t.data.toList x.data.toList = q := ⟨_, rfl⟩
      have hC1 := fun W => cutQ_any t x W (by unfold maxLen; omega) q hq
      rw [HEX.out x.size] at hC1 hsu
      rw [hq] at hsu
      have HC1 := hidv hC1
      cases q
      · have HSU := hidv (show FSt w wr B base p M (.slice (some ⟨g, o, none⟩) n c) (.slice Ab np cb) pre us xs s (rs ++ dcP xs pre t (j + 1)) from by rw [hsu]; simpa using hst.out)
        clear hce hC1 hsu hq hx hmo f1 f2 f3 f4 f5 f6 f7
        go_wp2_with fail
        refine (HC1.out _).mono ?_
        rintro e w' ⟨⟨r, rfl, hr⟩, rfl⟩
        clear hr
        go_wp2_with fail
        go_roundw
        case rel => exact ⟨j + 1, by omega, by go_num, HSU⟩
        case measure => simp [intOf]; omega
      · have hpl2 : x.size ≤ t.size := by
          rcases Nat.lt_or_ge t.size x.size with h2 | h2
          · rw [begins_no t x h2] at hq; cases hq
          · exact h2
        have hC2 := count_any (.slice (some ⟨g, o, none⟩) n c) xs B M s hs HX.out hB2 s.size (i + x.size) wr D1 (by omega) (by omega) (HRW.out.below f6.1) f1 f2
        rw [if_pos rfl] at hsu
        have hdc := dcB_count xs (pre ++ [(j : Int)]) (sfx s (i + x.size))
        have hnone := dcB_none xs (pre ++ [(j : Int)]) (sfx s (i + x.size))
        have hbd := fcB_bound HX.out (s := sfx s (i + x.size)) (by rw [sfx_size]; omega)
        have hi2 := HIH.out (i + x.size)
        obtain ⟨R, hR⟩ : ∃ R, fcB xs (sfx s (i + x.size)) = R := ⟨_, rfl⟩
        rw [hR] at hC2 hdc hnone hbd hi2
        have hR2 : R ≤ 1152921504606846976 := hbd
        have hlen : (rs ++ dcP xs pre t j).length + R ≤ 1000 := by
          rw [hsu, List.length_append, hdc] at hmo
          rw [List.length_append]
          omega
        obtain ⟨y, hy⟩ : ∃ y, sfx s (i + x.size) = y := ⟨_, rfl⟩
        rw [hy] at hC2 HC1 hsu hnone hi2
        have HC2 := hidv hC2
        have HSU := hidv hsu
        have HNO := hidv hnone
        have HI2 := hidv hi2
        have HF := hidv (And.intro f3 (And.intro f4 (And.intro f5 (And.intro f6 f7))))
        have hxx : i + x.size ≤ s.size := by omega
        have hwr := f6.1.size
        clear hce hC1 hC2 hsu hq hx hR hy hmo hdc hnone hbd hi2 f1 f2 f3 f4 f5 f6 f7
        go_wp2_with fail
        refine (HC1.out _).mono ?_
        rintro e w' ⟨⟨r, rfl, hr⟩, rfl⟩
        obtain rfl := hr rfl
        clear hr
        go_wp2_with fail
        refine HC2.out.mono ?_
        rintro e w3 ⟨rfl, D2, how2, hin2, hsa2, hg2⟩
        have HFS := hidv (FSt.count (Nat.le_trans hBb hbw) hB2 hMb hMp HF.out.1 HF.out.2.1 HF.out.2.2.1 HF.out.2.2.2.1 HF.out.2.2.2.2 (own_tight how2) hin2 hg2)
        have HG2 := hidv hg2
        have HO2 := hidv (own_tight how2)
        have HN2 := hidv hin2
        have hsz3 := hg2.size
        clear how2 hin2 hsa2 hg2 e0 e1 d1
        rcases Nat.eq_zero_or_pos R with hR0 | hR0
        · subst hR0
          have HSV := hidv (show FSt w w3 B base p M (.slice (some ⟨g, o, none⟩) n c) (.slice Ab np cb) pre us xs s (rs ++ dcP xs pre t (j + 1)) from by rw [HSU.out, HNO.out rfl, List.append_nil]; exact HFS.out)
          go_wp2_with fail
          go_roundw
          case rel => exact ⟨j + 1, by omega, by go_num, HSV⟩
          case measure => simp [intOf]; omega
        · have hpre3 := own_other (row := some M) HF.out.2.2.1 HG2.out (fun k hk => by cases hk; exact hMb)
          have HP3 := hidv hpre3
          clear hpre3
          go_wp2_with (at_builtin; refine wpList_append_keep _ rfl (.tmp 51) (.tmp 53) 26 rfl base 2 j0 (.int .i64 0) 8 Try.underlying26 hj hy0 hy1 hy2 (by decide) _ _ _ rfl (World.ownsRow.alloc HP3.out _) ⟨w3.heap.size, 0, none⟩ 1 1 [.int .i64 (j : Int)] rfl rfl (one_newD w3 _ _) (one_intD _) (by decide) ?_ ?_ ?_ (w3.heap.size + 1) (by simp) ?_; (unfold maxLen; omega); omega; (simp; omega); intro g4 cap4 w4 hown4 hgr4 hor4 hold4)
          have hF := HF.out
          obtain ⟨f3, f4, f5, f6, f7⟩ := hF
          have hpk := push_ok (len := pre.length + 1) (cap := cap4) HO2.out (f3.grown HG2.out (by intro h; injection h with h; exact hMp h.symm)) (f4.grown HG2.out hMb) HP3.out (f7 _ HB0.out HAP.out) hMb hpb (by omega) hBb hgr4 hor4
          have hkk := (KeepD.grown (v := .slice Ab np cb) HG2.out (Nat.le_trans hBb (Nat.le_trans hbw hwr)) hB2 hMb).trans hpk.2.2.2.2
          have hC := HI2.out (.slice (some ⟨g4, 0, none⟩) (pre.length + 1) cap4) (pre ++ [(j : Int)]) vf1 (rs ++ dcP xs pre t j) us1 D2 w4 (by omega) hxx (by have := hkk.1.size; omega) (HRW.out.below (f6.1.trans hkk.1)) hpk.1 HN2.out hpk.2.1 (own_snocD hown4) (by simp; omega) hpk.2.2.1 hlen hpk.2.2.2.1
          have HNX := hidv (fun w5 (hf : FSt w4 w5 B base p M (.slice (some ⟨g, o, none⟩) n c) (.slice (some ⟨g4, 0, none⟩) (pre.length + 1) cap4) (pre ++ [(j : Int)]) us1 xs s (rs ++ dcP xs pre t j ++ dcB xs (pre ++ [(j : Int)]) r)) => FSt.next (us := us) (fun k hk => Nat.lt_of_lt_of_le (HB0.out k hk) hwr) f6 f7 hkk hown4 hold4 hor4 (by omega) hf)
          have HC := hidv hC
          clear hC hpk hkk f3 f4 f5 f6 f7 hown4 hgr4 hor4 hold4 HF
          go_wp2_with fail
          refine HC.out.mono ?_
          rintro e w5 ⟨rfl, hf⟩
          have HSV := hidv (show FSt w w5 B base p M (.slice (some ⟨g, o, none⟩) n c) (.slice Ab np cb) pre us xs s (rs ++ dcP xs pre t (j + 1)) from by rw [HSU.out, ← List.append_assoc]; exact HNX.out w5 hf)
          clear hf
          go_wp2_with fail
          go_roundw
          case rel => exact ⟨j + 1, by omega, by go_num, HSV⟩
          case measure => simp [intOf]; omega
    · obtain rfl : j = n := by omega
      go_wp2_with fail
      refine bodyPost_end (results_none rfl _ _ _) rfl ?_
      exact ⟨rfl, by rw [← HPA.out]; exact hst.out⟩

theorem find_any (vx : Value) (xs : List ByteArray) (B base p M : Nat) (s : ByteArray) (hs : s.size ≤ 60) (hx : WsOk xs) (hB1 : B ≤ p) (hB2 : B ≤ M) (hpb : p < base) (hMb : M < base) (hBb : B ≤ base) (hMp : M ≠ p) :
    ∀ (N i : Nat) (vb : Value) (pre : List Int) (vf : Value) (rs : List (List Int)) (us : List Value) (D : DataW Unit) (w : World), s.size - i ≤ N → i ≤ s.size → base ≤ w.heap.size → Row w B vx (xs.map Value.string) → OwnC w M D → CInv xs s D → Bx w p 78 #[vx, .map (some M), vf] →
      w.ownsRow base 2 1 vb pre.length (pre.map (Value.int .i64)) → pre.length + (s.size - i) ≤ 60 → FoD w base vf rs us → rs.length + fcB xs (sfx s i) ≤ 1000 → (∀ u ∈ us, AP vb u) →
      Calls Try.prog 90 #[.pointer (some ⟨p, 0, none⟩), vb, .string (sfx s i)] w fun e w' => e = .returned (.tuple #[]) ∧ FSt w w' B base p M vx vb pre us xs s (rs ++ dcB xs pre (sfx s i)) := by
  have hend : ∀ (vb : Value) (pre : List Int) (vf : Value) (rs : List (List Int)) (us : List Value) (D : DataW Unit) (w : World), base ≤ w.heap.size → OwnC w M D → CInv xs s D → Bx w p 78 #[vx, .map (some M), vf] →
      w.ownsRow base 2 1 vb pre.length (pre.map (Value.int .i64)) → pre.length ≤ 60 → FoD w base vf rs us → rs.length ≤ 1000000 → (∀ u ∈ us, AP vb u) →
      Calls Try.prog 90 #[.pointer (some ⟨p, 0, none⟩), vb, .string (sfx s s.size)] w fun e w' => e = .returned (.tuple #[]) ∧ FSt w w' B base p M vx vb pre us xs s (rs ++ dcB xs pre (sfx s s.size)) := by
    intro vb pre vf rs us D w h1 h2 h3 h4 h5 h6 h7 h8 h9
    have hz : sfx s s.size = ⟨#[]⟩ := ba_ext2 (by rw [sfx_data, List.drop_eq_nil_of_le (by simp)])
    rw [hz, dcB_nil xs pre rfl]
    exact find_end vx xs B base p M s hB1 hpb hMb hBb hMp vb pre vf rs us D w h1 h2 h3 h4 h5 h6 h7 h8 h9
  intro N
  induction N with
  | zero =>
    intro i vb pre vf rs us D w hN hi h1 hr h2 h3 h4 h5 h6 h7 h8 h9
    obtain rfl : i = s.size := by omega
    exact hend vb pre vf rs us D w h1 h2 h3 h4 h5 (by omega) h7 (by omega) h9
  | succ N ihN =>
    intro i vb pre vf rs us D w hN hi h1 hr h2 h3 h4 h5 h6 h7 h8 h9
    by_cases hie : i = s.size
    · subst hie
      exact hend vb pre vf rs us D w h1 h2 h3 h4 h5 (by omega) h7 (by omega) h9
    · exact find_step vx xs B base p M s hs hx hB1 hB2 hpb hMb hBb hMp i (by omega) (fun k vb' pre' vf' rs' us' D' w' hk hk2 => ihN k vb' pre' vf' rs' us' D' w' (by omega) hk2) vb pre vf rs us D w h1 hr h2 h3 h4 h5 h6 h7 h8 h9

end Go.Proofs.Ytpjidcfdcpjafaa
