/-
  Whether a family holds at a number, in the model: a contract.
-/
import Derived.Test.YtdnkdmmockoehaaGreatHm
import Derived.Test.YtdnkdmmockoehaaGreatTm
namespace Go.Proofs.YtdnkdmmockoehaaGreat
open Go.RowKit Go
set_option linter.unusedVariables false

theorem minH_any (a b : Int) (w : World) :
    Calls Tryz.prog 31 #[.int .i64 a, .int .i64 b] w fun e w' => e = .returned (.int .i64 (min a b)) ∧ w = w' := by
  by_cases h : a < b
  · rw [show min a b = a by omega]
    go_enter Tryz.func31, Tryz.ntmps31
    go_wp2
    go_ret
    exact ⟨rfl, rfl⟩
  · rw [show min a b = b by omega]
    go_enter Tryz.func31, Tryz.ntmps31
    go_wp2
    go_ret
    exact ⟨rfl, rfl⟩
theorem one_cellH (x : ByteArray) : ∀ u : Value, u ∈ [Value.string x] → u.oneCell' = true := by
  intro u hu
  simp only [List.mem_cons, List.not_mem_nil, or_false] at hu
  subst hu; rfl
theorem own_kindsH {w w' : World} {b1 b2 e1 e2 s1 s2 n1 n2 : Nat} {v1 v2 : Value} {x1 x2 : List Value} (h1 : w.ownsRow b1 e1 s1 v1 n1 x1) (h2 : w.ownsRow b2 e2 s2 v2 n2 x2) (he : e1 ≠ e2) (hg : w.grownBy w' v1.ownBlock) : w'.ownsRow b2 e2 s2 v2 n2 x2 :=
  h2.kept (row := v1.ownBlock) hg (by
    rcases h2.2 with ⟨rfl, _⟩ | ⟨g, cap, cur, rfl, hb, hh, _⟩
    · exact .inl rfl
    · right
      intro hq
      rcases h1.2 with ⟨rfl, _⟩ | ⟨g1, cap1, cur1, rfl, hb1, hh1, _⟩
      · cases hq
      · have h3 : g = g1 := by simpa [Value.ownBlock] using hq
        subst h3
        rw [hh] at hh1
        simp at hh1
        exact he hh1.2.symm)
theorem occL_at (es : List Eqn) (x : Nat) (hx : x < 4) : (occL es)[x]? = some (occ es x) := by
  unfold occL
  simp [hx]

set_option maxRecDepth 100000 in
set_option maxHeartbeats 6400000 in
theorem l06Holds_any (v : Value) (es : List Eqn) (b : Nat) (rs : List (List Pc)) (A : Option Addr) (cA B C : Nat) (k q : Int) (w : World) (hv : ERow w C v es) (hC : C ≤ w.heap.size) (hs : sysB es = true) (hb : w.cell? ⟨b, 0, none⟩ = some (.slice A rs.length cA)) (hr : QRows w B (.slice A rs.length cA) rs) (hB : B ≤ w.heap.size) (hok : FamOk rs) (hk : 0 ≤ k) (hq : q = min k 200001) (d : Bool) (c : Int)
    (hR1 : (∃ z ∈ tLens es (rs.map (gsum (pcLen q))), 200000 < z) → d = false ∧ c = 3)
    (hR2 : ¬ (∃ z ∈ tLens es (rs.map (gsum (pcLen q))), 200000 < z) → d = holdsB es (valsQ es rs q) ∧ c = 0) :
    Calls Tryz.prog 18 #[v, .pointer (some ⟨b, 0, none⟩), .int .i64 k] w fun e w' => e = .returned (.tuple #[.bool d, .int .i64 c]) ∧ Below w.heap.size w w' := by
  have hq2 : 0 ≤ q ∧ q ≤ 1000000 := by clear hR1 hR2 hv hr hok hb hs; omega
  obtain ⟨i0, hi, hz0, hz1, hz2⟩ := info_parts Tryz.infoS
  have hbl : b < w.heap.size := World.block_lt_of_cell? _ _ hb
  have C0 := hidv (fun W => minH_any k 200001 W)
  rw [← hq] at C0
  have C1 := hidv (fun (s : ByteArray) W (hW : Below w.heap.size w W) (h1 : s.size ≤ 24) (h2 : Wd.termB s.data.toList = true) => (l06Size_any s b rs q A cA B W h1 h2 ((hW.cell (p := ⟨b, 0, none⟩) hbl).trans hb) (hr.below (hW.mono hB)) (Nat.le_trans hB hW.size) hok hq2).mono (R' := fun e w' => e = .returned (.int .i64 (termLen s.data.toList (rs.map (gsum (pcLen q))))) ∧ Below W.heap.size W w') (fun e w' h => ⟨h.1, by obtain ⟨m, rfl⟩ := h.2; exact below_drewN (Below.refl _ _) m⟩))
  have CQ := hidv (fun (s : ByteArray) W (hW : Below w.heap.size w W) (h1 : s.size ≤ 24) (h2 : Wd.termB s.data.toList = true) => l06Size_any s b rs q A cA B W h1 h2 ((hW.cell (p := ⟨b, 0, none⟩) hbl).trans hb) (hr.below (hW.mono hB)) (Nat.le_trans hB hW.size) hok hq2)
  have C2 := hidv (fun W (hW : Below w.heap.size w W) => used_any v es C W (hv.below (hW.mono hC)) (Nat.le_trans hC hW.size) hs)
  have C4 := hidv (fun W (hW : Below w.heap.size w W) j (hj : j < rs.length) (a : Option Addr) (cq : Nat) (hrow : QRow w B (.slice a rs[j].length cq) rs[j]) (ht : gsum (pcLen q) rs[j] ≤ 1000000) => l06Word_any rs[j] q _ B W (hrow.below (hW.mono hB)) (Nat.le_trans hB hW.size) (hok.at j hj) hq2 ht)
  have HP := hidv (fun (s : ByteArray) (h1 : s.size ≤ 24) (h2 : Wd.termB s.data.toList = true) v xs (hx : ValsM 1000000 xs) B W (hr : Row W B v (xs.map Value.string)) (hB : B ≤ W.heap.size) => l06Put_any s v xs B W h1 h2 hr hB hx)
  have HB0 := hidv (fun W (hW : Below w.heap.size w W) => (hW.cell (p := ⟨b, 0, none⟩) hbl).trans hb)
  obtain ⟨Av, cv, rfl, hAv⟩ := hv
  obtain ⟨Af, cf, hfe, hAf⟩ := hr.at
  injection hfe with hf1 _ hf2
  subst hf1 hf2
  have HPL := hidv (fun j hj => put_len (k := q) hs hok hq2 j hj)
  have HVM := hidv (fun h => valsQ_M (k := q) hs hok hq2 h)
  have HOS := hidv (fun h x (hx : x < 4) ho => occ_small (k := q) hs hok hq2 h hx ho)
  have hx := lensL hok hq2
  have h4 := sysB_len hs
  have h4r := hok.1
  obtain ⟨n, hn⟩ : ∃ n, es.length = n := ⟨_, rfl⟩
  obtain ⟨xs, hxs⟩ : ∃ xs, rs.map (gsum (pcLen q)) = xs := ⟨_, rfl⟩
  rw [hxs] at hx C1 CQ hR1 hR2 HPL HVM HOS
  have HA := hidv hAv
  have HF := hidv hAf
  have HS := hidv hs
  have HX := hidv hx
  have HR1 := hidv hR1
  have HR2 := hidv hR2
  rw [hn] at h4 C2 ⊢
  rw [h4r] at HB0
  have HN := hidv hn
  have HRN := hidv h4r
  clear hAv hAf hs hx hR1 hR2 hn hxs hr hok hb hq hk hq2 h4r
  go_enter Tryz.func18, Tryz.ntmps18
  go_wp2_with fail
  refine (C0.out _).mono ?_
  rintro e w' ⟨rfl, rfl⟩
  go_wp2_with fail
  go_loopw [8] (fun i wr => ∃ j : Nat, j ≤ n ∧ i = .int .i64 (j : Int) ∧ Hid (∀ z ∈ tLens (es.take j) xs, z ≤ 200000) ∧ Hid (Below w.heap.size w wr)) (fun i _ => n - (intOf i).toNat)
  case atStart => exact ⟨0, by omega, rfl, hidv (by simp [tLens]), hidv (Below.refl _ _)⟩
  case round =>
    obtain ⟨j, hj, rfl, hsm, hbe⟩ := hrel
    by_cases hlt : j < n
    · have hjx : j < es.length := by have := HN.out; omega
      obtain ⟨g, o, rfl, hg, hce⟩ := HA.out (by have := HN.out; omega)
      have c1 : wr.cell? ⟨g, o + j * 2, none⟩ = some (.string es[j].1) := (hbe.out.cell (p := ⟨g, _, none⟩) (by show g < _; omega)).trans (hce j hjx).1
      have c2 := hidv (fun W (hW : Below w.heap.size w W) => (show W.cell? ⟨g, o + j * 2 + 1, none⟩ = some (.string es[j].2) from (hW.cell (p := ⟨g, _, none⟩) (by show g < _; omega)).trans (hce j hjx).2))
      have hsz := sysB_szAt HS.out j hjx
      have htm := eqnB_terms (sysB_at HS.out j hjx)
      have hsu := tLens_succ es xs j hjx
      have hin : termLen es[j].1.data.toList xs ∈ tLens es xs ∧ termLen es[j].2.data.toList xs ∈ tLens es xs := by
        unfold tLens
        rw [List.mem_flatMap, List.mem_flatMap]
        exact ⟨⟨es[j], List.getElem_mem _, by simp⟩, ⟨es[j], List.getElem_mem _, by simp⟩⟩
      have b1 := termLen_uptoM hsz.1 htm.1 HX.out es[j].1.size
      have b2 := termLen_uptoM hsz.2 htm.2 HX.out es[j].2.size
      rw [List.take_of_length_le (by simp)] at b1 b2
      obtain ⟨⟨x, y⟩, hxy⟩ : ∃ x, es[j] = x := ⟨_, rfl⟩
      rw [hxy] at c1 c2 hsz htm hsu b1 b2 hin
      dsimp only at c1 c2 hsz htm hsu b1 b2 hin
      have D1 := fun W hW => C1.out x W hW hsz.1 htm.1
      have D2 := fun W hW => C1.out y W hW hsz.2 htm.2
      obtain ⟨a, ha⟩ : ∃ a, termLen x.data.toList xs = a := ⟨_, rfl⟩
      obtain ⟨b', hb'⟩ : ∃ b, termLen y.data.toList xs = b := ⟨_, rfl⟩
      rw [ha] at D1 hsu b1 hin
      rw [hb'] at D2 hsu b2 hin
      have HD1 := hidv D1
      have HD2 := hidv D2
      have HSU := hidv hsu
      have HIN := hidv hin
      obtain ⟨a0, a1⟩ := b1
      obtain ⟨b0, b1'⟩ := b2
      have i1 : (0 : Int) ≤ (j : Int) := by omega
      have i2 : (j : Int) < (n : Int) := by omega
      clear hce hxy hsz htm hsu hin D1 D2 ha hb'
      by_cases hbig : 200000 < a
      · obtain ⟨rfl, rfl⟩ := HR1.out ⟨a, HIN.out.1, hbig⟩
        go_wp2_with fail
        refine (HD1.out _ hbe.out).mono ?_
        rintro e w1 ⟨rfl, hb1⟩
        have HB1 := hidv (below_on hbe.out hb1)
        clear hb1
        go_wp2_with fail
        go_ret2
        exact ⟨rfl, HB1.out⟩
      · go_wp2_with fail
        refine (HD1.out _ hbe.out).mono ?_
        rintro e w1 ⟨rfl, hb1⟩
        have HB1 := hidv (below_on hbe.out hb1)
        have c3 := c2.out _ HB1.out
        clear hb1
        by_cases hbig2 : 200000 < b'
        · obtain ⟨rfl, rfl⟩ := HR1.out ⟨b', HIN.out.2, hbig2⟩
          go_wp2_with fail
          refine (HD2.out _ HB1.out).mono ?_
          rintro e w2 ⟨rfl, hb2⟩
          have HB2 := hidv (below_on HB1.out hb2)
          clear hb2 c3
          go_wp2_with fail
          go_ret2
          exact ⟨rfl, HB2.out⟩
        · go_wp2_with fail
          refine (HD2.out _ HB1.out).mono ?_
          rintro e w2 ⟨rfl, hb2⟩
          have HB2 := hidv (below_on HB1.out hb2)
          clear hb2 c3
          go_wp2_with fail
          go_roundw
          case rel =>
            refine ⟨j + 1, by omega, by go_num, hidv ?_, HB2⟩
            rw [HSU.out]
            intro z hz
            rcases List.mem_append.1 hz with hz | hz
            · exact hsm.out z hz
            · simp only [List.mem_cons, List.not_mem_nil, or_false] at hz
              rcases hz with rfl | rfl <;> omega
          case measure => simp [intOf]; omega
    · obtain rfl : n = j := by omega
      have hall := hsm.out
      rw [List.take_of_length_le (by have := HN.out; omega)] at hall
      obtain ⟨hd, rfl⟩ := HR2.out (fun ⟨z, hz, h⟩ => by have := hall z hz; omega)
      have HD := hidv hd
      have HALL := hidv hall
      have HVQ := hidv (HVM.out hall)
      have HO := hidv (fun x hx ho => HOS.out hall x hx ho)
      clear hd hall HR1 HR2 HOS HVM
      have hlit := World.ownsRow_lit (e := 9) (size := 1) (base := w.heap.size) wr #[] 0 hbe.out.size (Nat.zero_le _) rfl
      have hlb := below_al hbe.out (.cells #[] 9)
      have hsw := hbe.out.size
      go_wp2_with fail
      refine (C2.out _ hlb).mono ?_
      rintro e w1 ⟨g1, rfl, hu, hb1⟩
      have hu1 := own_wider hu hlb.size
      have HLI := hidv (own_below hlit hb1)
      have HU := hidv hu1
      have HB1 := hidv (below_on hlb hb1)
      obtain ⟨o1, ho1⟩ : ∃ a, wr.heap.size = a := ⟨_, rfl⟩
      rw [ho1] at HLI ⊢
      clear hlit hlb hu hu1 hb1
      go_wp2_with fail
      clear ho1
      go_loopw [9, 11] (fun u i wr => ∃ j : Nat, j ≤ 4 ∧ i = .int .i64 (j : Int) ∧ Hid (World.ownsRow wr w.heap.size 9 1 u j (((valsQ es rs q).take j).map Value.string)) ∧ Hid (World.ownsRow wr w.heap.size 4 1 (.slice (some ⟨g1, 0, none⟩) 4 4) 4 ((occL es).map Value.bool)) ∧ Hid (Below w.heap.size w wr)) (fun _ i _ => 4 - (intOf i).toNat)
      case atStart => exact ⟨0, by omega, rfl, HLI, HU, HB1⟩
      case round =>
        obtain ⟨j, hj4, rfl, hown, hbo, hbe2⟩ := hrel
        by_cases hlt4 : j < 4
        · have hjv : j < (valsQ es rs q).length := by rw [valsQ_len]; omega
          have hjr : j < rs.length := by have := HRN.out; omega
          have hvq := valsQ_get (es := es) (rs := rs) (k := q) hlt4 hjv
          have hsu : ((valsQ es rs q).take (j + 1)) = (valsQ es rs q).take j ++ [(valsQ es rs q)[j]] := List.take_succ_eq_append_getElem hjv
          have cu : wr.cell? ⟨g1, j, none⟩ = some (.bool (occ es j)) := by
            rw [hbo.out.cellAt j (by omega), List.getElem?_map, occL_at _ _ hlt4]; rfl
          have i1 : (0 : Int) ≤ (j : Int) := by omega
          have i2 : (j : Int) < 4 := by omega
          have hsw2 := hbe2.out.size
          have HOJ := hidv (HO.out j hlt4)
          obtain ⟨oc, hoc⟩ : ∃ b, occ es j = b := ⟨_, rfl⟩
          rw [hoc] at cu hvq HOJ
          clear hoc
          cases oc
          · rw [hvq] at hsu
            have HSU := hidv hsu
            clear hvq hsu
            go_wp2_with (at_builtin; refine wpList_append_own _ rfl (.tmp 62) (.tmp 64) 66 rfl w.heap.size 9 i0 (.string ⟨#[]⟩) 1 16 Tryz.underlying66 hi hz0 hz1 hz2 rfl (by decide) _ _ _ rfl (hown.out.alloc _) ⟨wr.heap.size, 0, none⟩ 1 1 [.string ⟨#[]⟩] rfl rfl (one_newL wr _ _) (one_cellH _) ?_ ?_ ?_ ?_; (unfold maxLen; omega); omega; (simp; omega); intro v1 w5 hown1 hgr1 _)
            go_roundw
            case rel =>
              refine ⟨j + 1, by omega, by go_num, hidv ?_, hidv (own_kindsH (hown.out.alloc _) (hbo.out.alloc _) (by decide) hgr1), hidv (growL hbe2.out (Nat.le_refl _) hown.out hgr1)⟩
              rw [HSU.out, List.map_append]
              exact hown1
            case measure => simp [intOf]; omega
          · obtain ⟨g, o, rfl, hg, hce⟩ := HF.out (by have := HRN.out; omega)
            obtain ⟨a, cq, e0, r1⟩ := hce j hjr
            have c0 := HB0.out _ hbe2.out
            have c1 := (hbe2.out.cell (p := ⟨g, o + j, none⟩) (by show g < w.heap.size; omega)).trans e0
            obtain ⟨_, hsm2⟩ := HOJ.out rfl
            have HC := hidv (C4.out _ hbe2.out j hjr a cq r1 (by omega))
            rw [if_pos rfl, show rs.getD j [] = rs[j] by simp [hjr]] at hvq
            rw [hvq] at hsu
            have HSU := hidv hsu
            obtain ⟨l, hl⟩ : ∃ l, rs[j].length = l := ⟨_, rfl⟩
            obtain ⟨t, ht⟩ : ∃ t, wordV q rs[j] = t := ⟨_, rfl⟩
            rw [hl] at c1 HC
            rw [ht] at HC HSU
            clear hvq hsu hce e0 r1 hl ht hsm2
            go_wp2_with fail
            refine HC.out.mono ?_
            rintro e w4 ⟨rfl, hb4⟩
            have HB4 := hidv (below_on hbe2.out hb4)
            have HO4 := hidv (own_below hown.out hb4)
            have HK4 := hidv (own_below hbo.out hb4)
            have hsz := HB4.out.size
            clear hb4
            go_wp2_with (at_builtin; refine wpList_append_own _ rfl (.tmp 62) (.tmp 64) 66 rfl w.heap.size 9 i0 (.string ⟨#[]⟩) 1 16 Tryz.underlying66 hi hz0 hz1 hz2 rfl (by decide) _ _ _ rfl (HO4.out.alloc _) ⟨w4.heap.size, 0, none⟩ 1 1 [.string t] rfl rfl (one_newL w4 _ _) (one_cellH _) ?_ ?_ ?_ ?_; (unfold maxLen; omega); omega; (simp; omega); intro v1 w5 hown1 hgr1 _)
            go_roundw
            case rel =>
              refine ⟨j + 1, by omega, by go_num, hidv ?_, hidv (own_kindsH (HO4.out.alloc _) (HK4.out.alloc _) (by decide) hgr1), hidv (growL HB4.out (Nat.le_refl _) HO4.out hgr1)⟩
              rw [HSU.out, List.map_append]
              exact hown1
            case measure => simp [intOf]; omega
        · obtain rfl : j = 4 := by omega
          rw [List.take_of_length_le (by rw [valsQ_len]; omega)] at hown
          obtain ⟨w2, rfl⟩ : ∃ x, x = wr := ⟨_, rfl⟩
          have hrow := Row.of_own hown.out
          obtain ⟨vs, hvs⟩ : ∃ vs, valsQ es rs q = vs := ⟨_, rfl⟩
          rw [hvs] at hrow HVQ HD HPL
          have HROW := hidv hrow
          have HBE2 := hidv hbe2.out
          clear hrow hvs hown hbo hbe2
          go_wp2_with fail
          go_loopw [13] (fun i wr => ∃ j : Nat, j ≤ n ∧ i = .int .i64 (j : Int) ∧ Hid ((es.take j).all (evenB vs) = true) ∧ Hid (Below w2.heap.size w2 wr)) (fun i _ => n - (intOf i).toNat)
          case atStart => exact ⟨0, by omega, rfl, hidv (by simp), hidv (Below.refl _ _)⟩
          case round =>
            obtain ⟨j, hj, rfl, hall, hbr⟩ := hrel
            have hbe3 := below_on HBE2.out hbr.out
            by_cases hlt : j < n
            · have hjx : j < es.length := by have := HN.out; omega
              obtain ⟨g, o, rfl, hg, hce⟩ := HA.out (by have := HN.out; omega)
              have c1 : wr.cell? ⟨g, o + j * 2, none⟩ = some (.string es[j].1) := (hbe3.cell (p := ⟨g, _, none⟩) (by show g < _; omega)).trans (hce j hjx).1
              have c2 : wr.cell? ⟨g, o + j * 2 + 1, none⟩ = some (.string es[j].2) := (hbe3.cell (p := ⟨g, _, none⟩) (by show g < _; omega)).trans (hce j hjx).2
              have hgl : g < wr.heap.size := by have := hbe3.size; omega
              have hsz := sysB_szAt HS.out j hjx
              have htm := eqnB_terms (sysB_at HS.out j hjx)
              have hsu := all_succG es (evenB vs) j hjx
              have hfa := all_falseG es (evenB vs) j hjx
              have hpl := HPL.out j hjx
              rw [hall.out, Bool.true_and] at hsu
              obtain ⟨⟨x, y⟩, hxy⟩ : ∃ x, es[j] = x := ⟨_, rfl⟩
              rw [hxy] at c1 c2 hsz htm hsu hfa hpl
              dsimp only at c1 c2 hsz htm hpl
              have D1 := fun W hW => C1.out x W hW hsz.1 htm.1
              have D2 := fun W hW => C1.out y W hW hsz.2 htm.2
              have E1 := fun W (hW : Below w2.heap.size w2 W) => HP.out x hsz.1 htm.1 _ vs HVQ.out _ W (HROW.out.below hW) hW.size
              have E2 := fun W (hW : Below w2.heap.size w2 W) => HP.out y hsz.2 htm.2 _ vs HVQ.out _ W (HROW.out.below hW) hW.size
              have HS3 := hidv (fun w' (hw : Below wr.heap.size wr w') => (show w'.cell? ⟨g, o + j * 2, none⟩ = some (.string x) ∧ w'.cell? ⟨g, o + j * 2 + 1, none⟩ = some (.string y) ∧ Below wr.heap.size wr w' from ⟨(hw.cell (p := ⟨g, _, none⟩) hgl).trans c1, (hw.cell (p := ⟨g, _, none⟩) hgl).trans c2, hw⟩))
              have HK := hidv (fun w' (hw : Below wr.heap.size wr w') => below_on hbe3 hw)
              have HK2 := hidv (fun w' (hw : Below wr.heap.size wr w') => below_on hbr.out hw)
              have i1 : (0 : Int) ≤ (j : Int) := by omega
              have i2 : (j : Int) < (n : Int) := by omega
              rw [← hpl.1] at D1
              rw [← hpl.2] at D2
              have rf : Below wr.heap.size wr wr := Below.refl _ _
              by_cases hpq : putL x.data.toList vs = putL y.data.toList vs
              · rw [hpq] at D1 E1
                have HSU := hidv (hsu.trans (decide_eq_true hpq))
                obtain ⟨p, hp⟩ : ∃ p : ByteArray, ⟨⟨putL y.data.toList vs⟩⟩ = p := ⟨_, rfl⟩
                obtain ⟨a, ha⟩ : ∃ a : Int, ((putL y.data.toList vs).length : Int) = a := ⟨_, rfl⟩
                rw [hp] at E1 E2
                rw [ha] at D1 D2
                have HD1 := hidv D1
                have HD2 := hidv D2
                have HE1 := hidv E1
                have HE2 := hidv E2
                clear hce hxy hsz htm hsu hfa hpq hp ha hpl D1 D2 E1 E2 hbe3
                go_wp2_with fail
                go_region_held3 (fun w' => w'.cell? ⟨g, o + j * 2, none⟩ = some (.string x) ∧ w'.cell? ⟨g, o + j * 2 + 1, none⟩ = some (.string y) ∧ Below wr.heap.size wr w') (exact HS3.out _ (by repeat (first | with_reducible assumption | with_reducible exact Below.refl _ _ | with_reducible refine Below.drew ?_ | with_reducible refine below_al ?_ _))) (first | (go_at_call 32; (first | with_reducible refine (HD1.out _ ?_).mono ?_ | with_reducible refine (HD2.out _ ?_).mono ?_); exact HK.out _ (by repeat (first | with_reducible assumption | with_reducible exact Below.refl _ _ | with_reducible refine Below.drew ?_ | with_reducible refine below_al ?_ _)); rintro e w3 ⟨rfl, hb3⟩; have hbw := below_on (show Below wr.heap.size wr _ from (by repeat (first | with_reducible assumption | with_reducible exact Below.refl _ _ | with_reducible refine Below.drew ?_ | with_reducible refine below_al ?_ _))) hb3; clear hb3) | (go_at_call 35; (first | with_reducible refine (HE1.out _ ?_).mono ?_ | with_reducible refine (HE2.out _ ?_).mono ?_); exact HK2.out _ (by repeat (first | with_reducible assumption | with_reducible exact Below.refl _ _ | with_reducible refine Below.drew ?_ | with_reducible refine below_al ?_ _)); rintro e w3 ⟨rfl, hb3⟩; have hbw := below_on (show Below wr.heap.size wr _ from (by repeat (first | with_reducible assumption | with_reducible exact Below.refl _ _ | with_reducible refine Below.drew ?_ | with_reducible refine below_al ?_ _))) hb3; clear hb3))
                go_wp2_with fail
                have HBE := hidv (HK2.out _ hbw)
                go_roundw
                case rel => exact ⟨_, _, _, _, _, _, _, _, _, _, _, _, _, _, _, _, _, _, _, _, _, _, _, _, _, _, _, _, _, _, _, _, _, _, _, _, _, _, _, _, _, _, _, ⟨j + 1, by omega, by go_num, HSU, HBE⟩, rfl⟩
                case measure => simp [intOf]; omega
              · have HFA := hidv (hfa (decide_eq_false hpq))
                have hne := ba_ne hpq
                by_cases hln : ((putL x.data.toList vs).length : Int) = ((putL y.data.toList vs).length : Int)
                · rw [hln] at D1
                  obtain ⟨p, hp⟩ : ∃ p : ByteArray, ⟨⟨putL x.data.toList vs⟩⟩ = p := ⟨_, rfl⟩
                  obtain ⟨p2, hp2⟩ : ∃ p : ByteArray, ⟨⟨putL y.data.toList vs⟩⟩ = p := ⟨_, rfl⟩
                  obtain ⟨a, ha⟩ : ∃ a : Int, ((putL y.data.toList vs).length : Int) = a := ⟨_, rfl⟩
                  rw [hp] at E1 hne
                  rw [hp2] at E2 hne
                  rw [ha] at D1 D2
                  have hbn := toList_ne hne
                  have HD1 := hidv D1
                  have HD2 := hidv D2
                  have HE1 := hidv E1
                  have HE2 := hidv E2
                  clear hce hxy hsz htm hsu hfa hpq hp hp2 ha hpl hln D1 D2 E1 E2 hbe3 hne
                  go_wp2_with fail
                  go_region_held3 (fun w' => w'.cell? ⟨g, o + j * 2, none⟩ = some (.string x) ∧ w'.cell? ⟨g, o + j * 2 + 1, none⟩ = some (.string y) ∧ Below wr.heap.size wr w') (exact HS3.out _ (by repeat (first | with_reducible assumption | with_reducible exact Below.refl _ _ | with_reducible refine Below.drew ?_ | with_reducible refine below_al ?_ _))) (first | (go_at_call 32; (first | with_reducible refine (HD1.out _ ?_).mono ?_ | with_reducible refine (HD2.out _ ?_).mono ?_); exact HK.out _ (by repeat (first | with_reducible assumption | with_reducible exact Below.refl _ _ | with_reducible refine Below.drew ?_ | with_reducible refine below_al ?_ _)); rintro e w3 ⟨rfl, hb3⟩; have hbw := below_on (show Below wr.heap.size wr _ from (by repeat (first | with_reducible assumption | with_reducible exact Below.refl _ _ | with_reducible refine Below.drew ?_ | with_reducible refine below_al ?_ _))) hb3; clear hb3) | (go_at_call 35; (first | with_reducible refine (HE1.out _ ?_).mono ?_ | with_reducible refine (HE2.out _ ?_).mono ?_); exact HK2.out _ (by repeat (first | with_reducible assumption | with_reducible exact Below.refl _ _ | with_reducible refine Below.drew ?_ | with_reducible refine below_al ?_ _)); rintro e w3 ⟨rfl, hb3⟩; have hbw := below_on (show Below wr.heap.size wr _ from (by repeat (first | with_reducible assumption | with_reducible exact Below.refl _ _ | with_reducible refine Below.drew ?_ | with_reducible refine below_al ?_ _))) hb3; clear hb3))
                  go_wp2_with fail
                  have HBE := hidv (HK.out _ hbw)
                  go_ret2
                  exact ⟨ret_boolint (by rw [HD.out]; exact HFA.out.symm) rfl, HBE.out⟩
                · have Q1 := fun m => CQ.out x (wr.drewN m) (below_drewN hbe3 m) hsz.1 htm.1
                  have Q2 := fun m => CQ.out y (wr.drewN m) (below_drewN hbe3 m) hsz.2 htm.2
                  rw [← hpl.1] at Q1
                  rw [← hpl.2] at Q2
                  obtain ⟨a, ha⟩ : ∃ a : Int, ((putL x.data.toList vs).length : Int) = a := ⟨_, rfl⟩
                  obtain ⟨a2, ha2⟩ : ∃ a : Int, ((putL y.data.toList vs).length : Int) = a := ⟨_, rfl⟩
                  rw [ha] at Q1 hln
                  rw [ha2] at Q2 hln
                  have HQ1 := hidv Q1
                  have HQ2 := hidv Q2
                  have HBE3 := hidv hbe3
                  clear hce hxy hsz htm hsu hfa hpq ha ha2 hpl D1 D2 E1 E2 Q1 Q2 hbe3 hne
                  go_wp2_with fail
                  go_quiet (first | (go_at_call 32; first | (with_reducible exact Calls.quiet_of (HQ1.out _)) | (with_reducible exact Calls.quiet_of (HQ2.out _))))
                  go_wp2_with fail
                  go_ret2
                  exact ⟨ret_boolint (by rw [HD.out]; exact HFA.out.symm) rfl, below_drewN HBE3.out _⟩
            · obtain rfl : j = n := by omega
              go_wp2_with fail
              go_ret2
              refine ⟨ret_boolint ?_ rfl, hbe3⟩
              have h2 := hall.out
              rw [List.take_of_length_le (by have := HN.out; omega)] at h2
              rw [HD.out]
              exact h2.symm

end Go.Proofs.YtdnkdmmockoehaaGreat
