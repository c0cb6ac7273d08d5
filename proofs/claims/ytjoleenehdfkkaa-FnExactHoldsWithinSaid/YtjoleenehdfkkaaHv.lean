/-
  HoldsWithin, of the program: a contract.
-/
import Derived.Test.YtjoleenehdfkkaaHw
namespace Go.Proofs.Ytjoleenehdfkkaa
open Go.RowKit Go
set_option linter.unusedVariables false

theorem ix4b (cs : Array Value) (i : Nat) (v : Value) (hi : i < 4) (hv : cs[i]? = some v) (w : World) :
    (Instr.index 60 (.agg cs) (.int .i64 (i : Int))).run Try.prog w = .ok v w := by
  have h1 : (0 : Int) ≤ (i : Int) ∧ (i : Int) < ((4 : Nat) : Int) := by omega
  simp [Instr.index, run_underlying Try.underlying60, asIntOf, part, Try.isAgg4, Try.sizeOf4, go_sem, h1, hv]
  omega

set_option maxRecDepth 100000 in
set_option maxHeartbeats 3200000 in
theorem implWithin_any (v u y : Value) (es : List Eqn) (s : Int) (ns ps : List (List Int)) (xs : List ByteArray) (B C D : Nat) (w : World) (hv : ERow w C v es) (hC : C ≤ w.heap.size) (hx : es.length ≤ 1048576) (hs : ∀ e ∈ es, e.1.size ≤ maxLen ∧ e.2.size ≤ maxLen)
    (hy : Bnd w B y s ns ps) (hB : B ≤ w.heap.size) (hn : RowsMax maxLen ns) (hp : RowsMax maxLen ps) (hr : Row w D u (xs.map Value.string)) (hD : D ≤ w.heap.size) (hxl : xs.length ≤ 1048576) (hxs : ∀ s ∈ xs, s.size ≤ maxLen) (d : Bool) (c : Int) (hR : WithinR es s ns ps xs d c) :
    Calls Try.prog 12 #[v, y, u] w fun e w' => e = .returned (.tuple #[.bool d, .int .i64 c]) ∧ Below w.heap.size w w' := by
  obtain ⟨A, ca, P, cp, rfl⟩ := (hy.more hB).form
  have hy2 := hy.more hB
  obtain ⟨d1, hd1⟩ := iffB (BndOk s ns ps)
  have HD1 := hidv hd1
  have HR := hidv hR
  have C1 := hidv (fun W (hW : Below w.heap.size w W) => implVB_any _ s ns ps w.heap.size W (hy2.below hW) hW.size hn hp d1 hd1)
  have C2 := hidv (fun W (hb : Below w.heap.size w W) => implHolds_any v u es xs C D W (hv.below (hb.mono hC)) (Nat.le_trans hC hb.size) hx hs (hr.below (hb.mono hD)) (Nat.le_trans hD hb.size) hxl hxs)
  have C3 := hidv (fun W (hb : Below w.heap.size w W) (h : sysB es = true) => occurring_any v es C W (hv.below (hb.mono hC)) (Nat.le_trans hC hb.size) (fun e he => by
    obtain ⟨k, hk, rfl⟩ := List.getElem_of_mem he
    have := sysB_szAt h k hk
    omega) hx)
  have HV := hidv hy2
  have HPM := hidv hp
  obtain ⟨Au, cu, rfl, hU⟩ := strRow_at hr
  obtain ⟨Av, cv, rfl, _⟩ := hv
  have HU := hidv hU
  obtain ⟨n, hnn⟩ : ∃ n, ns.length = n := ⟨_, rfl⟩
  obtain ⟨m, hmm⟩ : ∃ m, ps.length = m := ⟨_, rfl⟩
  obtain ⟨N, hN⟩ : ∃ n, es.length = n := ⟨_, rfl⟩
  obtain ⟨M, hM⟩ : ∃ n, xs.length = n := ⟨_, rfl⟩
  obtain ⟨p, hpp⟩ : ∃ p, holdsV es xs = p := ⟨_, rfl⟩
  obtain ⟨q, hqq⟩ : ∃ q, holdsC es xs = q := ⟨_, rfl⟩
  rw [hnn, hmm] at C1 HV ⊢
  rw [hN, hM, hpp, hqq] at C2
  rw [hN] at C3
  rw [hN, hM]
  have HNN := hidv hnn
  have HMM := hidv hmm
  have HM := hidv hM
  have HPP := hidv hpp
  have HQQ := hidv hqq
  have hbx := Bx.new w 34 #[.int .i64 s, .slice A n ca, .slice P m cp]
  have hb : Below w.heap.size w (w.alloc (.cells #[.int .i64 s, .slice A n ca, .slice P m cp] 34)) := (Below.refl _ _).alloc (by simp) _
  obtain ⟨W, hW⟩ : ∃ W, w.alloc (.cells #[.int .i64 s, .slice A n ca, .slice P m cp] 34) = W := ⟨_, rfl⟩
  rw [hW] at hbx hb
  have HB := hidv hb
  have HBX := hidv hbx
  have HWW := hidv hW
  clear hy hy2 hn hp hR hd1 hbx hb hW hnn hmm hN hM hpp hqq hr hxs hs hU
  go_enter Try.func12, Try.ntmps12
  go_wp2_with fail
  rw [HWW.out]
  refine (C1.out _ HB.out).mono ?_
  rintro e w1 ⟨rfl, hb1⟩
  have HB1 := hidv (below_on HB.out hb1)
  have HBX1 := hidv (HBX.out.below hb1)
  clear hb1
  cases d1
  · obtain ⟨rfl, rfl⟩ := HR.out.1 (fun h => absurd (HD1.out.mpr h.2.1) (by simp))
    go_wp2_with fail
    go_ret2
    exact ⟨rfl, HB1.out⟩
  have HOK := hidv (show BndOk s ns ps from HD1.out.mp (by trivial))
  go_wp2_with fail
  refine (C2.out _ HB1.out).mono ?_
  rintro e w2 ⟨rfl, hb2⟩
  have HB2 := hidv (below_on HB1.out hb2)
  have HBX2 := hidv (HBX1.out.below hb2)
  clear hb2
  cases p
  · have hdc : d = false ∧ c = q := by
      have h1 := HPP.out
      have h2 := HQQ.out
      unfold holdsV at h1
      unfold holdsC at h2
      by_cases hg : sysB es = true ∧ BndOk s ns ps ∧ valsB xs = true
      · rw [hg.1, hg.2.2] at h1 h2
        obtain ⟨h3, h4⟩ := HR.out.2 hg
        refine ⟨?_, by rw [h3, ← h2]; rfl⟩
        exact iff_no h4 (fun h5 => by
          have h6 : holdsB es xs = false := by simpa using h1
          rw [h6] at h5; cases h5.1)
      · obtain ⟨h3, h4⟩ := HR.out.1 hg
        refine ⟨h3, ?_⟩
        rw [h4, ← h2]
        cases h5 : sysB es <;> cases h6 : valsB xs <;> simp_all [HOK.out]
    obtain ⟨rfl, rfl⟩ := hdc
    go_wp2_with fail
    go_ret2
    exact ⟨rfl, HB2.out⟩
  have hgood : (sysB es = true ∧ valsB xs = true) ∧ holdsB es xs = true := by
    have h := HPP.out
    unfold holdsV at h
    cases h1 : sysB es <;> cases h2 : valsB xs <;> simp_all
  obtain ⟨rfl, hd⟩ := HR.out.2 ⟨hgood.1.1, HOK.out, hgood.1.2⟩
  have HDD := hidv (show d = true ↔ WithinP es s ns ps xs from ⟨fun h => (hd.mp h).2, fun h => hd.mpr ⟨hgood.2, h⟩⟩)
  have HVS := hidv (fun k hk => vals_at hgood.1.2 k hk)
  have hM4 : M = 4 := by
    have h := hgood.1.2
    unfold valsB at h
    rw [Bool.and_eq_true, decide_eq_true_eq] at h
    have := HM.out
    omega
  subst hM4
  have HSY := hidv hgood.1.1
  obtain ⟨st, hst⟩ : ∃ st : Nat, s = (st : Int) := ⟨s.toNat, by have := HOK.out.2.1; omega⟩
  have hstn : st < ns.length := by have := HOK.out.2.1; omega
  have hst4 : st < 4 := by have := HOK.out.1.2; omega
  have HST := hidv hst
  clear hgood hd hst
  go_wp2_with fail
  refine (C3.out _ HB2.out HSY.out).mono ?_
  rintro e w3 ⟨rfl, hb3⟩
  have HB3 := hidv (below_on HB2.out hb3)
  have HBX3 := hidv (HBX2.out.below hb3)
  clear hb3
  obtain ⟨OV, hOV⟩ : ∃ OV : Array Value, #[.bool (occ es 0), .bool (occ es 1), .bool (occ es 2), .bool (occ es 3)] = OV := ⟨_, rfl⟩
  have HIX := hidv (fun k (hk : k < 4) W => ix4b OV k (.bool (occ es k)) hk (by
    rw [← hOV]
    rcases uk_four hk with rfl | rfl | rfl | rfl <;> rfl) W)
  rw [hOV]
  clear hOV
  go_wp2_with fail
  go_loopw [26] (fun i wr => ∃ k : Nat, k ≤ 4 ∧ i = .int .i64 (k : Int) ∧ Hid (∀ j, j < k → occ es j = true → Allow5 s ns ps j (xs.getD j ⟨#[]⟩)) ∧ Hid (Bx wr w.heap.size 34 #[.int .i64 s, .slice A n ca, .slice P m cp]) ∧ Hid (Below w.heap.size w wr)) (fun i _ => 4 - (intOf i).toNat)
  case atStart => exact ⟨0, by omega, rfl, hidv (fun j hj => by omega), HBX3, HB3⟩
  case round =>
    obtain ⟨k, hk, rfl, hall, hbx, hbe⟩ := hrel
    by_cases hlt : k < 4
    · obtain ⟨hkx, hword, hget⟩ := HVS.out k hlt
      have hix := HIX.out k hlt
      obtain ⟨o, ho⟩ : ∃ o, occ es k = o := ⟨_, rfl⟩
      rw [ho] at hix
      obtain ⟨gx, ox, rfl, hgx, hcx⟩ := HU.out (by have := HM.out; omega)
      have hcell := hcx k hkx
      obtain ⟨x, hxk⟩ : ∃ x, xs[k] = x := ⟨_, rfl⟩
      rw [hxk] at hcell hword hget
      have i1 : (0 : Int) ≤ (k : Int) := by omega
      have i2 : (k : Int) < 4 := by omega
      have HOO := hidv ho
      have HGG := hidv hget
      clear ho
      have hgw : gx < w.heap.size := by omega
      cases o
      · have hall2 := hidv (show ∀ j, j < k + 1 → occ es j = true → Allow5 s ns ps j (xs.getD j ⟨#[]⟩) from fun j hj ho => by
          rcases Nat.lt_or_ge j k with h2 | h2
          · exact hall.out j h2 ho
          · obtain rfl : j = k := by omega
            rw [HOO.out] at ho; cases ho)
        clear hget hword hxk hcx
        go_wp2_with fail
        go_quiet (fail)
        go_wp2_with fail
        go_roundw
        case rel => exact ⟨k + 1, by omega, by go_num, hall2, hidv (show Bx wr _ _ _ from hbx.out), hidv (below_drewN hbe.out _)⟩
        case measure => simp [intOf]; omega
      · have hml := mapM_lt HOK.out x.data.toList [0, 1, 2, 3] (wordOk_of hword) rfl (by decide)
        obtain ⟨x0, x1, x2, x3, hm⟩ := four_of hml.1
        have hT : [x0, x1, x2, x3][st]? = some (runM ns x.data.toList st) := by
          have h1 := mapM_run HOK.out x.data.toList [0, 1, 2, 3] (wordOk_of hword) st hst4
          have h2 : ([0, 1, 2, 3] : List Nat).getD st 0 = st := by
            rcases uk_four hst4 with rfl | rfl | rfl | rfl <;> rfl
          rw [h2] at h1
          have h3 := h1 hstn
          rw [hm] at h3
          rw [← h3, List.getD_eq_getElem?_getD, List.getElem?_eq_getElem (show st < [x0, x1, x2, x3].length from hst4)]
          rfl
        obtain ⟨a, ha⟩ := iffB (Allow5 s ns ps k x)
        have ha2 : a = true ↔ ((runM ns x.data.toList st : Nat) : Int) ∈ ps.getD k [] := by
          have h := ha
          unfold Allow5 ends5 at h
          rw [HST.out, Int.toNat_natCast] at h
          exact h
        have CM := hidv (fun W (hW : Below w.heap.size w W) => mapOfWord_any _ s ns ps w.heap.size x W (HV.out.below hW) hW.size HOK.out hword x0 x1 x2 x3 hm)
        have CE := hidv (fun W (hW : Below w.heap.size w W) => endsWith_any (.agg #[.int .i64 s, .slice A n ca, .slice P m cp]) st ns ps w.heap.size k x0 x1 x2 x3 _ W (by have h := HV.out.below hW; rw [HST.out] at h ⊢; exact h) hW.size HPM.out HOK.out.2.2.1 hst4 hlt hT a ha2)
        have HAA := hidv ha
        have HSS := hidv (fun W (hW : Below wr.heap.size wr W) => (show W.cell? ⟨w.heap.size, 0, none⟩ = some (.int .i64 s) ∧ W.cell? ⟨w.heap.size, 1, none⟩ = some (.slice A n ca) ∧ W.cell? ⟨w.heap.size, 2, none⟩ = some (.slice P m cp) ∧ W.cell? ⟨gx, ox + k, none⟩ = some (.string x) ∧ Below wr.heap.size wr W from
          ⟨(hbx.out.below hW).cell 0, (hbx.out.below hW).cell 1, (hbx.out.below hW).cell 2, ((below_on hbe.out hW).cell (p := ⟨gx, ox + k, none⟩) hgw).trans hcell, hW⟩))
        have HBT := hidv (fun W (hW : Below wr.heap.size wr W) => below_on hbe.out hW)
        clear hget hword hxk hcx hml hm hT ha ha2 hcell
        have rf1 : Below wr.heap.size wr wr := Below.refl _ _
        go_wp2_with fail
        obtain ⟨z0, z1, z2, z3, _⟩ := HSS.out wr rf1
        clear hix
        go_region_with (first | (go_at_call 30; refine (CM.out _ (HBT.out _ (by repeat (first | with_reducible assumption | with_reducible exact Below.refl _ _ | with_reducible refine Below.drew ?_ | with_reducible refine below_al ?_ _)))).mono ?_; rintro e w5 ⟨rfl, hb5⟩; have BL5 := below_on (show Below wr.heap.size wr _ from (by repeat (first | with_reducible assumption | with_reducible exact Below.refl _ _ | with_reducible refine Below.drew ?_ | with_reducible refine below_al ?_ _))) hb5; obtain ⟨z0, z1, z2, z3, _⟩ := HSS.out _ BL5) | (go_at_call 29; refine (CE.out _ (HBT.out _ (by repeat (first | with_reducible assumption | with_reducible exact Below.refl _ _ | with_reducible refine Below.drew ?_ | with_reducible refine below_al ?_ _)))).mono ?_; rintro e w6 ⟨rfl, hb6⟩; have BL6 := below_on (show Below wr.heap.size wr _ from (by repeat (first | with_reducible assumption | with_reducible exact Below.refl _ _ | with_reducible refine Below.drew ?_ | with_reducible refine below_al ?_ _))) hb6))
        all_goals (
          cases a
          · obtain rfl : d = false := iff_no HDD.out (fun h => by
              have h2 := h k hlt HOO.out
              rw [HGG.out] at h2
              exact absurd (HAA.out.mpr h2) (by simp))
            go_wp2_with fail
            go_ret2
            exact ⟨rfl, HBT.out _ (by repeat (first | with_reducible assumption | with_reducible exact Below.refl _ _ | with_reducible refine Below.drew ?_ | with_reducible refine below_al ?_ _))⟩
          · have hall2 := hidv (show ∀ j, j < k + 1 → occ es j = true → Allow5 s ns ps j (xs.getD j ⟨#[]⟩) from fun j hj ho => by
              rcases Nat.lt_or_ge j k with h2 | h2
              · exact hall.out j h2 ho
              · obtain rfl : j = k := by omega
                rw [HGG.out]; exact HAA.out.mp (by trivial))
            go_wp2_with fail
            go_roundw
            case rel => exact ⟨k + 1, by omega, by go_num, hall2, hidv (hbx.out.below (by repeat (first | with_reducible assumption | with_reducible exact Below.refl _ _ | with_reducible refine Below.drew ?_ | with_reducible refine below_al ?_ _))), hidv (HBT.out _ (by repeat (first | with_reducible assumption | with_reducible exact Below.refl _ _ | with_reducible refine Below.drew ?_ | with_reducible refine below_al ?_ _)))⟩
            case measure => simp [intOf]; omega)
    · obtain rfl : d = true := iff_yes HDD.out (fun j hj ho => hall.out j (by omega) ho)
      go_wp2_with fail
      go_ret2
      exact ⟨rfl, hbe.out⟩

end Go.Proofs.Ytjoleenehdfkkaa
