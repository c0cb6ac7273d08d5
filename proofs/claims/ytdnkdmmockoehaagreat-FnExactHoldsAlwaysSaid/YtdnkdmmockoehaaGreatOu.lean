/-
  Which unknowns occur in a system, in the model: a contract.
-/
import Derived.Test.YtdnkdmmockoehaaGreatOc
import Derived.Test.YtdnkdmmockoehaaGreatRow2
import Derived.BigRegion
namespace Go.Proofs.YtdnkdmmockoehaaGreat
open Go.RowKit Go
set_option linter.unusedVariables false

theorem Tryz.infoBo : (Tryz.prog.info? 4).map (fun i => (i.zero, i.size, i.bytes)) = some (some (.bool false), 1, 1) := by kernel_rfl
theorem kind_uk (c : UInt8) (x : Nat) (hx : x < 4) : (kindN c == 4 + x) = (c == ukB x) := by
  rw [Bool.eq_iff_iff, beq_iff_eq, beq_iff_eq]
  unfold kindN
  by_cases hl : Wd.isL c = true
  · rw [if_pos hl]
    unfold Wd.isL at hl
    simp at hl
    have h1 : 97 ≤ c.toNat := hl.1
    have h2 : c.toNat ≤ 100 := hl.2
    refine ⟨fun h => by omega, fun h => ?_⟩
    exfalso
    rcases uk_four hx with rfl | rfl | rfl | rfl <;> subst h <;> revert h1 <;> decide
  · rw [if_neg hl]
    unfold Wd.unkI
    rcases uk_four hx with rfl | rfl | rfl | rfl <;> (repeat' split) <;> simp_all [ukB] <;> decide
theorem count_in (l r : ByteArray) (x : Nat) (hx : x < 4) : decide ((0 : Int) < (l.data.toList.countP (fun c => kindN c == 4 + x) : Nat) + (r.data.toList.countP (fun c => kindN c == 4 + x) : Nat)) = inE (l, r) x := by
  have h : ∀ L : List UInt8, (0 < L.countP (fun c => kindN c == 4 + x)) ↔ L.contains (ukB x) = true := fun L => by
    rw [List.countP_pos_iff]
    constructor
    · rintro ⟨c, hc, hk⟩
      rw [kind_uk c x hx, beq_iff_eq] at hk
      subst hk
      simpa using hc
    · intro hk
      exact ⟨ukB x, by simpa using hk, by rw [kind_uk _ x hx]; simp⟩
  have h1 := h l.data.toList
  have h2 := h r.data.toList
  unfold inE
  rw [Bool.eq_iff_iff, decide_eq_true_iff, Bool.or_eq_true, ← h1, ← h2]
  omega

set_option maxRecDepth 100000 in
set_option maxHeartbeats 1600000 in
theorem used_any (v : Value) (es : List Eqn) (B : Nat) (w : World) (hv : ERow w B v es) (hB : B ≤ w.heap.size) (h : sysB es = true) :
    Calls Tryz.prog 33 #[v] w fun e w' => ∃ g, e = .returned (.slice (some ⟨g, 0, none⟩) 4 4) ∧ World.ownsRow w' w.heap.size 4 1 (.slice (some ⟨g, 0, none⟩) 4 4) 4 ((occL es).map Value.bool) ∧ Below w.heap.size w w' := by
  obtain ⟨i0, hi, hz0, hz1, hz2⟩ := info_parts Tryz.infoBo
  obtain ⟨A, c, rfl, hA⟩ := hv
  obtain ⟨n, hn⟩ : ∃ n, es.length = n := ⟨_, rfl⟩
  have HA := hidv hA
  have HSB := hidv h
  have h4 : n ≤ 4 := by rw [← hn]; exact sysB_len h
  rw [hn]
  have HN := hidv hn
  clear hA hn h
  go_enter Tryz.func33, Tryz.ntmps33
  go_wp2_with (at_make; refine wpList_make_full _ rfl _ _ 67 rfl w.heap.size 4 i0 (.bool false) 1 Tryz.underlying67 hi hz0 hz1 _ _ _ _ 4 rfl rfl rfl rfl (by rw [hz2]; omega) (by unfold maxLen; omega) (Nat.le_refl _) ?_; intro w0 hown0 hgr0)
  have hb0 : Below w.heap.size w w0 := below_grown hgr0 (Nat.le_refl _) (fun k hk => by cases hk)
  have hown1 : w0.ownsRow w.heap.size 4 1 (.slice (some ⟨w.heap.size, 0, none⟩) 4 4) 4 ((occL (es.take 0)).map Value.bool) := by
    have : (madeCells (Value.bool false).cells (4 * 1)).toList = (occL (es.take 0)).map Value.bool := by
      rw [List.take_zero, show occL [] = List.replicate 4 false from by decide]
      exact toList_madeCells_one (Value.bool false) 4
    rw [← this]; exact hown0
  have HO0 := hidv hown1
  have HB0 := hidv hb0
  clear hown0 hgr0 hown1 hb0
  go_loopw [4] (fun i wr => ∃ k : Nat, k ≤ n ∧ i = .int .i64 (k : Int) ∧ Hid (wr.ownsRow w.heap.size 4 1 (.slice (some ⟨w.heap.size, 0, none⟩) 4 4) 4 ((occL (es.take k)).map Value.bool)) ∧ Hid (Below w.heap.size w wr)) (fun i _ => n - (intOf i).toNat)
  case atStart => exact ⟨0, by omega, rfl, HO0, HB0⟩
  case round =>
    obtain ⟨k, hk, rfl, hx, hbe⟩ := hrel
    by_cases hlt : k < n
    · have hkx : k < es.length := by have := HN.out; omega
      obtain ⟨g, o, rfl, hg, hce⟩ := HA.out (by omega)
      have c1 : wr.cell? ⟨g, o + k * 2, none⟩ = some (.string es[k].1) := (hbe.out.cell (p := ⟨g, _, none⟩) (by show g < _; omega)).trans (hce k hkx).1
      have c2 := hidv (fun W (hW : Below w.heap.size w W) => (show W.cell? ⟨g, o + k * 2 + 1, none⟩ = some (.string es[k].2) from (hW.cell (p := ⟨g, _, none⟩) (by show g < _; omega)).trans (hce k hkx).2))
      have hsz := sysB_szAt HSB.out k hkx
      have htm := eqnB_terms (sysB_at HSB.out k hkx)
      have htk := List.take_succ_eq_append_getElem hkx
      obtain ⟨⟨l, r⟩, hlr⟩ : ∃ x, es[k] = x := ⟨_, rfl⟩
      rw [hlr] at c1 c2 hsz htk htm
      dsimp only at c1 c2 hsz htm
      have HTK := hidv htk
      have hll : l.data.toList.length ≤ 24 ∧ r.data.toList.length ≤ 24 := ⟨by simpa using hsz.1, by simpa using hsz.2⟩
      have i1 : (0 : Int) ≤ (k : Int) := by omega
      have i2 : (k : Int) < (n : Int) := by omega
      have HX := hidv (show wr.ownsRow w.heap.size 4 1 (.slice (some ⟨w.heap.size, 0, none⟩) 4 4) 4 ((ocS (es.take k) (l, r) 0).map Value.bool) from by rw [ocS_zero]; exact hx.out)
      have CL := hidv (fun W => specCounts_any l W hsz.1 htm.1)
      have CR := hidv (fun W => specCounts_any r W hsz.2 htm.2)
      have HBE := hidv hbe.out
      clear hce hlr htk hsz htm hx hbe
      go_wp2_with fail
      refine (CL.out _).mono ?_
      rintro e w1 ⟨ga, rfl, hga, hb1⟩
      have HB1 := hidv (below_on HBE.out hb1)
      have HX1 := hidv (own_below HX.out hb1)
      have hwz := (World.ownsRow.lt HX.out w.heap.size rfl).2
      have HGA := hidv (show World.ownsRow w1 (w.heap.size + 1) 2 1 (.slice (some ⟨ga, 0, none⟩) 8 8) 8 ((cntL l.data.toList).map (Value.int .i64)) from by
        have h := hga
        unfold Ints at h
        rw [cntL_length] at h
        exact own_wider h (by omega))
      have hgaw := World.ownsRow.lt (hga : World.ownsRow w1 _ _ _ _ _ _) ga rfl
      have hs1 := HBE.out.size
      have d2 := c2.out w1 HB1.out
      clear hb1 hga c1
      go_wp2_with fail
      refine (CR.out _).mono ?_
      rintro e w2 ⟨gb, rfl, hgb, hb2⟩
      have HB2 := hidv (below_on HB1.out hb2)
      have HX2 := hidv (own_below HX1.out hb2)
      have HGA2 := hidv (own_below HGA.out hb2)
      have HGB2 := hidv (show World.ownsRow w2 (w.heap.size + 1) 2 1 (.slice (some ⟨gb, 0, none⟩) 8 8) 8 ((cntL r.data.toList).map (Value.int .i64)) from by
        have h := hgb
        unfold Ints at h
        rw [cntL_length] at h
        have := HB1.out.size
        have := (World.ownsRow.lt HX1.out w.heap.size rfl).2
        exact own_wider h (by omega))
      have hgbw := World.ownsRow.lt (hgb : World.ownsRow w2 _ _ _ _ _ _) gb rfl
      have hs2 := HB1.out.size
      have hw0 : w.heap.size < ga := by have := (World.ownsRow.lt HX.out w.heap.size rfl).2; omega
      have hw1 : w.heap.size < gb := by have := (World.ownsRow.lt HX.out w.heap.size rfl).2; have := HB1.out.size; omega
      have HCA := hidv (fun W x (hx : x < 4) (hW : World.ownsRow W (w.heap.size + 1) 2 1 (.slice (some ⟨ga, 0, none⟩) 8 8) 8 ((cntL l.data.toList).map (Value.int .i64))) => (show W.cell? ⟨ga, 4 + x, none⟩ = some (.int .i64 (l.data.toList.countP (fun c => kindN c == 4 + x) : Nat)) from by
        rw [hW.cellAt (4 + x) (by omega), List.getElem?_map, cntL_at _ _ (by omega)]; rfl))
      have HCB := hidv (fun W x (hx : x < 4) (hW : World.ownsRow W (w.heap.size + 1) 2 1 (.slice (some ⟨gb, 0, none⟩) 8 8) 8 ((cntL r.data.toList).map (Value.int .i64))) => (show W.cell? ⟨gb, 4 + x, none⟩ = some (.int .i64 (r.data.toList.countP (fun c => kindN c == 4 + x) : Nat)) from by
        rw [hW.cellAt (4 + x) (by omega), List.getElem?_map, cntL_at _ _ (by omega)]; rfl))
      clear hb2 hgb d2 HX HX1 HGA hgaw hgbw hs1 hs2 hwz
      go_wp2_with fail
      go_loopw [7] (fun i wr => ∃ x : Nat, x ≤ 4 ∧ i = .int .i64 (x : Int) ∧ Hid (wr.ownsRow w.heap.size 4 1 (.slice (some ⟨w.heap.size, 0, none⟩) 4 4) 4 ((ocS (es.take k) (l, r) x).map Value.bool)) ∧ Hid (World.ownsRow wr (w.heap.size + 1) 2 1 (.slice (some ⟨ga, 0, none⟩) 8 8) 8 ((cntL l.data.toList).map (Value.int .i64))) ∧ Hid (World.ownsRow wr (w.heap.size + 1) 2 1 (.slice (some ⟨gb, 0, none⟩) 8 8) 8 ((cntL r.data.toList).map (Value.int .i64))) ∧ Hid (Below w.heap.size w wr)) (fun i _ => 4 - (intOf i).toNat)
      case atStart => exact ⟨0, by omega, rfl, HX2, HGA2, HGB2, HB2⟩
      case round =>
        obtain ⟨x, hx4, rfl, hx, hka, hkb, hbe⟩ := hrel
        by_cases hxl : x < 4
        · have hst := ocS_set (es.take k) (l, r) x hxl
          obtain ⟨o1, ho1⟩ : ∃ b, occ (es.take k) x = b := ⟨_, rfl⟩
          have cx : wr.cell? ⟨w.heap.size, x, none⟩ = some (.bool o1) := by
            rw [hx.out.cellAt x (by omega), List.getElem?_map, ocS_at _ _ x hxl, ho1]; rfl
          have fx : wr.frozen? ⟨w.heap.size, x, none⟩ = false := hx.out.frozenAt x
          have ca := HCA.out wr x hxl hka.out
          have cb := HCB.out wr x hxl hkb.out
          obtain ⟨b, hb⟩ : ∃ b, inE (l, r) x = b := ⟨_, rfl⟩
          have hcn := count_in l r x hxl
          have hm1 : l.data.toList.countP (fun c => kindN c == 4 + x) ≤ 24 := Nat.le_trans List.countP_le_length hll.1
          have hm2 : r.data.toList.countP (fun c => kindN c == 4 + x) ≤ 24 := Nat.le_trans List.countP_le_length hll.2
          obtain ⟨na, hna⟩ : ∃ m, l.data.toList.countP (fun c => kindN c == 4 + x) = m := ⟨_, rfl⟩
          obtain ⟨nb, hnb⟩ : ∃ m, r.data.toList.countP (fun c => kindN c == 4 + x) = m := ⟨_, rfl⟩
          rw [hna] at ca hcn hm1
          rw [hnb] at cb hcn hm2
          rw [ho1, hb] at hst
          rw [hb] at hcn
          have HST := hidv hst
          have i1 : (0 : Int) ≤ (x : Int) := by omega
          have i2 : (x : Int) < 4 := by omega
          have i3 : (0 : Int) ≤ 4 + (x : Int) := by omega
          have i4 : 4 + (x : Int) < 8 := by omega
          have i5 : ((4 : Int) + x).toNat = 4 + x := by omega
          clear hst ho1 hb hna hnb
          cases o1
          · have hst2 : (ocS (es.take k) (l, r) x).set x b = ocS (es.take k) (l, r) (x + 1) := by have h := HST.out; rwa [Bool.false_or] at h
            have HS2 := hidv hst2
            clear hst2
            go_wp2_with fail
            go_region
            all_goals (
              go_wp2_with fail
              go_roundw
              case rel =>
                refine ⟨x + 1, by omega, by go_num, hidv ?_, hidv (show World.ownsRow (wr.setCell ⟨w.heap.size, x, none⟩ _) (w.heap.size + 1) 2 1 (.slice (some ⟨ga, 0, none⟩) 8 8) 8 _ from own_other hka.out (grown_setCell wr w.heap.size x _) (fun k hk => by injection hk with hk; omega)), hidv (show World.ownsRow (wr.setCell ⟨w.heap.size, x, none⟩ _) (w.heap.size + 1) 2 1 (.slice (some ⟨gb, 0, none⟩) 8 8) 8 _ from own_other hkb.out (grown_setCell wr w.heap.size x _) (fun k hk => by injection hk with hk; omega)), hidv (Below.drew (hbe.out.setCell (by simp) _))⟩
                rw [← HS2.out, List.map_set]
                exact (hx.out.stored x _).1
              case measure => simp [intOf]; omega)
          · have hst2 : (ocS (es.take k) (l, r) x).set x true = ocS (es.take k) (l, r) (x + 1) := by have h := HST.out; rwa [Bool.true_or] at h
            have HS2 := hidv hst2
            clear hst2
            go_wp2_with fail
            go_region
            all_goals (
              go_wp2_with fail
              go_roundw
              case rel =>
                refine ⟨x + 1, by omega, by go_num, hidv ?_, hidv (show World.ownsRow (wr.setCell ⟨w.heap.size, x, none⟩ _) (w.heap.size + 1) 2 1 (.slice (some ⟨ga, 0, none⟩) 8 8) 8 _ from own_other hka.out (grown_setCell wr w.heap.size x _) (fun k hk => by injection hk with hk; omega)), hidv (show World.ownsRow (wr.setCell ⟨w.heap.size, x, none⟩ _) (w.heap.size + 1) 2 1 (.slice (some ⟨gb, 0, none⟩) 8 8) 8 _ from own_other hkb.out (grown_setCell wr w.heap.size x _) (fun k hk => by injection hk with hk; omega)), hidv (Below.drew (hbe.out.setCell (by simp) _))⟩
                rw [← HS2.out, List.map_set]
                exact (hx.out.stored x _).1
              case measure => simp [intOf]; omega)
        · obtain rfl : x = 4 := by omega
          rw [ocS_four, ← HTK.out] at hx
          go_wp2_with fail
          go_roundw
          case rel => exact ⟨k + 1, by omega, by go_num, hx, hbe⟩
          case measure => simp [intOf]; omega
    · rw [List.take_of_length_le (by have := HN.out; omega)] at hx
      go_wp2_with fail
      go_ret
      exact ⟨_, rfl, hx.out, hbe.out⟩

end Go.Proofs.YtdnkdmmockoehaaGreat
