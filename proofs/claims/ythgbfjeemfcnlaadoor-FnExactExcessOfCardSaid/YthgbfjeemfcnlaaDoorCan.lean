/-
  Equal ends taken away, of the model's pairs: a contract.
-/
import Derived.Test.YthgbfjeemfcnlaaDoorStripI
namespace Go.Proofs.YthgbfjeemfcnlaaDoor
open Go.RowKit Go
set_option linter.unusedVariables false

set_option maxHeartbeats 800000 in
theorem specCancel_any (l r : ByteArray) (w : World) (hl : l.size ≤ 100) (hr : r.size ≤ 100) :
    Calls Tryd.prog 10 #[.agg #[.string l, .string r]] w fun e w' => e = .returned (.agg #[.string ⟨⟨(strip2 l.data.toList r.data.toList).1⟩⟩, .string ⟨⟨(strip2 l.data.toList r.data.toList).2⟩⟩]) ∧ Below w.heap.size w w' := by
  obtain ⟨p, hp⟩ : ∃ p, stripF l.data.toList r.data.toList = p := ⟨_, rfl⟩
  have HP := hidv hp
  obtain ⟨q, hq⟩ : ∃ q, strip2 l.data.toList r.data.toList = q := ⟨_, rfl⟩
  rw [hq]
  have HQ : Hid (stripB p.1 p.2 = q) := by
    unfold strip2 at hq
    rw [hp] at hq
    exact hq
  clear hp hq
  go_enter Tryd.func10, Tryd.ntmps10
  go_wp2
  obtain ⟨W, hW⟩ : ∃ W, (w.alloc (Obj.cells #[Value.string l, Value.string r] 29)).alloc (Obj.cells #[Value.string ⟨#[]⟩, Value.string ⟨#[]⟩] 29) = W := ⟨_, rfl⟩
  have hbx : Bx W (w.heap.size + 1) 29 #[.string ⟨#[]⟩, .string ⟨#[]⟩] := by
    rw [← hW]
    have := Bx.new (w.alloc (Obj.cells #[Value.string l, Value.string r] 29)) 29 #[.string ⟨#[]⟩, .string ⟨#[]⟩]
    rw [World.size_alloc] at this
    exact this
  have hbe : Bx W w.heap.size 29 #[.string l, .string r] := by
    rw [← hW]
    exact (Bx.new _ _ _).alloc _
  have hbw : Below w.heap.size w W := by
    rw [← hW]
    exact ((Below.refl _ _).alloc (Nat.le_refl _) _).alloc (by simp) _
  rw [hW]
  have HBX := hidv hbx
  have HBE := hidv hbe
  have HBW := hidv hbw
  clear hW hbx hbw hbe
  go_loopw [] (fun wr => ∃ x y : ByteArray, Bx wr w.heap.size 29 #[.string x, .string y] ∧ x.size ≤ 100 ∧ y.size ≤ 100 ∧ Hid (stripF x.data.toList y.data.toList = p) ∧ Hid (Below w.heap.size w wr) ∧ Hid (Bx wr (w.heap.size + 1) 29 #[.string ⟨#[]⟩, .string ⟨#[]⟩])) (fun wr => szAt wr w.heap.size)
  case atStart => exact ⟨l, r, HBE.out, hl, hr, HP, HBW, HBX⟩
  case round =>
    obtain ⟨x, y, hbx, hx, hy, hs, hbe, hbo⟩ := hrel
    have HB := hidv hbx
    have c0 : wr.cell? ⟨w.heap.size, 0, none⟩ = some (.string x) := hbx.cell 0
    have c1 : wr.cell? ⟨w.heap.size, 1, none⟩ = some (.string y) := hbx.cell 1
    have f0 : wr.frozen? ⟨w.heap.size, 0, none⟩ = false := hbx.frozen 0
    have f1 : wr.frozen? ⟨w.heap.size, 1, none⟩ = false := hbx.frozen 1
    clear hbx
    by_cases hgo : ∃ (hx1 : 0 < x.size) (hy1 : 0 < y.size), x[0] = y[0]
    · obtain ⟨hxp, hyp, hab⟩ := hgo
      have HST := hidv (stripF_same hxp hyp hab)
      have hbq := byte_eq hab
      have ex := decide_eq_true hxp
      have ey := decide_eq_true hyp
      clear hab
      go_wp2
      go_quiet (fail)
      go_wp2
      go_region
      go_wp2
      go_roundw
      case rel =>
        have hn : Bx (((wr.drewN (nq + 1)).setCell ⟨w.heap.size, 0, none⟩ (.string (x.extract 1 x.size))).setCell ⟨w.heap.size, 1, none⟩ (.string (y.extract 1 y.size))) w.heap.size 29 #[.string (x.extract 1 x.size), .string (y.extract 1 y.size)] :=
          ((show Bx (wr.drewN (nq + 1)) w.heap.size _ _ from HB.out).set 0 _).set 1 _
        refine ⟨_, _, hn, ?_, ?_, hidv ?_, hidv ?_, hidv ?_⟩
        · simp; omega
        · simp; omega
        · rw [← HST.out]
          exact hs.out
        · exact ((below_drewN hbe.out _).setCell (Nat.le_refl _) _).setCell (Nat.le_refl _) _
        · exact ((show Bx (wr.drewN (nq + 1)) (w.heap.size + 1) _ _ from hbo.out).far _ (by simp) _).far _ (by simp) _
      case measure =>
        have hn : Bx (((wr.drewN (nq + 1)).setCell ⟨w.heap.size, 0, none⟩ (.string (x.extract 1 x.size))).setCell ⟨w.heap.size, 1, none⟩ (.string (y.extract 1 y.size))) w.heap.size 29 #[.string (x.extract 1 x.size), .string (y.extract 1 y.size)] :=
          ((show Bx (wr.drewN (nq + 1)) w.heap.size _ _ from HB.out).set 0 _).set 1 _
        rw [szAt_of hn, szAt_of HB.out]
        simp
        omega
    · have hfin : p = (x.data.toList, y.data.toList) ∧ (x.size = 0 ∨ (0 < x.size ∧ y.size = 0) ∨ (∃ (h1 : 0 < x.size) (h2 : 0 < y.size), ((x[0].toNat : Int) == (y[0].toNat : Int)) = false)) := by
        rw [← hs.out]
        by_cases h1 : 0 < x.size
        · by_cases h2 : 0 < y.size
          · have h3 : x[0] ≠ y[0] := fun h => hgo ⟨h1, h2, h⟩
            exact ⟨stripF_other h1 h2 h3, .inr (.inr ⟨h1, h2, byte_ne h3⟩)⟩
          · exact ⟨stripF_none (.inr (by omega)), .inr (.inl ⟨h1, by omega⟩)⟩
        · exact ⟨stripF_none (.inl (by omega)), .inl (by omega)⟩
      have HQ2 : Hid (stripB x.data.toList y.data.toList = q) := by
        have := HQ.out
        rw [hfin.1] at this
        exact this
      have hgo2 := hfin.2
      clear hfin hgo HQ HP hs
      have hexit : (decide (0 < x.size) = false) ∨ (decide (0 < x.size) = true ∧ decide (0 < y.size) = false) ∨ (decide (0 < x.size) = true ∧ decide (0 < y.size) = true ∧ ∃ (h1 : 0 < x.size) (h2 : 0 < y.size), ((x[0].toNat : Int) == (y[0].toNat : Int)) = false) := by
        rcases hgo2 with h | ⟨h1, h2⟩ | ⟨h1, h2, h3⟩
        · exact .inl (decide_eq_false (by omega))
        · exact .inr (.inl ⟨decide_eq_true h1, decide_eq_false (by omega)⟩)
        · exact .inr (.inr ⟨decide_eq_true h1, decide_eq_true h2, h1, h2, h3⟩)
      clear hgo2
      rcases hexit with ex | ⟨ex, ey⟩ | ⟨ex, ey, hxp, hyp, hab⟩
      all_goals
        go_wp2
        go_quiet (fail)
        go_wp2
        go_loopw [] (fun wr => ∃ x y : ByteArray, Bx wr w.heap.size 29 #[.string x, .string y] ∧ x.size ≤ 100 ∧ y.size ≤ 100 ∧ Hid (stripB x.data.toList y.data.toList = q) ∧ Hid (Below w.heap.size w wr) ∧ Hid (Bx wr (w.heap.size + 1) 29 #[.string ⟨#[]⟩, .string ⟨#[]⟩])) (fun wr => szAt wr w.heap.size)
        case atStart => exact ⟨x, y, HB.out, hx, hy, HQ2, hidv (below_drewN hbe.out _), hbo⟩
        case round =>
          clear HQ2 HB c0 c1 f0 f1 hx hy hbe hbo ex HBX HBE HBW
          obtain ⟨x', y', hbx, hx, hy, hs, hbe, hbo⟩ := hrel
          have HB := hidv hbx
          have c0 : wr.cell? ⟨w.heap.size, 0, none⟩ = some (.string x') := hbx.cell 0
          have c1 : wr.cell? ⟨w.heap.size, 1, none⟩ = some (.string y') := hbx.cell 1
          have f0 : wr.frozen? ⟨w.heap.size, 0, none⟩ = false := hbx.frozen 0
          have f1 : wr.frozen? ⟨w.heap.size, 1, none⟩ = false := hbx.frozen 1
          clear hbx
          by_cases hgo : ∃ (m n : Nat) (h1 : m < x'.size) (h2 : n < y'.size), x'.size = m + 1 ∧ y'.size = n + 1 ∧ x'[m] = y'[n]
          · obtain ⟨m1, m2, l1, l2, hm1, hm2, hab⟩ := hgo
            have HST := hidv (stripB_sameM l1 l2 hm1 hm2 hab)
            have hbq := byte_eq hab
            have ex' : decide (0 < x'.size) = true := decide_eq_true (by omega)
            have ey' : decide (0 < y'.size) = true := decide_eq_true (by omega)
            have hw1 : (x'.size : Int) - 1 = (m1 : Int) := by omega
            have hw2 : (y'.size : Int) - 1 = (m2 : Int) := by omega
            have hxp : 0 < x'.size := by omega
            have hyp : 0 < y'.size := by omega
            have HM1 := hidv hm1
            have HM2 := hidv hm2
            clear hm1 hm2 hab
            go_wp2
            go_quiet (fail)
            go_wp2
            go_region
            go_wp2
            have hn : Bx (((wr.drewN (nq + 1)).setCell ⟨w.heap.size, 0, none⟩ (.string (x'.extract 0 m1))).setCell ⟨w.heap.size, 1, none⟩ (.string (y'.extract 0 m2))) w.heap.size 29 #[.string (x'.extract 0 m1), .string (y'.extract 0 m2)] :=
              ((show Bx (wr.drewN (nq + 1)) w.heap.size _ _ from HB.out).set 0 _).set 1 _
            go_roundw
            case rel =>
              refine ⟨_, _, hn, ?_, ?_, hidv ?_, hidv ?_, hidv ?_⟩
              · simp; omega
              · simp; omega
              · rw [← HST.out]
                exact hs.out
              · exact ((below_drewN hbe.out _).setCell (Nat.le_refl _) _).setCell (Nat.le_refl _) _
              · exact ((show Bx (wr.drewN (nq + 1)) (w.heap.size + 1) _ _ from hbo.out).far _ (by simp) _).far _ (by simp) _
            case measure =>
              rw [szAt_of hn, szAt_of HB.out]
              have := HM1.out
              simp
              omega
          · have hfin : q = (x'.data.toList, y'.data.toList) ∧ (x'.size = 0 ∨ (0 < x'.size ∧ y'.size = 0) ∨ (∃ (m n : Nat) (h1 : m < x'.size) (h2 : n < y'.size), x'.size = m + 1 ∧ y'.size = n + 1 ∧ ((x'[m].toNat : Int) == (y'[n].toNat : Int)) = false)) := by
              rw [← hs.out]
              by_cases h1 : 0 < x'.size
              · by_cases h2 : 0 < y'.size
                · have h3 : x'[x'.size - 1] ≠ y'[y'.size - 1] := fun h => hgo ⟨x'.size - 1, y'.size - 1, by omega, by omega, by omega, by omega, h⟩
                  exact ⟨stripB_other h1 h2 h3, .inr (.inr ⟨x'.size - 1, y'.size - 1, by omega, by omega, by omega, by omega, byte_ne h3⟩)⟩
                · exact ⟨stripB_none (.inr (by omega)), .inr (.inl ⟨h1, by omega⟩)⟩
              · exact ⟨stripB_none (.inl (by omega)), .inl (by omega)⟩
            have HFX := hidv hfin.1
            have hgo2 := hfin.2
            clear hfin hgo hs
            have g0 : wr.cell? ⟨w.heap.size + 1, 0, none⟩ = some (.string ⟨#[]⟩) := hbo.out.cell 0
            have g1 : wr.cell? ⟨w.heap.size + 1, 1, none⟩ = some (.string ⟨#[]⟩) := hbo.out.cell 1
            have k0 : wr.frozen? ⟨w.heap.size + 1, 0, none⟩ = false := hbo.out.frozen 0
            have k1 : wr.frozen? ⟨w.heap.size + 1, 1, none⟩ = false := hbo.out.frozen 1
            have E0 := hidv (fun nn => (((show Bx (wr.drewN nn) (w.heap.size + 1) _ _ from hbo.out).set 0 (.string x')).set 1 (.string y')).cell 0)
            have E1 := hidv (fun nn => (((show Bx (wr.drewN nn) (w.heap.size + 1) _ _ from hbo.out).set 0 (.string x')).set 1 (.string y')).cell 1)
            rcases hgo2 with hx0 | ⟨hxp, hy0⟩ | ⟨m1, m2, l1, l2, hm1, hm2, hab⟩
            · have ex' : decide (0 < x'.size) = false := decide_eq_false (by omega)
              clear hx0
              go_wp2
              go_quiet (fail)
              go_wp2
              refine bodyPost_ret (v := .agg #[.string x', .string y']) ?_ rfl ⟨?_, ?_⟩
              · simp [results, Tryd.results10, go_sem, E0.out, E1.out]
              · rw [HFX.out]
              · exact ((below_drewN hbe.out _).setCell (by simp) _).setCell (by simp) _
            · have ex' := decide_eq_true hxp
              have ey' : decide (0 < y'.size) = false := decide_eq_false (by omega)
              clear hxp hy0
              go_wp2
              go_quiet (fail)
              go_wp2
              refine bodyPost_ret (v := .agg #[.string x', .string y']) ?_ rfl ⟨?_, ?_⟩
              · simp [results, Tryd.results10, go_sem, E0.out, E1.out]
              · rw [HFX.out]
              · exact ((below_drewN hbe.out _).setCell (by simp) _).setCell (by simp) _
            · have ex' : decide (0 < x'.size) = true := decide_eq_true (by omega)
              have ey' : decide (0 < y'.size) = true := decide_eq_true (by omega)
              have hw1 : (x'.size : Int) - 1 = (m1 : Int) := by omega
              have hw2 : (y'.size : Int) - 1 = (m2 : Int) := by omega
              have hxp : 0 < x'.size := by omega
              have hyp : 0 < y'.size := by omega
              clear hm1 hm2
              go_wp2
              go_quiet (fail)
              go_wp2
              refine bodyPost_ret (v := .agg #[.string x', .string y']) ?_ rfl ⟨?_, ?_⟩
              · simp [results, Tryd.results10, go_sem, E0.out, E1.out]
              · rw [HFX.out]
              · exact ((below_drewN hbe.out _).setCell (by simp) _).setCell (by simp) _

end Go.Proofs.YthgbfjeemfcnlaaDoor
