/-
  Whether a family holds at a number at which terms can be compared, in the program: a contract.
-/
import Derived.Test.YtdnkdmmockoehaaGreatHi
namespace Go.Proofs.YtdnkdmmockoehaaGreat
open Go.RowKit Go
set_option linter.unusedVariables false

theorem ix4h (cs : Array Value) (i : Nat) (v : Value) (hi : i < 4) (hv : cs[i]? = some v) (w : World) :
    (Instr.index 78 (.agg cs) (.int .i64 (i : Int))).run Tryz.prog w = .ok v w := by
  have h1 : (0 : Int) ≤ (i : Int) ∧ (i : Int) < ((4 : Nat) : Int) := by omega
  simp [Instr.index, run_underlying Tryz.underlying78, asIntOf, part, Tryz.isAgg4, Tryz.sizeOf4, go_sem, h1, hv]
  omega

/-- The values of the first unknowns. -/
def valsP (es : List Eqn) (rs : List (List Pc)) (k : Int) (j : Nat) : List ByteArray := (List.range 4).map fun x => if x < j ∧ occ es x = true then wordV k (rs.getD x []) else ⟨#[]⟩
theorem valsP_zero (es : List Eqn) (rs : List (List Pc)) (k : Int) : valsP es rs k 0 = List.replicate 4 ⟨#[]⟩ := by
  simp [valsP]
  rfl
theorem valsP_four (es : List Eqn) (rs : List (List Pc)) (k : Int) : valsP es rs k 4 = valsQ es rs k := by
  unfold valsP valsQ
  refine List.map_congr_left fun x hx => ?_
  have hx4 : x < 4 := by simpa using hx
  simp [hx4]
theorem valsP_skip {es : List Eqn} (rs : List (List Pc)) (k : Int) {j : Nat} (ho : occ es j = false) : valsP es rs k (j + 1) = valsP es rs k j := by
  unfold valsP
  refine List.map_congr_left fun x hx => ?_
  by_cases e : x = j
  · subst e; simp [ho]
  · have : (x < j + 1) = (x < j) := by rw [eq_iff_iff]; omega
    simp only [this]
theorem range_setH {α : Type} {N i : Nat} {x : α} {f g : Nat → α} (hi : i < N) (hx : g i = x) (h : ∀ j, j < N → j ≠ i → g j = f j) : ((List.range N).map f).set i x = (List.range N).map g := by
  apply List.ext_getElem
  · simp
  · intro j h1 h2
    simp only [List.length_map, List.length_range] at h2
    rw [List.getElem_set]
    split
    · rename_i he; subst he; simp [hx]
    · rename_i he; simp; exact (h j h2 (fun e => he e.symm)).symm
theorem valsP_set {es : List Eqn} (rs : List (List Pc)) (k : Int) {j : Nat} (hj : j < 4) (ho : occ es j = true) : (valsP es rs k j).set j (wordV k (rs.getD j [])) = valsP es rs k (j + 1) := by
  unfold valsP
  refine range_setH hj (by simp [ho]) fun x hx hne => ?_
  have : (x < j + 1) = (x < j) := by rw [eq_iff_iff]; omega
  simp only [this]
theorem valsP_len (es : List Eqn) (rs : List (List Pc)) (k : Int) (j : Nat) : (valsP es rs k j).length = 4 := by simp [valsP]
theorem valsP_at (es : List Eqn) (rs : List (List Pc)) (k : Int) (j : Nat) (hj : j < 4) : (valsP es rs k j)[j]? = some ⟨#[]⟩ := by
  unfold valsP
  simp [hj]

set_option maxRecDepth 100000 in
set_option maxHeartbeats 3200000 in
theorem holdsAt_any (v p : Value) (es : List Eqn) (rs : List (List Pc)) (B C : Nat) (k : Int) (w : World) (hv : ERow w B v es) (hB : B ≤ w.heap.size) (hs : sysB es = true) (hp : QRows w C p rs) (hC : C ≤ w.heap.size) (hok : FamOk rs) (hk : 0 ≤ k ∧ k ≤ 1000000) (hz : ∀ z ∈ tLens es (rs.map (gsum (pcLen k))), z ≤ 200000) :
    Calls Tryz.prog 23 #[.agg #[v, p], .int .i64 k] w fun e w' => e = .returned (.bool (holdsB es (valsQ es rs k))) ∧ Below w.heap.size w w' := by
  obtain ⟨i0, hi, hz0, hz1, hz2⟩ := info_parts Tryz.infoS
  obtain ⟨Ap, cp, rfl, hP⟩ := hp.at
  obtain ⟨A, c, rfl, _⟩ := id hv
  obtain ⟨n, hn⟩ : ∃ n, es.length = n := ⟨_, rfl⟩
  have h4 := hok.1
  have hes := sysB_len hs
  have hbl : Below w.heap.size w (w.alloc (.cells #[.slice A es.length c, .slice Ap rs.length cp] 52)) := (Below.refl _ _).alloc (Nat.le_refl _) _
  have hbx := Bx.new w 52 #[.slice A es.length c, .slice Ap rs.length cp]
  have C1 := hidv (fun W (hW : Below w.heap.size w W) => occurring_any (.slice A es.length c) es B W (hv.below (hW.mono hB)) (Nat.le_trans hB hW.size) (fun e he => by
    obtain ⟨j, hj, rfl⟩ := List.getElem_of_mem he
    have h := sysB_szAt hs j hj
    exact ⟨by have := h.1; omega, by have := h.2; omega⟩) (by omega))
  have C2 := hidv (fun W (hW : Below w.heap.size w W) j (hj : j < rs.length) (a : Option Addr) (cq : Nat) (hrow : QRow w C (.slice a rs[j].length cq) rs[j]) (ht : gsum (pcLen k) rs[j] ≤ 1000000) => valueAt_any rs[j] k _ C W (hrow.below (hW.mono hC)) (Nat.le_trans hC hW.size) (hok.at j hj) hk ht)
  have HVM := valsQ_M hs hok hk hz
  have C3 := hidv (fun u D W (hW : Below w.heap.size w W) (hr : Row W D u ((valsQ es rs k).map Value.string)) (hD : D ≤ W.heap.size) => implSolves_any (.slice A es.length c) u es (valsQ es rs k) B D W (hv.below (hW.mono hB)) (Nat.le_trans hB hW.size) hr hD hs HVM)
  have HOS := hidv (fun x (hx : x < 4) ho => occ_small hs hok hk hz hx ho)
  have HP := hidv hP
  obtain ⟨d, hd⟩ : ∃ d, holdsB es (valsQ es rs k) = d := ⟨_, rfl⟩
  rw [hd] at C3 ⊢
  rw [hn] at hbl hbx C1 C3 ⊢
  rw [h4] at hbl hbx ⊢
  have HRN := hidv h4
  clear hv hs hp hok hn h4 hd hz HVM hes hP hk
  go_enter Tryz.func23, Tryz.ntmps23
  obtain ⟨W, hW⟩ : ∃ W, w.alloc (.cells #[.slice A n c, .slice Ap 4 cp] 52) = W := ⟨_, rfl⟩
  rw [hW] at hbl hbx
  have HBL := hidv hbl
  have HBX := hidv hbx
  clear hbl hbx
  go_wp2_with (at_make; refine wpList_make_full _ rfl _ _ 66 rfl W.heap.size 9 i0 (.string ⟨#[]⟩) 1 Tryz.underlying66 hi hz0 hz1 _ _ _ _ 4 rfl rfl rfl rfl (by rw [hz2]; omega) (by unfold maxLen; omega) (Nat.le_refl _) ?_; intro w0 hown0 hgr0; have hb0 : Below W.heap.size W w0 := below_grown hgr0 (Nat.le_refl _) (fun k hk => by cases hk); obtain ⟨q0, q1⟩ := (HBX.out.below hb0).two)
  clear hW
  have hown1 : w0.ownsRow W.heap.size 9 1 (.slice (some ⟨W.heap.size, 0, none⟩) 4 4) 4 ((valsP es rs k 0).map Value.string) := by
    have : (madeCells (Value.string ⟨#[]⟩).cells (4 * 1)).toList = (valsP es rs k 0).map Value.string := by
      rw [valsP_zero]
      exact toList_madeCells_one (Value.string ⟨#[]⟩) 4
    rw [← this]; exact hown0
  have HO0 := hidv hown1
  have HB0 := hidv hb0
  clear hown0 hgr0 hown1 hb0
  refine (C1.out _ (below_on HBL.out HB0.out)).mono ?_
  rintro e w1 ⟨rfl, hb1⟩
  have HO1 := hidv (own_below HO0.out hb1)
  have HB1 := hidv (below_on HB0.out hb1)
  clear hb1 q0 q1
  obtain ⟨OV, hOV⟩ : ∃ OV : Array Value, #[.bool (occ es 0), .bool (occ es 1), .bool (occ es 2), .bool (occ es 3)] = OV := ⟨_, rfl⟩
  have HIX := hidv (fun k (hk : k < 4) W => ix4h OV k (.bool (occ es k)) hk (by
    rw [← hOV]
    rcases uk_four hk with rfl | rfl | rfl | rfl <;> rfl) W)
  rw [hOV]
  clear hOV
  go_wp2_with fail
  go_loopw [12] (fun i wr => ∃ j : Nat, j ≤ 4 ∧ i = .int .i64 (j : Int) ∧ Hid (World.ownsRow wr W.heap.size 9 1 (.slice (some ⟨W.heap.size, 0, none⟩) 4 4) 4 ((valsP es rs k j).map Value.string)) ∧ Hid (Below W.heap.size W wr)) (fun i _ => 4 - (intOf i).toNat)
  case atStart => exact ⟨0, by omega, rfl, HO1, HB1⟩
  case round =>
    obtain ⟨j, hj, rfl, hown, hbe⟩ := hrel
    by_cases hlt : j < 4
    · have hix := HIX.out j hlt
      have HOJ := hidv (HOS.out j hlt)
      obtain ⟨oc, hoc⟩ : ∃ o, occ es j = o := ⟨_, rfl⟩
      have hjr : j < rs.length := by have := HRN.out; omega
      have i1 : (0 : Int) ≤ (j : Int) := by omega
      have i2 : (j : Int) < 4 := by omega
      rw [hoc] at hix HOJ
      cases oc
      · have HSK := hidv (valsP_skip rs k hoc)
        clear hoc
        go_wp2_with fail
        go_roundw
        case rel => exact ⟨j + 1, by omega, by go_num, hidv (by rw [HSK.out]; exact hown.out), hbe⟩
        case measure => simp [intOf]; omega
      · have hst := valsP_set rs k hlt hoc
        rw [show rs.getD j [] = rs[j] by simp [hjr]] at hst
        obtain ⟨_, hsm⟩ := HOJ.out rfl
        obtain ⟨g, o, rfl, hg, hce⟩ := HP.out (by have := HRN.out; omega)
        obtain ⟨a, cq, e0, r1⟩ := hce j hjr
        have hbw := below_on HBL.out hbe.out
        have c1 := (hbw.cell (p := ⟨g, o + j, none⟩) (by show g < w.heap.size; omega)).trans e0
        obtain ⟨q0, q1⟩ := (HBX.out.below hbe.out).two
        have HC := hidv (C2.out _ hbw j hjr a cq r1 (by omega))
        obtain ⟨l, hl⟩ : ∃ l, rs[j].length = l := ⟨_, rfl⟩
        obtain ⟨t, ht⟩ : ∃ t, wordV k rs[j] = t := ⟨_, rfl⟩
        rw [hl] at c1 HC
        rw [ht] at HC hst
        have HST := hidv hst
        clear hce e0 r1 hl ht hsm hst hoc hbw q0
        go_wp2_with fail
        refine HC.out.mono ?_
        rintro e w4 ⟨rfl, hb4⟩
        have HB4 := hidv (below_on hbe.out hb4)
        have HO4 := hidv (own_below hown.out hb4)
        clear hb4 c1 q1 hix
        have cx : w4.cell? ⟨W.heap.size, j, none⟩ = some (.string ⟨#[]⟩) := by
          rw [HO4.out.cellAt j (by omega), List.getElem?_map, valsP_at _ _ _ j hlt]; rfl
        have fx : w4.frozen? ⟨W.heap.size, j, none⟩ = false := HO4.out.frozenAt j
        go_wp2_with fail
        go_roundw
        case rel =>
          refine ⟨j + 1, by omega, by go_num, hidv ?_, hidv (HB4.out.setCell (by simp) _)⟩
          rw [← HST.out, List.map_set]
          exact (HO4.out.stored j _).1
        case measure => simp [intOf]; omega
    · obtain rfl : j = 4 := by omega
      rw [valsP_four] at hown
      have hrow := Row.of_own hown.out
      have hbw := below_on HBL.out hbe.out
      obtain ⟨q0, q1⟩ := (HBX.out.below hbe.out).two
      have HC := hidv (C3.out _ _ _ hbw hrow (Nat.le_refl _))
      have HBW := hidv hbw
      clear hrow hbw q1
      go_wp2_with fail
      refine HC.out.mono ?_
      rintro e w5 ⟨rfl, hb5⟩
      have HB5 := hidv (below_on HBW.out hb5)
      clear hb5
      go_wp2_with fail
      go_ret
      exact ⟨rfl, HB5.out⟩

end Go.Proofs.YtdnkdmmockoehaaGreat
