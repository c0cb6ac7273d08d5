/-
  The laws' own functions on descriptions of solutions (bulk; copy; equal): contracts.
-/
import Derived.Test.YthgbfjeemfcnlaaPwS
import Derived.Test.YthgbfjeemfcnlaaRow2
namespace Go.Proofs.Ythgbfjeemfcnlaa
open Go.RowKit Go
set_option linter.unusedVariables false

set_option maxHeartbeats 400000 in
theorem szStrs2_any (v : Value) (xs : List ByteArray) (B : Nat) (w : World) (hv : Row w B v (xs.map Value.string)) (hx : xs.length ≤ maxLen) (hs : ∀ s ∈ xs, s.size ≤ maxLen) (m : Int) (hm0 : 0 ≤ m) (hm1 : m ≤ 1048576) :
    Calls Try.prog 15 #[v, .int .i64 m] w fun e w' => ∃ r, e = .returned (.int .i64 r) ∧ (0 ≤ r → xs.length ≤ m) ∧ r ≤ m ∧ w = w' := by
  obtain ⟨A, c, rfl, hA⟩ := strRow_at hv
  unfold maxLen at hx hs
  obtain ⟨n, hn⟩ : ∃ n, xs.length = n := ⟨_, rfl⟩
  have HA := hidv hA
  rw [hn] at hx ⊢
  have HN := hidv hn
  have HS := hidv hs
  clear hn hA hv hs
  by_cases hnm : m < (n : Int)
  · go_enter Try.func15, Try.ntmps15
    go_wp2
    go_ret
    exact ⟨_, rfl, fun h => by omega, by omega, rfl⟩
  · go_enter Try.func15, Try.ntmps15
    go_wp2
    go_loop [1, 5] (fun l i => ∃ (k : Nat) (q : Int), k ≤ n ∧ i = .int .i64 k ∧ l = .int .i64 q ∧ 0 ≤ q ∧ q ≤ m) (fun _ i => n - (intOf i).toNat)
    case atStart => exact ⟨0, _, Nat.zero_le _, rfl, rfl, by omega, by omega⟩
    case round =>
      obtain ⟨k, q, hk, rfl, rfl, hq0, hq1⟩ := hrel
      by_cases hlt : k < n
      · have hkx : k < xs.length := by have := HN.out; omega
        obtain ⟨g, o, rfl, hg, hce⟩ := HA.out (by omega)
        have c1 := hce k hkx
        have hsz := HS.out xs[k] (List.getElem_mem _)
        obtain ⟨x, hx1⟩ : ∃ x, xs[k] = x := ⟨_, rfl⟩
        rw [hx1] at c1 hsz
        clear hx1 hce
        by_cases hqs : q < (x.size : Int)
        · go_wp2
          go_ret
          first | exact ⟨_, rfl, fun h => by omega, by omega, rfl⟩ | exact ⟨_, rfl, by omega, rfl⟩
        · go_wp2
          go_round
          case rel => exact ⟨k + 1, q - x.size, by omega, by go_num, rfl, by omega, by omega⟩
          case measure => simp [intOf]; omega
      · go_wp2
        go_ret
        first | exact ⟨_, rfl, fun h => by omega, by omega, rfl⟩ | exact ⟨_, rfl, by omega, rfl⟩

def DescSz (xs : List ByteArray) (ps : List Pw) : Prop := (xs.length ≤ maxLen ∧ ∀ s ∈ xs, s.size ≤ maxLen) ∧ ps.length ≤ maxLen ∧ ∀ e ∈ ps, e.1.size ≤ maxLen ∧ e.2.1.size ≤ maxLen

theorem Bx.three {w : World} {g : Nat} {t : TypeId} {a b c : Value} (h : Bx w g t #[a, b, c]) : w.cell? ⟨g, 0, none⟩ = some a ∧ w.cell? ⟨g, 1, none⟩ = some b ∧ w.cell? ⟨g, 2, none⟩ = some c := ⟨h.cell 0, h.cell 1, h.cell 2⟩

set_option maxHeartbeats 800000 in
theorem szDesc_any (v : Value) (e : Bool) (xs : List ByteArray) (ps : List Pw) (B : Nat) (w : World) (hv : Desc w B v e xs ps) (hB : B ≤ w.heap.size) (hs : DescSz xs ps) (m : Int) (hm0 : 0 ≤ m) (hm1 : m ≤ 1048576) :
    Calls Try.prog 6 #[v, .int .i64 m] w fun e w' => ∃ r, e = .returned (.int .i64 r) ∧ (0 ≤ r → xs.length ≤ m ∧ ps.length ≤ m) ∧ r ≤ m ∧ Below w.heap.size w w' := by
  obtain ⟨va, vb, rfl, ha, hb⟩ := hv
  have HA := hidv ha
  have HB := hidv hb
  have HS := hidv hs
  clear ha hb hs
  go_enter Try.func6, Try.ntmps6
  go_wp2_with fail
  have hb0 : Below w.heap.size w (w.alloc (.cells #[.bool e, va, vb] 25)) := (Below.refl w.heap.size w).alloc (Nat.le_refl _) _
  refine (szStrs2_any _ xs B _ (HA.out.below (hb0.mono hB)) HS.out.1.1 HS.out.1.2 m hm0 hm1).mono ?_
  rintro e1 w1 ⟨r, rfl, hr1, hr2, rfl⟩
  have HR1 := hidv hr1
  have HB0 := hidv hb0
  have HX := hidv (Bx.new w 25 #[.bool e, va, vb])
  clear hr1 hb0
  by_cases hr : r < 0
  · go_wp2_with fail
    go_ret
    exact ⟨_, rfl, fun h => by omega, by omega, HB0.out⟩
  obtain ⟨x0, x1, x2⟩ := HX.out.three
  go_wp2_with fail
  refine (szPws_any _ ps B _ (HB.out.below (HB0.out.mono hB)) (Nat.le_trans hB HB0.out.size) HS.out.2.1 HS.out.2.2 r (by omega) (by omega)).mono ?_
  rintro e1 w2 ⟨q, rfl, hq1, hq2, hbw⟩
  have HBW := hidv (below_on HB0.out hbw)
  have HQ1 := hidv hq1
  clear hbw hq1 x0 x1 x2
  by_cases hq : q < 0
  · go_wp2_with fail
    go_ret
    exact ⟨_, rfl, fun h => by omega, by omega, HBW.out⟩
  go_wp2_with fail
  go_ret
  exact ⟨_, rfl, fun h => ⟨HR1.out (by omega), by have := HQ1.out (by omega); omega⟩, by omega, HBW.out⟩

/-- A description in memory of the call's own, from block 'base' on. -/
def DescO (w : World) (base : Nat) (v : Value) (e : Bool) (xs : List ByteArray) (ps : List Pw) : Prop :=
  ∃ a b, v = .agg #[.bool e, a, b] ∧ Strs w base a xs ∧ Pws w base b ps
theorem DescO.row {w : World} {base : Nat} {v : Value} {e : Bool} {xs : List ByteArray} {ps : List Pw} (h : DescO w base v e xs ps) : Desc w w.heap.size v e xs ps := by
  obtain ⟨a, b, hv, h1, h2⟩ := h
  exact ⟨a, b, hv, h1.row, h2.row⟩

set_option maxRecDepth 100000 in
set_option maxHeartbeats 800000 in
theorem toDesc_any (v : Value) (e : Bool) (xs : List ByteArray) (ps : List Pw) (B : Nat) (w : World) (hv : Desc w B v e xs ps) (hB : B ≤ w.heap.size) (hx : xs.length ≤ 1048576) (hp : ps.length ≤ 1048576) :
    Calls Try.prog 8 #[v] w fun e1 w' => ∃ u, e1 = .returned u ∧ Desc w' w'.heap.size u e xs ps ∧ Below w.heap.size w w' := by
  obtain ⟨va, vb, rfl, ha, hb⟩ := hv
  have HA := hidv ha
  have HB := hidv hb
  clear ha hb
  go_enter Try.func8, Try.ntmps8
  go_wp2_with fail
  obtain ⟨W, hW⟩ : ∃ W, ((w.alloc (.cells #[.bool e, va, vb] 25)).alloc (.cells #[.bool false, .slice none 0 0, .slice none 0 0] 30)).alloc (.cells #[.bool e, .slice none 0 0, .slice none 0 0] 30) = W := ⟨_, rfl⟩
  have hx0 : Bx W w.heap.size 25 #[.bool e, va, vb] := by
    rw [← hW]; exact ((Bx.new _ _ _).alloc _).alloc _
  have hy : Bx W (w.heap.size + 1 + 1) 30 #[.bool e, .slice none 0 0, .slice none 0 0] := by
    rw [← hW]
    have := Bx.new ((w.alloc (.cells #[.bool e, va, vb] 25)).alloc (.cells #[.bool false, .slice none 0 0, .slice none 0 0] 30)) 30 #[.bool e, .slice none 0 0, .slice none 0 0]
    rw [World.size_alloc, World.size_alloc] at this
    exact this
  have hr0 : Bx W (w.heap.size + 1) 30 #[.bool false, .slice none 0 0, .slice none 0 0] := by
    rw [← hW]
    have := (Bx.new (w.alloc (.cells #[.bool e, va, vb] 25)) 30 #[.bool false, .slice none 0 0, .slice none 0 0]).alloc (.cells #[.bool e, .slice none 0 0, .slice none 0 0] 30)
    rw [World.size_alloc] at this
    exact this
  have hbw : Below w.heap.size w W := by
    rw [← hW]; exact (((Below.refl _ _).alloc (Nat.le_refl _) _).alloc (by simp) _).alloc (by simp; omega) _
  rw [hW]
  have hsz : W.heap.size = w.heap.size + 3 := by rw [← hW]; simp
  have HX := hidv hx0
  have HY := hidv hy
  have HR0 := hidv hr0
  have HBW := hidv hbw
  have HSZ := hidv hsz
  clear hW hx0 hy hr0 hbw hsz
  refine (toStrs_any _ xs B _ (HA.out.below (HBW.out.mono hB)) (Nat.le_trans hB HBW.out.size) hx).mono ?_
  rintro e1 w1 ⟨ua, rfl, hua, hb1⟩
  obtain ⟨Aa, ca, rfl, _⟩ := strRow_at hua.row
  have hx1 := HX.out.below hb1
  have hy1 := HY.out.below hb1
  obtain ⟨x0, x1, x2⟩ := hx1.three
  obtain ⟨y0, y1, y2⟩ := hy1.three
  have f0 := hy1.frozen 0
  have f1 := hy1.frozen 1
  have f2 := hy1.frozen 2
  have hs1 := hb1.size
  have HX1 := hidv hx1
  have HR1 := hidv ((HR0.out.below hb1).far ⟨w.heap.size + 1 + 1, 1, none⟩ (by show w.heap.size + 1 + 1 ≠ _; omega) (.slice Aa xs.length ca))
  have HY1 := hidv (hy1.set 1 (.slice Aa xs.length ca))
  have hsx := HSZ.out
  have HUA := hidv (own_other (hua : w1.ownsRow _ _ _ _ _ _) (grown_setCell w1 (w.heap.size + 1 + 1) 1 (.slice Aa xs.length ca)) (fun k hk => by injection hk with hk; omega))
  have HB1 := hidv ((below_on HBW.out hb1).setCell (p := ⟨w.heap.size + 1 + 1, 1, none⟩) (by show w.heap.size ≤ w.heap.size + 1 + 1; omega) (.slice Aa xs.length ca))
  have _hsz1 : (w1.setCell ⟨w.heap.size + 1 + 1, 1, none⟩ (.slice Aa xs.length ca)).heap.size = w1.heap.size := by simp [World.setCell]
  clear hx1 hy1 hua hb1
  go_wp2_with fail
  refine (toPws_any _ ps B _ (HB.out.below (HB1.out.mono hB)) (by simp [World.setCell]; omega) hp).mono ?_
  rintro e2 w2 ⟨ub, rfl, hub, hb2⟩
  obtain ⟨Ab, cb, rfl, _⟩ := id hub.row
  have hxs : (w1.setCell ⟨w.heap.size + 1 + 1, 1, none⟩ (.slice Aa xs.length ca)).heap.size = w1.heap.size := by simp [World.setCell]
  have hy2 := HY1.out.below hb2
  have hs2 := hb2.size
  rw [hxs] at hs2
  have HB2 := hidv (below_on HB1.out hb2)
  have HUA2 := hidv (own_below HUA.out hb2)
  have HUB := hidv (own_other (hub : w2.ownsRow _ _ _ _ _ _) (grown_setCell w2 (w.heap.size + 1 + 1) 2 (.slice Ab ps.length cb)) (fun k hk => by injection hk with hk; rw [hxs]; omega))
  have HUA3 := hidv (own_other HUA2.out (grown_setCell w2 (w.heap.size + 1 + 1) 2 (.slice Ab ps.length cb)) (fun k hk => by injection hk with hk; omega))
  have HB3 := hidv (HB2.out.setCell (p := ⟨w.heap.size + 1 + 1, 2, none⟩) (by show w.heap.size ≤ w.heap.size + 1 + 1; omega) (.slice Ab ps.length cb))
  clear x0 x1 x2 y0 y1 y2 f0 f1 f2
  have hz : w2.cell? ⟨w.heap.size + 1 + 1, 0, none⟩ = some (.bool e) ∧ w2.cell? ⟨w.heap.size + 1 + 1, 1, none⟩ = some (.slice Aa xs.length ca) ∧ w2.cell? ⟨w.heap.size + 1 + 1, 2, none⟩ = some (.slice none 0 0) := ⟨hy2.cell 0, hy2.cell 1, hy2.cell 2⟩
  obtain ⟨y0, y1, y2⟩ := hz
  have f2 := hy2.frozen 2
  have hr2 := HR1.out.below hb2
  have hr3 := ((((hr2.far ⟨w.heap.size + 1 + 1, 2, none⟩ (by show w.heap.size + 1 + 1 ≠ _; omega) (.slice Ab ps.length cb)).set 0 (.bool e)).set 1 (.slice Aa xs.length ca)).set 2 (.slice Ab ps.length cb))
  have E0 := hidv (hr3.cell 0)
  have E1 := hidv (hr3.cell 1)
  have E2 := hidv (hr3.cell 2)
  have hz : w2.cell? ⟨w.heap.size + 1, 0, none⟩ = some (.bool false) ∧ w2.cell? ⟨w.heap.size + 1, 1, none⟩ = some (.slice none 0 0) ∧ w2.cell? ⟨w.heap.size + 1, 2, none⟩ = some (.slice none 0 0) := ⟨hr2.cell 0, hr2.cell 1, hr2.cell 2⟩
  obtain ⟨q0, q1, q2⟩ := hz
  have g0 := hr2.frozen 0
  have g1 := hr2.frozen 1
  have g2 := hr2.frozen 2
  have lq : w.heap.size + 1 < w2.heap.size := hr2.lt
  clear hy2 hub hb2 hr2 hr3
  go_wp2_with fail
  refine bodyPost_ret (v := .agg #[.bool e, .slice Aa xs.length ca, .slice Ab ps.length cb]) ?_ rfl ⟨_, rfl, ⟨_, _, rfl, ?_, ?_⟩, ?_⟩
  · simp [results, Try.results8, go_sem, E0.out, E1.out, E2.out]
  · refine Strs.row (base := W.heap.size) ?_
    exact own_other (own_other (own_other HUA3.out (grown_setCell _ (w.heap.size + 1) 0 _) (fun k hk => by injection hk with hk; omega)) (grown_setCell _ (w.heap.size + 1) 1 _) (fun k hk => by injection hk with hk; omega)) (grown_setCell _ (w.heap.size + 1) 2 _) (fun k hk => by injection hk with hk; omega)
  · refine Pws.row (base := (w1.setCell ⟨w.heap.size + 1 + 1, 1, none⟩ (.slice Aa xs.length ca)).heap.size) ?_
    exact own_other (own_other (own_other HUB.out (grown_setCell _ (w.heap.size + 1) 0 _) (fun k hk => by injection hk with hk; rw [hxs]; omega)) (grown_setCell _ (w.heap.size + 1) 1 _) (fun k hk => by injection hk with hk; rw [hxs]; omega)) (grown_setCell _ (w.heap.size + 1) 2 _) (fun k hk => by injection hk with hk; rw [hxs]; omega)
  · exact ((HB3.out.setCell (by simp) _).setCell (by simp) _).setCell (by simp) _

set_option maxRecDepth 100000 in
set_option maxHeartbeats 800000 in
theorem eqDesc_same {v u : Value} {e : Bool} {xs : List ByteArray} {ps : List Pw} {B C : Nat} {w : World} (hv : Desc w B v e xs ps) (hu : Desc w C u e xs ps) (hB : B ≤ w.heap.size) (hC : C ≤ w.heap.size) (hx : xs.length ≤ 1048576) (hp : ps.length ≤ 1048576) :
    Calls Try.prog 10 #[v, u] w fun e w' => e = .returned (.bool true) ∧ Below w.heap.size w w' := by
  obtain ⟨va, vb, rfl, ha, hb⟩ := hv
  obtain ⟨ua, ub, rfl, ha', hb'⟩ := hu
  have HA := hidv ha
  have HB := hidv hb
  have HA' := hidv ha'
  have HB' := hidv hb'
  clear ha hb ha' hb'
  go_enter Try.func10, Try.ntmps10
  go_wp2_with fail
  have hbx : Below w.heap.size w ((w.alloc (.cells #[.bool e, va, vb] 30)).alloc (.cells #[.bool e, ua, ub] 30)) := ((Below.refl _ _).alloc (Nat.le_refl _) _).alloc (by simp) _
  have hx0 := (Bx.new w 30 #[.bool e, va, vb]).alloc (.cells #[.bool e, ua, ub] 30)
  have hy0 := Bx.new (w.alloc (.cells #[.bool e, va, vb] 30)) 30 #[.bool e, ua, ub]
  rw [World.size_alloc] at hy0
  have HBX := hidv hbx
  have HX := hidv hx0
  have HY := hidv hy0
  clear hbx hx0 hy0
  refine (eqStrs_same (HA.out.below (HBX.out.mono hB)) (HA'.out.below (HBX.out.mono hC)) (by omega)).mono ?_
  rintro e1 w1 ⟨rfl, hb1⟩
  have hx1 := HX.out.below hb1
  have hy1 := HY.out.below hb1
  obtain ⟨x0, x1, x2⟩ := hx1.three
  obtain ⟨y0, y1, y2⟩ := hy1.three
  have HB1 := hidv (below_on HBX.out hb1)
  clear hb1 hx1 hy1
  go_wp2_with fail
  refine (eqPws_same (HB.out.below (HB1.out.mono hB)) (HB'.out.below (HB1.out.mono hC)) (Nat.le_trans hB HB1.out.size) (Nat.le_trans hC HB1.out.size) (by omega)).mono ?_
  rintro e2 w2 ⟨rfl, hb2⟩
  have HB2 := hidv (below_on HB1.out hb2)
  clear hb2
  go_wp2_with fail
  go_ret
  exact ⟨rfl, HB2.out⟩

theorem Desc.form {w : World} {B : Nat} {v : Value} {e : Bool} {xs : List ByteArray} {ps : List Pw} (h : Desc w B v e xs ps) : ∃ A c P d, v = .agg #[.bool e, .slice A xs.length c, .slice P ps.length d] := by
  obtain ⟨a, b, rfl, h1, h2⟩ := h
  obtain ⟨A, c, rfl, _⟩ := strRow_at h1
  obtain ⟨P, d, rfl, _⟩ := h2
  exact ⟨A, c, P, d, rfl⟩

end Go.Proofs.Ythgbfjeemfcnlaa
