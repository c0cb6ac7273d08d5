/-
  A graph of steps in memory (a slice of equations, a slice of slices of numbers); the laws' own functions on it: contracts.
-/
import Derived.Test.YtlamjknanckhiaaI7
import Derived.Test.YtlamjknanckhiaaI4
namespace Go.Proofs.Ytlamjknanckhiaa
open Go.RowKit Go
set_option linter.unusedVariables false

/-- A graph's value that reads, below block B, as these equations and these rows. -/
def Graph (w : World) (B : Nat) (v : Value) (es : List Eqn) (rs : List (List Int)) : Prop := ∃ va vb, v = .agg #[va, vb] ∧ ERow w B va es ∧ IRows w B vb rs
theorem Graph.below {w w' : World} {B : Nat} {v : Value} {es : List Eqn} {rs : List (List Int)} (h : Graph w B v es rs) (hb : Below B w w') : Graph w' B v es rs := by
  obtain ⟨a, b, hv, h1, h2⟩ := h
  exact ⟨a, b, hv, h1.below hb, h2.below hb⟩
theorem Graph.more {w : World} {B B' : Nat} {v : Value} {es : List Eqn} {rs : List (List Int)} (h : Graph w B v es rs) (hB : B ≤ B') : Graph w B' v es rs := by
  obtain ⟨a, b, hv, h1, h2⟩ := h
  exact ⟨a, b, hv, h1.more hB, h2.more hB⟩
theorem Graph.form {w : World} {B : Nat} {v : Value} {es : List Eqn} {rs : List (List Int)} (h : Graph w B v es rs) : ∃ A c P d, v = .agg #[.slice A es.length c, .slice P rs.length d] := by
  obtain ⟨a, b, rfl, h1, h2⟩ := h
  obtain ⟨A, c, rfl, _⟩ := h1
  obtain ⟨P, d, rfl, _⟩ := h2.at
  exact ⟨A, c, P, d, rfl⟩
/-- What came in is no longer than Go can hold. -/
def GraphSz (es : List Eqn) (rs : List (List Int)) : Prop := (es.length ≤ maxLen ∧ ∀ e ∈ es, e.1.size ≤ maxLen ∧ e.2.size ≤ maxLen) ∧ rs.length ≤ maxLen ∧ ∀ r ∈ rs, r.length ≤ maxLen

set_option maxHeartbeats 800000 in
theorem szGraph_any (v : Value) (es : List Eqn) (rs : List (List Int)) (B : Nat) (w : World) (hv : Graph w B v es rs) (hB : B ≤ w.heap.size) (hs : GraphSz es rs) (m : Int) (hm0 : 0 ≤ m) (hm1 : m ≤ 1048576) :
    Calls Try.prog 4 #[v, .int .i64 m] w fun e w' => ∃ r, e = .returned (.int .i64 r) ∧ (0 ≤ r → es.length ≤ m ∧ rs.length ≤ m ∧ ∀ r ∈ rs, r.length ≤ 1048576) ∧ r ≤ m ∧ Below w.heap.size w w' := by
  obtain ⟨va, vb, rfl, ha, hb⟩ := hv
  have HA := hidv ha
  have HB := hidv hb
  have HS := hidv hs
  clear ha hb hs
  go_enter Try.func4, Try.ntmps4
  go_wp2_with fail
  have hb0 : Below w.heap.size w (w.alloc (.cells #[va, vb] 25)) := (Below.refl w.heap.size w).alloc (Nat.le_refl _) _
  refine (szEqns_any _ es B _ (HA.out.below (hb0.mono hB)) (Nat.le_trans hB hb0.size) HS.out.1.1 HS.out.1.2 m hm0 hm1).mono ?_
  rintro e1 w1 ⟨r, rfl, hr1, hr2, hbw0⟩
  have HR1 := hidv hr1
  have HB0 := hidv (below_on hb0 hbw0)
  have HX := hidv ((Bx.new w 25 #[va, vb]).below hbw0)
  clear hr1 hb0 hbw0
  by_cases hr : r < 0
  · go_wp2_with fail
    go_ret
    exact ⟨_, rfl, fun h => by omega, by omega, HB0.out⟩
  obtain ⟨x0, x1⟩ := HX.out.two
  go_wp2_with fail
  refine (szIS_any _ rs B _ (HB.out.below (HB0.out.mono hB)) HS.out.2.1 HS.out.2.2 r (by omega) (by omega)).mono ?_
  rintro e1 w2 ⟨q, rfl, hq1, hq2, rfl⟩
  have HQ1 := hidv hq1
  clear hq1 x0 x1
  by_cases hq : q < 0
  · go_wp2_with fail
    go_ret
    exact ⟨_, rfl, fun h => by omega, by omega, HB0.out⟩
  go_wp2_with fail
  go_ret
  exact ⟨_, rfl, fun h => ⟨HR1.out (by omega), by have := (HQ1.out (by omega)).1; omega, (HQ1.out (by omega)).2⟩, by omega, HB0.out⟩

set_option maxRecDepth 100000 in
set_option maxHeartbeats 800000 in
theorem toGraph_any (v : Value) (es : List Eqn) (rs : List (List Int)) (B : Nat) (w : World) (hv : Graph w B v es rs) (hB : B ≤ w.heap.size) (hx : es.length ≤ 1048576) (hp : rs.length ≤ 1048576) (hs : ∀ r ∈ rs, r.length ≤ 1048576) :
    Calls Try.prog 6 #[v] w fun e1 w' => ∃ u, e1 = .returned u ∧ Graph w' w'.heap.size u es rs ∧ Below w.heap.size w w' := by
  obtain ⟨va, vb, rfl, ha, hb⟩ := hv
  have HA := hidv ha
  have HB := hidv hb
  have HS := hidv hs
  clear ha hb hs
  go_enter Try.func6, Try.ntmps6
  go_wp2_with fail
  obtain ⟨W, hW⟩ : ∃ W, ((w.alloc (.cells #[va, vb] 25)).alloc (.cells #[.slice none 0 0, .slice none 0 0] 30)).alloc (.cells #[.slice none 0 0, .slice none 0 0] 30) = W := ⟨_, rfl⟩
  have hx0 : Bx W w.heap.size 25 #[va, vb] := by
    rw [← hW]; exact ((Bx.new _ _ _).alloc _).alloc _
  have hy : Bx W (w.heap.size + 1 + 1) 30 #[.slice none 0 0, .slice none 0 0] := by
    rw [← hW]
    have := Bx.new ((w.alloc (.cells #[va, vb] 25)).alloc (.cells #[.slice none 0 0, .slice none 0 0] 30)) 30 #[.slice none 0 0, .slice none 0 0]
    rw [World.size_alloc, World.size_alloc] at this
    exact this
  have hr0 : Bx W (w.heap.size + 1) 30 #[.slice none 0 0, .slice none 0 0] := by
    rw [← hW]
    have := (Bx.new (w.alloc (.cells #[va, vb] 25)) 30 #[.slice none 0 0, .slice none 0 0]).alloc (.cells #[.slice none 0 0, .slice none 0 0] 30)
    rw [World.size_alloc] at this
    exact this
  have hbw : Below w.heap.size w W := by
    rw [← hW]; exact (((Below.refl _ _).alloc (Nat.le_refl _) _).alloc (by simp) _).alloc (by simp; omega) _
  rw [hW]
  have hsz : W.heap.size = w.heap.size + 3 := by rw [← hW]; simp
  have HX := hidv hx0
  have HY := hidv hy
  have HR0 := hidv hr0
  have HBW := hidv hbw
  have HSZ := hidv hsz
  clear hW hx0 hy hr0 hbw hsz
  refine (toEqns_any _ es B _ (HA.out.below (HBW.out.mono hB)) (Nat.le_trans hB HBW.out.size) hx).mono ?_
  rintro e1 w1 ⟨ua, rfl, hua, hb1⟩
  obtain ⟨Aa, ca, rfl, _⟩ := id hua.row
  have hx1 := HX.out.below hb1
  have hy1 := HY.out.below hb1
  obtain ⟨x0, x1⟩ := hx1.two
  obtain ⟨y0, y1⟩ := hy1.two
  have f0 := hy1.frozen 0
  have f1 := hy1.frozen 1
  have hs1 := hb1.size
  have HX1 := hidv hx1
  have HR1 := hidv ((HR0.out.below hb1).far ⟨w.heap.size + 1 + 1, 0, none⟩ (by show w.heap.size + 1 + 1 ≠ _; omega) (.slice Aa es.length ca))
  have HY1 := hidv (hy1.set 0 (.slice Aa es.length ca))
  have hsx := HSZ.out
  have HUA := hidv (own_other (hua : w1.ownsRow _ _ _ _ _ _) (grown_setCell w1 (w.heap.size + 1 + 1) 0 (.slice Aa es.length ca)) (fun k hk => by injection hk with hk; omega))
  have HB1 := hidv ((below_on HBW.out hb1).setCell (p := ⟨w.heap.size + 1 + 1, 0, none⟩) (by show w.heap.size ≤ w.heap.size + 1 + 1; omega) (.slice Aa es.length ca))
  have _hsz1 : (w1.setCell ⟨w.heap.size + 1 + 1, 0, none⟩ (.slice Aa es.length ca)).heap.size = w1.heap.size := by simp [World.setCell]
  clear hx1 hy1 hua hb1
  go_wp2_with fail
  refine (toIS_any _ rs B _ (HB.out.below (HB1.out.mono hB)) (by simp [World.setCell]; omega) hp HS.out).mono ?_
  rintro e2 w2 ⟨ub, rfl, hub, hb2⟩
  obtain ⟨Ab, cb, rfl, _⟩ := id hub.row.at
  have hxs : (w1.setCell ⟨w.heap.size + 1 + 1, 0, none⟩ (.slice Aa es.length ca)).heap.size = w1.heap.size := by simp [World.setCell]
  have hy2 := HY1.out.below hb2
  have hs2 := hb2.size
  rw [hxs] at hs2
  have HB2 := hidv (below_on HB1.out hb2)
  have HUA2 := hidv (own_below HUA.out hb2)
  have HUB := hidv (hub.setCell (g := w.heap.size + 1 + 1) (j := 1) (x := .slice Ab rs.length cb) (by rw [hxs]; omega))
  have HUA3 := hidv (own_other HUA2.out (grown_setCell w2 (w.heap.size + 1 + 1) 1 (.slice Ab rs.length cb)) (fun k hk => by injection hk with hk; omega))
  have HB3 := hidv (HB2.out.setCell (p := ⟨w.heap.size + 1 + 1, 1, none⟩) (by show w.heap.size ≤ w.heap.size + 1 + 1; omega) (.slice Ab rs.length cb))
  clear x0 x1 y0 y1 f0 f1
  have hz : w2.cell? ⟨w.heap.size + 1 + 1, 0, none⟩ = some (.slice Aa es.length ca) ∧ w2.cell? ⟨w.heap.size + 1 + 1, 1, none⟩ = some (.slice none 0 0) := ⟨hy2.cell 0, hy2.cell 1⟩
  obtain ⟨y0, y1⟩ := hz
  have f1 := hy2.frozen 1
  have hr2 := HR1.out.below hb2
  have hr3 := (((hr2.far ⟨w.heap.size + 1 + 1, 1, none⟩ (by show w.heap.size + 1 + 1 ≠ _; omega) (.slice Ab rs.length cb)).set 0 (.slice Aa es.length ca)).set 1 (.slice Ab rs.length cb))
  have E0 := hidv (hr3.cell 0)
  have E1 := hidv (hr3.cell 1)
  have hz : w2.cell? ⟨w.heap.size + 1, 0, none⟩ = some (.slice none 0 0) ∧ w2.cell? ⟨w.heap.size + 1, 1, none⟩ = some (.slice none 0 0) := ⟨hr2.cell 0, hr2.cell 1⟩
  obtain ⟨q0, q1⟩ := hz
  have g0 := hr2.frozen 0
  have g1 := hr2.frozen 1
  have lq : w.heap.size + 1 < w2.heap.size := hr2.lt
  clear hy2 hub hb2 hr2 hr3
  go_wp2_with fail
  refine bodyPost_ret (v := .agg #[.slice Aa es.length ca, .slice Ab rs.length cb]) ?_ rfl ⟨_, rfl, ⟨_, _, rfl, ?_, ?_⟩, ?_⟩
  · simp [results, Try.results6, go_sem, E0.out, E1.out]
  · refine Eqns.row (base := W.heap.size) ?_
    exact own_other (own_other HUA3.out (grown_setCell _ (w.heap.size + 1) 0 _) (fun k hk => by injection hk with hk; omega)) (grown_setCell _ (w.heap.size + 1) 1 _) (fun k hk => by injection hk with hk; omega)
  · exact ((HUB.out.setCell (g := w.heap.size + 1) (by rw [hxs]; omega)).setCell (g := w.heap.size + 1) (by rw [hxs]; omega)).row
  · exact (HB3.out.setCell (by simp) _).setCell (by simp) _

set_option maxRecDepth 100000 in
set_option maxHeartbeats 800000 in
theorem eqGraph_same {v u : Value} {es : List Eqn} {rs : List (List Int)} {w : World} (hv : Graph w w.heap.size v es rs) (hu : Graph w w.heap.size u es rs) (hx : es.length ≤ 1048576) (hp : rs.length ≤ 1048576) (hs : ∀ r ∈ rs, r.length ≤ 1048576) :
    Calls Try.prog 8 #[v, u] w fun e w' => e = .returned (.bool true) ∧ Below w.heap.size w w' := by
  obtain ⟨va, vb, rfl, ha, hb⟩ := hv
  obtain ⟨ua, ub, rfl, ha', hb'⟩ := hu
  have HA := hidv ha
  have HB := hidv hb
  have HA' := hidv ha'
  have HB' := hidv hb'
  have HS := hidv (fun r hr => Nat.le_trans (hs r hr) (show 1048576 ≤ maxLen by unfold maxLen; omega))
  clear ha hb ha' hb' hs
  go_enter Try.func8, Try.ntmps8
  go_wp2_with fail
  have hbx : Below w.heap.size w ((w.alloc (.cells #[va, vb] 30)).alloc (.cells #[ua, ub] 30)) := ((Below.refl _ _).alloc (Nat.le_refl _) _).alloc (by simp) _
  have hx0 := (Bx.new w 30 #[va, vb]).alloc (.cells #[ua, ub] 30)
  have hy0 := Bx.new (w.alloc (.cells #[va, vb] 30)) 30 #[ua, ub]
  rw [World.size_alloc] at hy0
  have HBX := hidv hbx
  have HX := hidv hx0
  have HY := hidv hy0
  clear hbx hx0 hy0
  refine (eqEqns_same (HA.out.below HBX.out) (HA'.out.below HBX.out) HBX.out.size HBX.out.size (by omega)).mono ?_
  rintro e1 w1 ⟨rfl, hb1⟩
  have hx1 := HX.out.below hb1
  have hy1 := HY.out.below hb1
  obtain ⟨x0, x1⟩ := hx1.two
  obtain ⟨y0, y1⟩ := hy1.two
  have HB1 := hidv (below_on HBX.out hb1)
  clear hb1 hx1 hy1
  go_wp2_with fail
  have heq := eqIS_any vb ub rs rs w1 ((HB.out.below HB1.out).more HB1.out.size) ((HB'.out.below HB1.out).more HB1.out.size) (by unfold maxLen; omega) (by unfold maxLen; omega) HS.out HS.out
  rw [show decide (rs = rs) = true from by simp] at heq
  refine heq.mono ?_
  rintro e2 w2 ⟨rfl, hb2⟩
  have HB2 := hidv (below_on HB1.out hb2)
  clear hb2
  go_wp2_with fail
  go_ret
  exact ⟨rfl, HB2.out⟩

end Go.Proofs.Ytlamjknanckhiaa
