/-
  Bounds in memory (a number, two slices of slices of numbers); the laws' own functions on them (bulk; copy; equal): contracts.
-/
import Derived.Test.YtjoleenehdfkkaaI3
import Derived.Test.YtjoleenehdfkkaaI4
namespace Go.Proofs.Ytjoleenehdfkkaa
open Go.RowKit Go
set_option linter.unusedVariables false

theorem Bx.three {w : World} {g : Nat} {t : TypeId} {a b c : Value} (h : Bx w g t #[a, b, c]) : w.cell? ⟨g, 0, none⟩ = some a ∧ w.cell? ⟨g, 1, none⟩ = some b ∧ w.cell? ⟨g, 2, none⟩ = some c := ⟨h.cell 0, h.cell 1, h.cell 2⟩

/-- A value of bounds that reads, below block B, as this start and these rows. -/
def Bnd (w : World) (B : Nat) (v : Value) (s : Int) (ns es : List (List Int)) : Prop := ∃ va vb, v = .agg #[.int .i64 s, va, vb] ∧ IRows w B va ns ∧ IRows w B vb es
theorem Bnd.below {w w' : World} {B : Nat} {v : Value} {s : Int} {ns es : List (List Int)} (h : Bnd w B v s ns es) (hb : Below B w w') : Bnd w' B v s ns es := by
  obtain ⟨a, b, hv, h1, h2⟩ := h
  exact ⟨a, b, hv, h1.below hb, h2.below hb⟩
theorem Bnd.more {w : World} {B B' : Nat} {v : Value} {s : Int} {ns es : List (List Int)} (h : Bnd w B v s ns es) (hB : B ≤ B') : Bnd w B' v s ns es := by
  obtain ⟨a, b, hv, h1, h2⟩ := h
  exact ⟨a, b, hv, h1.more hB, h2.more hB⟩
theorem Bnd.form {w : World} {B : Nat} {v : Value} {s : Int} {ns es : List (List Int)} (h : Bnd w B v s ns es) : ∃ A c P d, v = .agg #[.int .i64 s, .slice A ns.length c, .slice P es.length d] := by
  obtain ⟨a, b, rfl, h1, h2⟩ := h
  obtain ⟨A, c, rfl, _⟩ := h1.at
  obtain ⟨P, d, rfl, _⟩ := h2.at
  exact ⟨A, c, P, d, rfl⟩
/-- What came in is no longer than Go can hold; no more than so many. -/
def RowsMax (m : Nat) (rs : List (List Int)) : Prop := rs.length ≤ m ∧ ∀ r ∈ rs, r.length ≤ m
def BndSz (ns es : List (List Int)) : Prop := RowsMax maxLen ns ∧ RowsMax maxLen es
theorem RowsMax.wide {rs : List (List Int)} (h : RowsMax 1048576 rs) : RowsMax maxLen rs := ⟨by have := h.1; unfold maxLen; omega, fun r hr => by have := h.2 r hr; unfold maxLen; omega⟩

/-- A slice of slices of numbers of the call's own, all of its blocks from 'base' on and below 'top'. -/
def IBetw (w : World) (base top : Nat) (v : Value) (rs : List (List Int)) : Prop :=
  ∃ us, w.ownsRow base 71 1 v rs.length us ∧ us.length = rs.length ∧ Copied w (base + 1) rs us ∧ (∀ k, v.ownBlock = some k → k < top) ∧ ∀ i (h : i < us.length) k, us[i].ownBlock = some k → k < top
theorem IBetw.of {w : World} {base : Nat} {v : Value} {rs : List (List Int)} (h : IOwn w base v rs) : IBetw w base w.heap.size v rs := by
  obtain ⟨us, h1, h2, h3⟩ := h
  exact ⟨us, h1, h2, h3, fun k hk => (h1.lt k hk).2, fun i hi k hk => by
    obtain ⟨hr, h4⟩ := h3 i hi
    have h5 : w.ownsRow _ _ _ _ _ _ := h4
    exact (h5.lt k hk).2⟩
theorem IBetw.own {w : World} {base top : Nat} {v : Value} {rs : List (List Int)} (h : IBetw w base top v rs) : IOwn w base v rs := by
  obtain ⟨us, h1, h2, h3, _⟩ := h
  exact ⟨us, h1, h2, h3⟩
theorem IBetw.below {w w' : World} {base top : Nat} {v : Value} {rs : List (List Int)} (h : IBetw w base top v rs) (hb : Below w.heap.size w w') : IBetw w' base top v rs := by
  obtain ⟨us, h1, h2, h3, h4⟩ := h
  exact ⟨us, own_below h1 hb, h2, h3.below hb, h4⟩
theorem IBetw.setCell {w : World} {base top g j : Nat} {x : Value} {v : Value} {rs : List (List Int)} (h : IBetw w base top v rs) (hg : g < base) : IBetw (w.setCell ⟨g, j, none⟩ x) base top v rs := by
  obtain ⟨us, h1, h2, h3, h4⟩ := h
  exact ⟨us, own_other (row := some g) h1 (grown_setCell _ _ _ _) (fun k hk => by cases hk; exact hg), h2, h3.setCell (by omega), h4⟩

/-- Bounds in memory of the call's own: the rows of Next in blocks ahead of those of Ends. -/
def BndO (w : World) (base : Nat) (v : Value) (s : Int) (ns es : List (List Int)) : Prop :=
  ∃ a b top, v = .agg #[.int .i64 s, a, b] ∧ base ≤ top ∧ IBetw w base top a ns ∧ IOwn w top b es
theorem BndO.row {w : World} {base : Nat} {v : Value} {s : Int} {ns es : List (List Int)} (h : BndO w base v s ns es) : Bnd w w.heap.size v s ns es := by
  obtain ⟨a, b, top, hv, _, h1, h2⟩ := h
  exact ⟨a, b, hv, h1.own.row, h2.row⟩
theorem BndO.below {w w' : World} {base : Nat} {v : Value} {s : Int} {ns es : List (List Int)} (h : BndO w base v s ns es) (hb : Below w.heap.size w w') : BndO w' base v s ns es := by
  obtain ⟨a, b, top, hv, h0, h1, h2⟩ := h
  exact ⟨a, b, top, hv, h0, h1.below hb, h2.below hb⟩

set_option maxHeartbeats 800000 in
theorem szBnd_any (v : Value) (s : Int) (ns es : List (List Int)) (B : Nat) (w : World) (hv : Bnd w B v s ns es) (hB : B ≤ w.heap.size) (hs : BndSz ns es) (m : Int) (hm0 : 0 ≤ m) (hm1 : m ≤ 1048576) :
    Calls Try.prog 6 #[v, .int .i64 m] w fun e w' => ∃ r, e = .returned (.int .i64 r) ∧ (0 ≤ r → RowsMax 1048576 ns ∧ RowsMax 1048576 es) ∧ r ≤ m ∧ Below w.heap.size w w' := by
  obtain ⟨va, vb, rfl, ha, hb⟩ := hv
  have HA := hidv ha
  have HB := hidv hb
  have HS := hidv hs
  clear ha hb hs
  go_enter Try.func6, Try.ntmps6
  go_wp2_with fail
  have hb0 : Below w.heap.size w (w.alloc (.cells #[.int .i64 s, va, vb] 25)) := (Below.refl w.heap.size w).alloc (Nat.le_refl _) _
  refine (szIS_any _ ns B _ (HA.out.below (hb0.mono hB)) HS.out.1.1 HS.out.1.2 m (by omega) (by omega)).mono ?_
  rintro e1 w1 ⟨r, rfl, hr1, hr2, rfl⟩
  have HR1 := hidv hr1
  have HB0 := hidv hb0
  have HX := hidv (Bx.new w 25 #[.int .i64 s, va, vb])
  clear hr1 hb0
  by_cases hr : r < 0
  · go_wp2_with fail
    go_ret
    exact ⟨_, rfl, fun h => by omega, by omega, HB0.out⟩
  obtain ⟨x0, x1, x2⟩ := HX.out.three
  go_wp2_with fail
  refine (szIS_any _ es B _ (HB.out.below (HB0.out.mono hB)) HS.out.2.1 HS.out.2.2 r (by omega) (by omega)).mono ?_
  rintro e1 w2 ⟨q, rfl, hq1, hq2, rfl⟩
  have HQ1 := hidv hq1
  clear hq1 x0 x1 x2
  by_cases hq : q < 0
  · go_wp2_with fail
    go_ret
    exact ⟨_, rfl, fun h => by omega, by omega, HB0.out⟩
  go_wp2_with fail
  go_ret
  exact ⟨_, rfl, fun h => ⟨⟨by have := (HR1.out (by omega)).1; omega, (HR1.out (by omega)).2⟩, ⟨by have := (HQ1.out (by omega)).1; omega, (HQ1.out (by omega)).2⟩⟩, by omega, HB0.out⟩

theorem IBetw.wider {w : World} {b b' top : Nat} {v : Value} {rs : List (List Int)} (h : IBetw w b top v rs) (hb : b' ≤ b) : IBetw w b' top v rs := by
  obtain ⟨us, h1, h2, h3, h4⟩ := h
  exact ⟨us, own_wider h1 hb, h2, (fun i hi => by
    obtain ⟨hr, h5⟩ := h3 i hi
    exact ⟨hr, own_wider h5 (by omega)⟩), h4⟩
theorem eqIS_same (v u : Value) (rs : List (List Int)) (w : World) (hv : IRows w w.heap.size v rs) (hu : IRows w w.heap.size u rs) (hx : RowsMax maxLen rs) :
    Calls Try.prog 32 #[v, u] w fun e w' => e = .returned (.bool true) ∧ Below w.heap.size w w' := by
  have h := eqIS_any v u rs rs w hv hu hx.1 hx.1 hx.2 hx.2
  rw [show decide (rs = rs) = true from by simp] at h
  exact h

set_option maxRecDepth 100000 in
set_option maxHeartbeats 800000 in
theorem toBnd_any (v : Value) (s : Int) (ns es : List (List Int)) (B : Nat) (w : World) (hv : Bnd w B v s ns es) (hB : B ≤ w.heap.size) (hx : RowsMax 1048576 ns) (hp : RowsMax 1048576 es) :
    Calls Try.prog 10 #[v] w fun e1 w' => ∃ u, e1 = .returned u ∧ BndO w' w.heap.size u s ns es ∧ Below w.heap.size w w' := by
  obtain ⟨va, vb, rfl, ha, hb⟩ := hv
  have HA := hidv ha
  have HB := hidv hb
  clear ha hb
  go_enter Try.func10, Try.ntmps10
  go_wp2_with fail
  obtain ⟨W, hW⟩ : ∃ W, ((w.alloc (.cells #[.int .i64 s, va, vb] 25)).alloc (.cells #[.int .i64 0, .slice none 0 0, .slice none 0 0] 34)).alloc (.cells #[.int .i64 s, .slice none 0 0, .slice none 0 0] 34) = W := ⟨_, rfl⟩
  have hx0 : Bx W w.heap.size 25 #[.int .i64 s, va, vb] := by
    rw [← hW]; exact ((Bx.new _ _ _).alloc _).alloc _
  have hy : Bx W (w.heap.size + 1 + 1) 34 #[.int .i64 s, .slice none 0 0, .slice none 0 0] := by
    rw [← hW]
    have := Bx.new ((w.alloc (.cells #[.int .i64 s, va, vb] 25)).alloc (.cells #[.int .i64 0, .slice none 0 0, .slice none 0 0] 34)) 34 #[.int .i64 s, .slice none 0 0, .slice none 0 0]
    rw [World.size_alloc, World.size_alloc] at this
    exact this
  have hr0 : Bx W (w.heap.size + 1) 34 #[.int .i64 0, .slice none 0 0, .slice none 0 0] := by
    rw [← hW]
    have := (Bx.new (w.alloc (.cells #[.int .i64 s, va, vb] 25)) 34 #[.int .i64 0, .slice none 0 0, .slice none 0 0]).alloc (.cells #[.int .i64 s, .slice none 0 0, .slice none 0 0] 34)
    rw [World.size_alloc] at this
    exact this
  have hbw : Below w.heap.size w W := by
    rw [← hW]; exact (((Below.refl _ _).alloc (Nat.le_refl _) _).alloc (by simp) _).alloc (by simp; omega) _
  rw [hW]
  have hsz : W.heap.size = w.heap.size + 3 := by rw [← hW]; simp
  have HX := hidv hx0
  have HY := hidv hy
  have HR0 := hidv hr0
  have HBW := hidv hbw
  have HSZ := hidv hsz
  clear hW hx0 hy hr0 hbw hsz
  refine (toIS_any _ ns B _ (HA.out.below (HBW.out.mono hB)) (Nat.le_trans hB HBW.out.size) hx.1 hx.2).mono ?_
  rintro e1 w1 ⟨ua, rfl, hua, hb1⟩
  obtain ⟨Aa, ca, rfl, _⟩ := hua.row.at
  have hx1 := HX.out.below hb1
  have hy1 := HY.out.below hb1
  obtain ⟨x0, x1, x2⟩ := hx1.three
  obtain ⟨y0, y1, y2⟩ := hy1.three
  have f0 := hy1.frozen 0
  have f1 := hy1.frozen 1
  have f2 := hy1.frozen 2
  have hs1 := hb1.size
  have HX1 := hidv hx1
  have HR1 := hidv ((HR0.out.below hb1).far ⟨w.heap.size + 1 + 1, 1, none⟩ (by show w.heap.size + 1 + 1 ≠ _; omega) (.slice Aa ns.length ca))
  have HY1 := hidv (hy1.set 1 (.slice Aa ns.length ca))
  have hsx := HSZ.out
  have HUA := hidv ((IBetw.of hua).setCell (g := w.heap.size + 1 + 1) (j := 1) (x := .slice Aa ns.length ca) (by omega))
  have HB1 := hidv ((below_on HBW.out hb1).setCell (p := ⟨w.heap.size + 1 + 1, 1, none⟩) (by show w.heap.size ≤ w.heap.size + 1 + 1; omega) (.slice Aa ns.length ca))
  have _hsz1 : (w1.setCell ⟨w.heap.size + 1 + 1, 1, none⟩ (.slice Aa ns.length ca)).heap.size = w1.heap.size := by simp [World.setCell]
  clear hx1 hy1 hua hb1
  go_wp2_with fail
  refine (toIS_any _ es B _ (HB.out.below (HB1.out.mono hB)) (by simp [World.setCell]; omega) hp.1 hp.2).mono ?_
  rintro e2 w2 ⟨ub, rfl, hub, hb2⟩
  obtain ⟨Ab, cb, rfl, _⟩ := id hub.row.at
  have hxs : (w1.setCell ⟨w.heap.size + 1 + 1, 1, none⟩ (.slice Aa ns.length ca)).heap.size = w1.heap.size := by simp [World.setCell]
  have hy2 := HY1.out.below hb2
  have hs2 := hb2.size
  rw [hxs] at hs2
  have HB2 := hidv (below_on HB1.out hb2)
  have HUA2 := hidv (HUA.out.below hb2)
  have HUB := hidv (hub.setCell (g := w.heap.size + 1 + 1) (j := 2) (x := .slice Ab es.length cb) (by rw [hxs]; omega))
  have HUA3 := hidv (HUA2.out.setCell (g := w.heap.size + 1 + 1) (j := 2) (x := .slice Ab es.length cb) (by omega))
  have HB3 := hidv (HB2.out.setCell (p := ⟨w.heap.size + 1 + 1, 2, none⟩) (by show w.heap.size ≤ w.heap.size + 1 + 1; omega) (.slice Ab es.length cb))
  clear x0 x1 x2 y0 y1 y2 f0 f1 f2
  have hz : w2.cell? ⟨w.heap.size + 1 + 1, 0, none⟩ = some (.int .i64 s) ∧ w2.cell? ⟨w.heap.size + 1 + 1, 1, none⟩ = some (.slice Aa ns.length ca) ∧ w2.cell? ⟨w.heap.size + 1 + 1, 2, none⟩ = some (.slice none 0 0) := ⟨hy2.cell 0, hy2.cell 1, hy2.cell 2⟩
  obtain ⟨y0, y1, y2⟩ := hz
  have f2 := hy2.frozen 2
  have hr2 := HR1.out.below hb2
  have hr3 := ((((hr2.far ⟨w.heap.size + 1 + 1, 2, none⟩ (by show w.heap.size + 1 + 1 ≠ _; omega) (.slice Ab es.length cb)).set 0 (.int .i64 s)).set 1 (.slice Aa ns.length ca)).set 2 (.slice Ab es.length cb))
  have E0 := hidv (hr3.cell 0)
  have E1 := hidv (hr3.cell 1)
  have E2 := hidv (hr3.cell 2)
  have hz : w2.cell? ⟨w.heap.size + 1, 0, none⟩ = some (.int .i64 0) ∧ w2.cell? ⟨w.heap.size + 1, 1, none⟩ = some (.slice none 0 0) ∧ w2.cell? ⟨w.heap.size + 1, 2, none⟩ = some (.slice none 0 0) := ⟨hr2.cell 0, hr2.cell 1, hr2.cell 2⟩
  obtain ⟨q0, q1, q2⟩ := hz
  have g0 := hr2.frozen 0
  have g1 := hr2.frozen 1
  have g2 := hr2.frozen 2
  have lq : w.heap.size + 1 < w2.heap.size := hr2.lt
  clear hy2 hub hb2 hr2 hr3
  go_wp2_with fail
  refine bodyPost_ret (v := .agg #[.int .i64 s, .slice Aa ns.length ca, .slice Ab es.length cb]) ?_ rfl ⟨_, rfl, ⟨_, _, w1.heap.size, rfl, by omega, ?_, ?_⟩, ?_⟩
  · simp [results, Try.results10, go_sem, E0.out, E1.out, E2.out]
  · exact IBetw.wider (((HUA3.out.setCell (g := w.heap.size + 1) (by omega)).setCell (g := w.heap.size + 1) (by omega)).setCell (g := w.heap.size + 1) (by omega)) (by omega)
  · rw [hxs] at HUB
    exact ((HUB.out.setCell (g := w.heap.size + 1) (by omega)).setCell (g := w.heap.size + 1) (by omega)).setCell (g := w.heap.size + 1) (by omega)
  · exact ((HB3.out.setCell (by simp) _).setCell (by simp) _).setCell (by simp) _

set_option maxRecDepth 100000 in
set_option maxHeartbeats 800000 in
theorem eqBnd_same {v u : Value} {s : Int} {ns es : List (List Int)} {B C : Nat} {w : World} (hv : Bnd w B v s ns es) (hu : Bnd w C u s ns es) (hB : B ≤ w.heap.size) (hC : C ≤ w.heap.size) (hx : RowsMax 1048576 ns) (hp : RowsMax 1048576 es) :
    Calls Try.prog 14 #[v, u] w fun e w' => e = .returned (.bool true) ∧ Below w.heap.size w w' := by
  obtain ⟨va, vb, rfl, ha, hb⟩ := hv
  obtain ⟨ua, ub, rfl, ha', hb'⟩ := hu
  have HA := hidv ha
  have HB := hidv hb
  have HA' := hidv ha'
  have HB' := hidv hb'
  clear ha hb ha' hb'
  go_enter Try.func14, Try.ntmps14
  go_wp2_with fail
  have hbx : Below w.heap.size w ((w.alloc (.cells #[.int .i64 s, va, vb] 34)).alloc (.cells #[.int .i64 s, ua, ub] 34)) := ((Below.refl _ _).alloc (Nat.le_refl _) _).alloc (by simp) _
  have hx0 := (Bx.new w 34 #[.int .i64 s, va, vb]).alloc (.cells #[.int .i64 s, ua, ub] 34)
  have hy0 := Bx.new (w.alloc (.cells #[.int .i64 s, va, vb] 34)) 34 #[.int .i64 s, ua, ub]
  rw [World.size_alloc] at hy0
  have HBX := hidv hbx
  have HX := hidv hx0
  have HY := hidv hy0
  clear hbx hx0 hy0
  refine (eqIS_same _ _ ns _ ((HA.out.below (HBX.out.mono hB)).more (Nat.le_trans hB HBX.out.size)) ((HA'.out.below (HBX.out.mono hC)).more (Nat.le_trans hC HBX.out.size)) hx.wide).mono ?_
  rintro e1 w1 ⟨rfl, hb1⟩
  have hx1 := HX.out.below hb1
  have hy1 := HY.out.below hb1
  obtain ⟨x0, x1, x2⟩ := hx1.three
  obtain ⟨y0, y1, y2⟩ := hy1.three
  have HB1 := hidv (below_on HBX.out hb1)
  clear hb1 hx1 hy1
  go_wp2_with fail
  refine (eqIS_same _ _ es _ ((HB.out.below (HB1.out.mono hB)).more (Nat.le_trans hB HB1.out.size)) ((HB'.out.below (HB1.out.mono hC)).more (Nat.le_trans hC HB1.out.size)) hp.wide).mono ?_
  rintro e2 w2 ⟨rfl, hb2⟩
  have HB2 := hidv (below_on HB1.out hb2)
  clear hb2
  go_wp2_with fail
  go_ret
  exact ⟨rfl, HB2.out⟩

end Go.Proofs.Ytjoleenehdfkkaa
