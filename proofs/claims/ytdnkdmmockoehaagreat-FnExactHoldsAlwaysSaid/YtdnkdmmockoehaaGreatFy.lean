/-
  A family in memory (a slice of slices of pieces); the laws' own functions on it: contracts.
-/
import Derived.Test.YtdnkdmmockoehaaGreatQs
namespace Go.Proofs.YtdnkdmmockoehaaGreat
open Go.RowKit Go
set_option linter.unusedVariables false

theorem Bx.one {w : World} {g : Nat} {t : TypeId} {a : Value} (h : Bx w g t #[a]) : w.cell? ⟨g, 0, none⟩ = some a := h.cell 0
/-- A family's value that reads, below block B, as these lists of pieces. -/
def Fam (w : World) (B : Nat) (v : Value) (rs : List (List Pc)) : Prop := ∃ va, v = .agg #[va] ∧ QRows w B va rs
theorem Fam.below {w w' : World} {B : Nat} {v : Value} {rs : List (List Pc)} (h : Fam w B v rs) (hb : Below B w w') : Fam w' B v rs := by
  obtain ⟨a, hv, h1⟩ := h
  exact ⟨a, hv, h1.below hb⟩
theorem Fam.more {w : World} {B B' : Nat} {v : Value} {rs : List (List Pc)} (h : Fam w B v rs) (hB : B ≤ B') : Fam w B' v rs := by
  obtain ⟨a, hv, h1⟩ := h
  exact ⟨a, hv, h1.more hB⟩
theorem Fam.form {w : World} {B : Nat} {v : Value} {rs : List (List Pc)} (h : Fam w B v rs) : ∃ A c, v = .agg #[.slice A rs.length c] := by
  obtain ⟨a, rfl, h1⟩ := h
  obtain ⟨A, c, rfl, _⟩ := h1.at
  exact ⟨A, c, rfl⟩
/-- What came in is no longer than Go can hold. -/
def FamSz (rs : List (List Pc)) : Prop := rs.length ≤ maxLen ∧ ∀ r ∈ rs, r.length ≤ maxLen ∧ ∀ e ∈ r, e.1.size ≤ maxLen
def FamMax (rs : List (List Pc)) : Prop := rs.length ≤ 1048576 ∧ ∀ r ∈ rs, r.length ≤ 1048576
theorem famMax_of {rs : List (List Pc)} (h : rs.length + qTot rs ≤ 1048576) : FamMax rs := ⟨by omega, fun r hr => by have := qTot_mem hr; omega⟩

set_option maxHeartbeats 800000 in
theorem szFam_any (v : Value) (rs : List (List Pc)) (B : Nat) (w : World) (hv : Fam w B v rs) (hB : B ≤ w.heap.size) (hs : FamSz rs) (m : Int) (hm0 : 0 ≤ m) (hm1 : m ≤ 1048576) :
    Calls Tryz.prog 6 #[v, .int .i64 m] w fun e w' => ∃ r, e = .returned (.int .i64 r) ∧ (0 ≤ r → r + rs.length + qTot rs ≤ m) ∧ r ≤ m ∧ Below w.heap.size w w' := by
  obtain ⟨va, rfl, hb⟩ := hv
  have HB := hidv hb
  have HS := hidv hs
  clear hb hs
  go_enter Tryz.func6, Tryz.ntmps6
  go_wp2_with fail
  have hb0 : Below w.heap.size w (w.alloc (.cells #[va] 25)) := (Below.refl w.heap.size w).alloc (Nat.le_refl _) _
  refine (szQS_any _ rs B _ (HB.out.below (hb0.mono hB)) (Nat.le_trans hB hb0.size) HS.out.1 HS.out.2 m hm0 hm1).mono ?_
  rintro e1 w1 ⟨r, rfl, hr1, hr2, hbw0⟩
  have HR1 := hidv hr1
  have HB0 := hidv (below_on hb0 hbw0)
  clear hr1 hb0 hbw0
  by_cases hr : r < 0
  · go_wp2_with fail
    go_ret
    exact ⟨_, rfl, fun h => by omega, by omega, HB0.out⟩
  go_wp2_with fail
  go_ret
  exact ⟨_, rfl, fun h => HR1.out (by omega), by omega, HB0.out⟩

set_option maxRecDepth 100000 in
set_option maxHeartbeats 800000 in
theorem toFam_any (v : Value) (rs : List (List Pc)) (B : Nat) (w : World) (hv : Fam w B v rs) (hB : B ≤ w.heap.size) (hp : FamMax rs) :
    Calls Tryz.prog 9 #[v] w fun e1 w' => ∃ u, e1 = .returned u ∧ Fam w' w'.heap.size u rs ∧ Below w.heap.size w w' := by
  obtain ⟨va, rfl, hb⟩ := hv
  have HB := hidv hb
  clear hb
  go_enter Tryz.func9, Tryz.ntmps9
  go_wp2_with fail
  obtain ⟨W, hW⟩ : ∃ W, ((w.alloc (.cells #[va] 25)).alloc (.cells #[.slice none 0 0] 34)).alloc (.cells #[.slice none 0 0] 34) = W := ⟨_, rfl⟩
  have hx0 : Bx W w.heap.size 25 #[va] := by
    rw [← hW]; exact ((Bx.new _ _ _).alloc _).alloc _
  have hy : Bx W (w.heap.size + 1 + 1) 34 #[.slice none 0 0] := by
    rw [← hW]
    have := Bx.new ((w.alloc (.cells #[va] 25)).alloc (.cells #[.slice none 0 0] 34)) 34 #[.slice none 0 0]
    rw [World.size_alloc, World.size_alloc] at this
    exact this
  have hr0 : Bx W (w.heap.size + 1) 34 #[.slice none 0 0] := by
    rw [← hW]
    have := (Bx.new (w.alloc (.cells #[va] 25)) 34 #[.slice none 0 0]).alloc (.cells #[.slice none 0 0] 34)
    rw [World.size_alloc] at this
    exact this
  have hbw : Below w.heap.size w W := by
    rw [← hW]; exact (((Below.refl _ _).alloc (Nat.le_refl _) _).alloc (by simp) _).alloc (by simp; omega) _
  rw [hW]
  have hsz : W.heap.size = w.heap.size + 3 := by rw [← hW]; simp
  have HY := hidv hy
  have HR0 := hidv hr0
  have HBW := hidv hbw
  have HSZ := hidv hsz
  clear hW hx0 hy hr0 hbw hsz
  refine (toQS_any _ rs B _ (HB.out.below (HBW.out.mono hB)) (Nat.le_trans hB HBW.out.size) hp.1 hp.2).mono ?_
  rintro e2 w2 ⟨ub, rfl, hub, hb2⟩
  obtain ⟨Ab, cb, rfl, _⟩ := id hub.row.at
  have hy2 := HY.out.below hb2
  have hr2 := HR0.out.below hb2
  have hs2 := hb2.size
  have hsx := HSZ.out
  have HB2 := hidv (below_on HBW.out hb2)
  have HUB := hidv (hub.setCell (g := w.heap.size + 1 + 1) (j := 0) (x := .slice Ab rs.length cb) (by omega))
  have HB3 := hidv (HB2.out.setCell (p := ⟨w.heap.size + 1 + 1, 0, none⟩) (by show w.heap.size ≤ w.heap.size + 1 + 1; omega) (.slice Ab rs.length cb))
  have y0 := hy2.one
  have f0 := hy2.frozen 0
  have q0 := hr2.one
  have g0 := hr2.frozen 0
  have hr3 := ((hr2.far ⟨w.heap.size + 1 + 1, 0, none⟩ (by show w.heap.size + 1 + 1 ≠ _; omega) (.slice Ab rs.length cb)).set 0 (.slice Ab rs.length cb))
  have E0 := hidv (hr3.cell 0)
  have lq : w.heap.size + 1 < w2.heap.size := hr2.lt
  clear hy2 hub hb2 hr2 hr3
  go_wp2_with fail
  refine bodyPost_ret (v := .agg #[.slice Ab rs.length cb]) ?_ rfl ⟨_, rfl, ⟨_, rfl, ?_⟩, ?_⟩
  · simp [results, Tryz.results9, go_sem, E0.out]
  · exact (HUB.out.setCell (g := w.heap.size + 1) (by omega)).row
  · exact HB3.out.setCell (by simp) _

set_option maxRecDepth 100000 in
set_option maxHeartbeats 800000 in
theorem eqFam_same {v u : Value} {rs : List (List Pc)} {w : World} (hv : Fam w w.heap.size v rs) (hu : Fam w w.heap.size u rs) (hp : FamMax rs) :
    Calls Tryz.prog 12 #[v, u] w fun e w' => e = .returned (.bool true) ∧ Below w.heap.size w w' := by
  obtain ⟨vb, rfl, hb⟩ := hv
  obtain ⟨ub, rfl, hb'⟩ := hu
  have HB := hidv hb
  have HB' := hidv hb'
  clear hb hb'
  go_enter Tryz.func12, Tryz.ntmps12
  go_wp2_with fail
  have hbx : Below w.heap.size w ((w.alloc (.cells #[vb] 34)).alloc (.cells #[ub] 34)) := ((Below.refl _ _).alloc (Nat.le_refl _) _).alloc (by simp) _
  have HBX := hidv hbx
  clear hbx
  refine (eqQS_same vb ub rs _ ((HB.out.below HBX.out).more HBX.out.size) ((HB'.out.below HBX.out).more HBX.out.size) (by have := hp.1; unfold maxLen; omega) (fun r hr => by have := hp.2 r hr; omega)).mono ?_
  rintro e2 w2 ⟨rfl, hb2⟩
  have HB2 := hidv (below_on HBX.out hb2)
  clear hb2
  go_wp2_with fail
  go_ret
  exact ⟨rfl, HB2.out⟩

end Go.Proofs.YtdnkdmmockoehaaGreat
