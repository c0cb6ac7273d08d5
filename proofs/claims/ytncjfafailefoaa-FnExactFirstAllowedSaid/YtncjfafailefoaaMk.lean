/-
  Copies of slices of slices of numbers whose blocks are apart; the laws' marks in them: contracts.
-/
import Derived.Test.YtncjfafailefoaaSmB
namespace Go.Proofs.Ytncjfafailefoaa
open Go.RowKit Go
set_option linter.unusedVariables false

theorem own_apart {w w' : World} {base n : Nat} {e : TypeId} {v : Value} {xs : List Value} {row : Option Nat} (h : w.ownsRow base e 1 v n xs) (hg : w.grownBy w' row) (hne : ∀ k, v.ownBlock = some k → row ≠ some k) : w'.ownsRow base e 1 v n xs :=
  h.kept (row := row) hg (by
    rcases hv : v.ownBlock with _ | k
    · exact .inl rfl
    · exact .inr (fun he => hne k hv he.symm))

/-- The blocks of no two of these slices are the same. -/
def Apt (us : List Value) : Prop := ∀ i j (hi : i < us.length) (hj : j < us.length), i < j → ∀ a, us[i].ownBlock = some a → us[j].ownBlock ≠ some a
theorem Apt.snoc {us : List Value} {u : Value} {m : Nat} (h : Apt us) (hb : ∀ i (hi : i < us.length) k, us[i].ownBlock = some k → k < m) (hu : ∀ k, u.ownBlock = some k → m ≤ k) : Apt (us ++ [u]) := by
  intro i j hi hj hij a ha hb2
  rcases Nat.lt_or_ge j us.length with h1 | h1
  · rw [List.getElem_append_left (by omega)] at ha
    rw [List.getElem_append_left h1] at hb2
    exact h i j (by omega) h1 hij a ha hb2
  · rw [List.length_append, List.length_singleton] at hj
    obtain rfl : j = us.length := by omega
    rw [List.getElem_append_left (by omega)] at ha
    rw [List.getElem_append_right (by omega)] at hb2
    have h2 := hb i (by omega) a ha
    have h3 := hu a (by simpa using hb2)
    omega
/-- A slice of slices of numbers of the call's own: the outer one in the block 'base', the inner ones behind it and below 'top', all apart. -/
def IB (w : World) (base top : Nat) (v : Value) (rs : List (List Int)) : Prop :=
  ∃ us, w.ownsRow base 32 1 v rs.length us ∧ us.length = rs.length ∧ Copied w (base + 1) rs us ∧ (v.ownBlock = none ∨ v.ownBlock = some base) ∧ (∀ k, v.ownBlock = some k → k < top) ∧ (∀ i (h : i < us.length) k, us[i].ownBlock = some k → k < top) ∧ Apt us
theorem IB.row {w : World} {base top : Nat} {v : Value} {rs : List (List Int)} (h : IB w base top v rs) : IRows w w.heap.size v rs := by
  obtain ⟨us, h1, h2, h3, _⟩ := h
  exact IRows.of_own h1 h2 h3
theorem IB.below {w w' : World} {base top : Nat} {v : Value} {rs : List (List Int)} (h : IB w base top v rs) (hb : Below w.heap.size w w') : IB w' base top v rs := by
  obtain ⟨us, h1, h2, h3, h4⟩ := h
  exact ⟨us, own_below h1 hb, h2, h3.below hb, h4⟩
theorem IB.setCell {w : World} {base top g j : Nat} {x : Value} {v : Value} {rs : List (List Int)} (h : IB w base top v rs) (hg : g < base) : IB (w.setCell ⟨g, j, none⟩ x) base top v rs := by
  obtain ⟨us, h1, h2, h3, h4⟩ := h
  exact ⟨us, own_other (row := some g) h1 (grown_setCell _ _ _ _) (fun k hk => by cases hk; exact hg), h2, h3.setCell (by omega), h4⟩

set_option maxRecDepth 100000 in
set_option maxHeartbeats 800000 in
theorem toIS2_any (v : Value) (rs : List (List Int)) (B : Nat) (w : World) (hv : IRows w B v rs) (hB : B ≤ w.heap.size) (hx : rs.length ≤ 1048576) (hs : ∀ r ∈ rs, r.length ≤ 1048576) :
    Calls Try.prog 30 #[v] w fun e w' => ∃ u, e = .returned u ∧ IB w' w.heap.size w'.heap.size u rs ∧ Below w.heap.size w w' := by
  obtain ⟨i0, hi, hz0, hz1, hz2⟩ := info_parts Try.infoIS
  obtain ⟨A, c, rfl, hA⟩ := hv.at
  have HA := hidv hA
  have HS := hidv hs
  clear hA hv hs
  obtain ⟨n, hn⟩ : ∃ n, rs.length = n := ⟨_, rfl⟩
  rw [hn] at hx ⊢
  have HN := hidv hn
  clear hn
  go_enter Try.func30, Try.ntmps30
  go_wp2_with (at_make; refine wpList_make_full _ rfl _ _ 22 rfl w.heap.size 32 i0 (.slice none 0 0) 1 Try.underlying22 hi hz0 hz1 _ _ _ _ n rfl rfl rfl rfl (by rw [hz2]; omega) (by unfold maxLen; omega) (Nat.le_refl _) ?_; intro w0 hown0 hgr0)
  have hb0 : Below w.heap.size w w0 := below_grown hgr0 (Nat.le_refl _) (fun k hk => by cases hk)
  have hown1 : w0.ownsRow w.heap.size 32 1 (.slice (some ⟨w.heap.size, 0, none⟩) n n) n (([] : List Value) ++ List.replicate (n - 0) (.slice none 0 0)) := by
    have : (madeCells (Value.slice none 0 0).cells (n * 1)).toList = ([] : List Value) ++ List.replicate (n - 0) (.slice none 0 0) := by
      rw [List.nil_append, Nat.sub_zero, Nat.mul_one]
      exact toList_madeCells_one _ _
    rw [← this]; exact hown0
  have HO0 := hidv hown1
  clear hown0 hgr0 hown1
  go_loopw [4] (fun i wr => ∃ (k : Nat) (us : List Value), k ≤ n ∧ i = .int .i64 k ∧ us.length = k ∧ Hid (wr.ownsRow w.heap.size 32 1 (.slice (some ⟨w.heap.size, 0, none⟩) n n) n (us ++ List.replicate (n - k) (.slice none 0 0))) ∧ Hid (Copied wr (w.heap.size + 1) rs us) ∧ Hid (Below w.heap.size w wr) ∧ Hid (Apt us ∧ ∀ i (h : i < us.length) k, us[i].ownBlock = some k → k < wr.heap.size)) (fun i _ => n - (intOf i).toNat)
  case atStart => exact ⟨0, [], Nat.zero_le _, rfl, rfl, HO0, hidv (fun i hi => absurd hi (by simp)), hidv hb0, hidv ⟨fun i j hi => absurd hi (by simp), fun i hi => absurd hi (by simp)⟩⟩
  case round =>
    obtain ⟨k, us, hk, rfl, hul, hown, hcp, hb, hap⟩ := hrel
    by_cases hlt : k < n
    · have hkx : k < rs.length := by have := HN.out; omega
      obtain ⟨g, o, rfl, hg, hce⟩ := HA.out (by have := HN.out; omega)
      obtain ⟨a, cp, c0, r0⟩ := hce k hkx
      have c1 := (hb.out.cell (p := ⟨g, o + k, none⟩) (by show g < w.heap.size; omega)).trans c0
      have hgs : w.heap.size < wr.heap.size := (hown.out.lt w.heap.size (by simp [Value.ownBlock])).2
      have HC := hidv (toInts_any _ rs[k] B wr (r0.below (hb.out.mono hB)) (by omega) (HS.out _ (List.getElem_mem _)))
      obtain ⟨l, hl⟩ : ∃ l, rs[k].length = l := ⟨_, rfl⟩
      rw [hl] at c1 HC
      clear hl c0 r0 hce
      go_wp2_with fail
      refine HC.out.mono ?_
      rintro e w2 ⟨u2, rfl, hu2, hb2⟩
      obtain ⟨Au, nu, cu, rfl⟩ : ∃ A m c, u2 = .slice A m c := by
        obtain ⟨A, c, h, _⟩ := hu2.row
        exact ⟨A, _, c, h⟩
      have hown2 := own_below hown.out hb2
      have hlr : k < (us ++ List.replicate (n - k) (Value.slice none 0 0)).length := by
        rw [List.length_append, List.length_replicate]; omega
      obtain ⟨z0, d0⟩ : ∃ z, w2.cell? ⟨w.heap.size, k, none⟩ = some z := by
        rw [hown2.cellAt k (by omega), List.getElem?_eq_getElem hlr]
        exact ⟨_, rfl⟩
      have f0 : w2.frozen? ⟨w.heap.size, k, none⟩ = false := hown2.frozenAt k
      have hst := (hown2.stored k (.slice Au nu cu)).1
      rw [set_snoc us k n _ (.slice Au nu cu) hul hlt] at hst
      have hcp2 : Copied w2 (w.heap.size + 1) rs (us ++ [.slice Au nu cu]) := by
        subst hul
        exact (hcp.out.below hb2).snoc hkx (own_wider hu2 (by omega))
      have HAP := hidv (show Apt (us ++ [.slice Au nu cu]) ∧ ∀ i (h : i < (us ++ [Value.slice Au nu cu]).length) k, (us ++ [Value.slice Au nu cu])[i].ownBlock = some k → k < w2.heap.size from by
        have hlt2 : ∀ k, (Value.slice Au nu cu).ownBlock = some k → wr.heap.size ≤ k ∧ k < w2.heap.size := fun k hk => World.ownsRow.lt (hu2 : w2.ownsRow _ _ _ _ _ _) k hk
        refine ⟨hap.out.1.snoc hap.out.2 (fun k hk => (hlt2 k hk).1), fun i hi k hk => ?_⟩
        rcases Nat.lt_or_ge i us.length with h1 | h1
        · rw [List.getElem_append_left h1] at hk
          have := hap.out.2 i h1 k hk
          have := hb2.size
          omega
        · rw [List.length_append, List.length_singleton] at hi
          obtain rfl : i = us.length := by omega
          rw [List.getElem_append_right (by omega)] at hk
          exact (hlt2 k (by simpa using hk)).2)
      have HST := hidv hst
      have HCP := hidv (hcp2.setCell (g := w.heap.size) (j := k) (x := .slice Au nu cu) (by omega))
      have HB2 := hidv (hb.out.trans (hb2.mono hb.out.size))
      clear hb2 hown2 hlr hst hcp2 hu2
      go_wp2
      go_roundw
      case rel => exact ⟨k + 1, us ++ [.slice Au nu cu], by omega, by go_num, by simp [hul], HST, HCP, hidv (HB2.out.setCell (Nat.le_refl _) _), hidv (by have h := HAP.out; rw [show (w2.setCell ⟨w.heap.size, k, none⟩ (.slice Au nu cu)).heap.size = w2.heap.size by simp [World.setCell]]; exact h)⟩
      case measure => simp [intOf]; omega
    · obtain rfl : k = n := by omega
      go_wp2
      go_ret
      have h := hown.out
      rw [Nat.sub_self, List.replicate_zero, List.append_nil] at h
      exact ⟨_, rfl, ⟨us, by rw [HN.out]; exact h, hul.trans HN.out.symm, hcp.out, .inr rfl, fun q hq => (World.ownsRow.lt h q hq).2, hap.out.2, hap.out.1⟩, hb.out⟩

set_option maxHeartbeats 400000 in
theorem markBig_any (v : Value) (xs : List Int) (base e m : Nat) (w : World) (hv : w.ownsRow base e 1 v xs.length (xs.map (Value.int .i64))) (hx : xs.length ≤ maxLen) (hm : m ≤ 1000000000000000) (hxm : xs.length ≤ 1000000000) :
    Calls Try.prog 20 #[v, .int .i64 m] w fun e' w' => e' = .returned (.int .i64 (m + xs.length : Nat)) ∧ w'.ownsRow base e 1 v xs.length ((marks m xs.length).map (Value.int .i64)) ∧ w.grownBy w' v.ownBlock := by
  unfold maxLen at hx
  rcases hv.2 with ⟨rfl, h0⟩ | ⟨g, cap, cur, rfl, hb, hg, hnc, hcm, hs, ht⟩
  · have e1 : xs = [] := List.eq_nil_of_length_eq_zero h0
    subst e1
    clear hx hm hxm h0
    go_enter Try.func20, Try.ntmps20
    go_wp2
    refine wp_loop_rounds 1 ?_
    rw [rounds_succ]
    go_wp2
    go_ret
    exact ⟨rfl, hv, World.grownBy.refl _ _⟩
  · clear hb hg hnc hcm hs ht
    go_enter Try.func20, Try.ntmps20
    go_wp2
    go_loopw [1, 5] (fun q i wr => ∃ k : Nat, k ≤ xs.length ∧ i = .int .i64 k ∧ q = .int .i64 (m + k : Nat) ∧ wr.ownsRow base e 1 (.slice (some ⟨g, 0, none⟩) xs.length cap) xs.length ((marks m k ++ xs.drop k).map (Value.int .i64)) ∧ w.grownBy wr (some g)) (fun _ i _ => xs.length - (intOf i).toNat)
    case atStart => exact ⟨0, Nat.zero_le _, rfl, rfl, by simpa [marks] using hv, World.grownBy.refl _ _⟩
    case round =>
      obtain ⟨k, hk, rfl, rfl, hown, hgr⟩ := hrel
      by_cases hlt : k < xs.length
      · have hcell : wr.cell? ⟨g, k, none⟩ = some (.int .i64 xs[k]) := by
          rw [hown.cellAt k (by omega), List.getElem?_map, List.getElem?_append_right (by rw [marks_length]; exact Nat.le_refl _), marks_length, Nat.sub_self, List.getElem?_drop, Nat.add_zero, List.getElem?_eq_getElem hlt]
          rfl
        have hfr : wr.frozen? ⟨g, k, none⟩ = false := hown.frozenAt k
        have hst := hown.stored k (.int .i64 ((m + k : Nat) : Int))
        rw [set_marks xs m k hlt] at hst
        have HST := hidv hst
        have HOWN := hidv hown
        clear hst hown
        go_wp2
        go_roundw
        case rel =>
          refine ⟨k + 1, by omega, by go_num, by go_num, HST.out.1, ?_⟩
          exact grown_trans hgr HST.out.2
        case measure => simp [intOf]; omega
      · have hkn : k = xs.length := by omega
        subst hkn
        go_wp2
        go_ret
        refine ⟨rfl, ?_, hgr⟩
        simpa using hown

theorem IB.top {w : World} {base t t' : Nat} {v : Value} {rs : List (List Int)} (h : IB w base t v rs) (ht : t ≤ t') : IB w base t' v rs := by
  obtain ⟨us, h1, h2, h3, h4, h5, h6, h7⟩ := h
  exact ⟨us, h1, h2, h3, h4, fun k hk => by have := h5 k hk; omega, fun i hi k hk => by have := h6 i hi k hk; omega, h7⟩
/-- Bounds in memory of the call's own, from block 'base' on and below 'top': the rows of Next ahead of those of Ends. -/
def BndB (w : World) (base top : Nat) (v : Value) (s : Int) (ns es : List (List Int)) : Prop :=
  ∃ a b b1 t1, v = .agg #[.int .i64 s, a, b] ∧ base ≤ b1 ∧ b1 ≤ t1 ∧ t1 ≤ top ∧ IB w b1 t1 a ns ∧ IB w t1 top b es
theorem BndB.row {w : World} {base top : Nat} {v : Value} {s : Int} {ns es : List (List Int)} (h : BndB w base top v s ns es) : Bnd w w.heap.size v s ns es := by
  obtain ⟨a, b, b1, t1, hv, _, _, _, h1, h2⟩ := h
  exact ⟨a, b, hv, h1.row, h2.row⟩
theorem BndB.below {w w' : World} {base top : Nat} {v : Value} {s : Int} {ns es : List (List Int)} (h : BndB w base top v s ns es) (hb : Below w.heap.size w w') : BndB w' base top v s ns es := by
  obtain ⟨a, b, b1, t1, hv, h0, h00, h000, h1, h2⟩ := h
  exact ⟨a, b, b1, t1, hv, h0, h00, h000, h1.below hb, h2.below hb⟩

set_option maxRecDepth 100000 in
set_option maxHeartbeats 800000 in
theorem toBnd3_any (v : Value) (s : Int) (ns es : List (List Int)) (B : Nat) (w : World) (hv : Bnd w B v s ns es) (hB : B ≤ w.heap.size) (hx : RowsMax 1048576 ns) (hp : RowsMax 1048576 es) :
    Calls Try.prog 11 #[v] w fun e1 w' => ∃ u, e1 = .returned u ∧ BndB w' w.heap.size w'.heap.size u s ns es ∧ Below w.heap.size w w' := by
  obtain ⟨va, vb, rfl, ha, hb⟩ := hv
  have HA := hidv ha
  have HB := hidv hb
  clear ha hb
  go_enter Try.func11, Try.ntmps11
  go_wp2_with fail
  obtain ⟨W, hW⟩ : ∃ W, ((w.alloc (.cells #[.int .i64 s, va, vb] 24)).alloc (.cells #[.int .i64 0, .slice none 0 0, .slice none 0 0] 27)).alloc (.cells #[.int .i64 s, .slice none 0 0, .slice none 0 0] 27) = W := ⟨_, rfl⟩
  have hx0 : Bx W w.heap.size 24 #[.int .i64 s, va, vb] := by
    rw [← hW]; exact ((Bx.new _ _ _).alloc _).alloc _
  have hy : Bx W (w.heap.size + 1 + 1) 27 #[.int .i64 s, .slice none 0 0, .slice none 0 0] := by
    rw [← hW]
    have := Bx.new ((w.alloc (.cells #[.int .i64 s, va, vb] 24)).alloc (.cells #[.int .i64 0, .slice none 0 0, .slice none 0 0] 27)) 27 #[.int .i64 s, .slice none 0 0, .slice none 0 0]
    rw [World.size_alloc, World.size_alloc] at this
    exact this
  have hr0 : Bx W (w.heap.size + 1) 27 #[.int .i64 0, .slice none 0 0, .slice none 0 0] := by
    rw [← hW]
    have := (Bx.new (w.alloc (.cells #[.int .i64 s, va, vb] 24)) 27 #[.int .i64 0, .slice none 0 0, .slice none 0 0]).alloc (.cells #[.int .i64 s, .slice none 0 0, .slice none 0 0] 27)
    rw [World.size_alloc] at this
    exact this
  have hbw : Below w.heap.size w W := by
    rw [← hW]; exact (((Below.refl _ _).alloc (Nat.le_refl _) _).alloc (by simp) _).alloc (by simp; omega) _
  rw [hW]
  have hsz : W.heap.size = w.heap.size + 3 := by rw [← hW]; simp
  have HX := hidv hx0
  have HY := hidv hy
  have HR0 := hidv hr0
  have HBW := hidv hbw
  have HSZ := hidv hsz
  clear hW hx0 hy hr0 hbw hsz
  refine (toIS2_any _ ns B _ (HA.out.below (HBW.out.mono hB)) (Nat.le_trans hB HBW.out.size) hx.1 hx.2).mono ?_
  rintro e1 w1 ⟨ua, rfl, hua, hb1⟩
  obtain ⟨Aa, ca, rfl, _⟩ := hua.row.at
  have hx1 := HX.out.below hb1
  have hy1 := HY.out.below hb1
  obtain ⟨x0, x1, x2⟩ := hx1.three
  obtain ⟨y0, y1, y2⟩ := hy1.three
  have f0 := hy1.frozen 0
  have f1 := hy1.frozen 1
  have f2 := hy1.frozen 2
  have hs1 := hb1.size
  have HX1 := hidv hx1
  have HR1 := hidv ((HR0.out.below hb1).far ⟨w.heap.size + 1 + 1, 1, none⟩ (by show w.heap.size + 1 + 1 ≠ _; omega) (.slice Aa ns.length ca))
  have HY1 := hidv (hy1.set 1 (.slice Aa ns.length ca))
  have hsx := HSZ.out
  have HUA := hidv (hua.setCell (g := w.heap.size + 1 + 1) (j := 1) (x := .slice Aa ns.length ca) (by omega))
  have HB1 := hidv ((below_on HBW.out hb1).setCell (p := ⟨w.heap.size + 1 + 1, 1, none⟩) (by show w.heap.size ≤ w.heap.size + 1 + 1; omega) (.slice Aa ns.length ca))
  have _hsz1 : (w1.setCell ⟨w.heap.size + 1 + 1, 1, none⟩ (.slice Aa ns.length ca)).heap.size = w1.heap.size := by simp [World.setCell]
  clear hx1 hy1 hua hb1
  go_wp2_with fail
  refine (toIS2_any _ es B _ (HB.out.below (HB1.out.mono hB)) (by simp [World.setCell]; omega) hp.1 hp.2).mono ?_
  rintro e2 w2 ⟨ub, rfl, hub, hb2⟩
  obtain ⟨Ab, cb, rfl, _⟩ := id hub.row.at
  have hxs : (w1.setCell ⟨w.heap.size + 1 + 1, 1, none⟩ (.slice Aa ns.length ca)).heap.size = w1.heap.size := by simp [World.setCell]
  have hy2 := HY1.out.below hb2
  have hs2 := hb2.size
  rw [hxs] at hs2
  have HB2 := hidv (below_on HB1.out hb2)
  have HUA2 := hidv (HUA.out.below hb2)
  have HUB := hidv (hub.setCell (g := w.heap.size + 1 + 1) (j := 2) (x := .slice Ab es.length cb) (by rw [hxs]; omega))
  have HUA3 := hidv (HUA2.out.setCell (g := w.heap.size + 1 + 1) (j := 2) (x := .slice Ab es.length cb) (by omega))
  have HB3 := hidv (HB2.out.setCell (p := ⟨w.heap.size + 1 + 1, 2, none⟩) (by show w.heap.size ≤ w.heap.size + 1 + 1; omega) (.slice Ab es.length cb))
  clear x0 x1 x2 y0 y1 y2 f0 f1 f2
  have hz : w2.cell? ⟨w.heap.size + 1 + 1, 0, none⟩ = some (.int .i64 s) ∧ w2.cell? ⟨w.heap.size + 1 + 1, 1, none⟩ = some (.slice Aa ns.length ca) ∧ w2.cell? ⟨w.heap.size + 1 + 1, 2, none⟩ = some (.slice none 0 0) := ⟨hy2.cell 0, hy2.cell 1, hy2.cell 2⟩
  obtain ⟨y0, y1, y2⟩ := hz
  have f2 := hy2.frozen 2
  have hr2 := HR1.out.below hb2
  have hr3 := ((((hr2.far ⟨w.heap.size + 1 + 1, 2, none⟩ (by show w.heap.size + 1 + 1 ≠ _; omega) (.slice Ab es.length cb)).set 0 (.int .i64 s)).set 1 (.slice Aa ns.length ca)).set 2 (.slice Ab es.length cb))
  have E0 := hidv (hr3.cell 0)
  have E1 := hidv (hr3.cell 1)
  have E2 := hidv (hr3.cell 2)
  have hz : w2.cell? ⟨w.heap.size + 1, 0, none⟩ = some (.int .i64 0) ∧ w2.cell? ⟨w.heap.size + 1, 1, none⟩ = some (.slice none 0 0) ∧ w2.cell? ⟨w.heap.size + 1, 2, none⟩ = some (.slice none 0 0) := ⟨hr2.cell 0, hr2.cell 1, hr2.cell 2⟩
  obtain ⟨q0, q1, q2⟩ := hz
  have g0 := hr2.frozen 0
  have g1 := hr2.frozen 1
  have g2 := hr2.frozen 2
  have lq : w.heap.size + 1 < w2.heap.size := hr2.lt
  clear hy2 hub hb2 hr2 hr3
  go_wp2_with fail
  have hq3 : (((w2.setCell ⟨w.heap.size + 1 + 1, 2, none⟩ (.slice Ab es.length cb)).setCell ⟨w.heap.size + 1, 0, none⟩ (.int .i64 s)).setCell ⟨w.heap.size + 1, 1, none⟩ (.slice Aa ns.length ca)).heap.size = w2.heap.size := by simp [World.setCell]
  refine bodyPost_ret (v := .agg #[.int .i64 s, .slice Aa ns.length ca, .slice Ab es.length cb]) ?_ rfl ⟨_, rfl, ⟨_, _, W.heap.size, w1.heap.size, rfl, by omega, by omega, by simp [World.setCell]; omega, ?_, ?_⟩, ?_⟩
  · simp [results, Try.results11, go_sem, E0.out, E1.out, E2.out]
  · exact ((HUA3.out.setCell (g := w.heap.size + 1) (by omega)).setCell (g := w.heap.size + 1) (by omega)).setCell (g := w.heap.size + 1) (by omega)
  · rw [hxs] at HUB
    exact IB.top (((HUB.out.setCell (g := w.heap.size + 1) (by omega)).setCell (g := w.heap.size + 1) (by omega)).setCell (g := w.heap.size + 1) (by omega)) (by simp [World.setCell])
  · exact ((HB3.out.setCell (by simp) _).setCell (by simp) _).setCell (by simp) _

/-- What marks keep: all that lies below base, and the rows of numbers that lie from top on. -/
def Keeps (base top : Nat) (w w' : World) : Prop := Below base w w' ∧ (∀ B e n v xs, w.ownsRow B e 1 v n xs → (∀ k, v.ownBlock = some k → top ≤ k) → w'.ownsRow B e 1 v n xs) ∧ ∀ g t cs, Bx w g t cs → top ≤ g → Bx w' g t cs
theorem Keeps.refl (base top : Nat) (w : World) : Keeps base top w w := ⟨Below.refl _ _, fun _ _ _ _ _ h _ => h, fun _ _ _ h _ => h⟩
theorem Keeps.step {base top : Nat} {w wa wb : World} {row : Option Nat} (h : Keeps base top w wa) (hg : wa.grownBy wb row) (hb : base ≤ w.heap.size) (hr : ∀ k, row = some k → base ≤ k ∧ k < top) : Keeps base top w wb :=
  ⟨h.1.grown hg (Nat.le_trans hb h.1.size) (fun k hk => (hr k hk).1), fun B e n v xs h1 h2 => own_apart (h.2.1 B e n v xs h1 h2) hg (fun k hk he => by have := (hr k he).2; have := h2 k hk; omega), fun g t cs h1 h2 => (h.2.2 g t cs h1 h2).grown hg (fun he => by have := (hr g he.symm).2; omega)⟩
theorem Keeps.IB {base top t1 t2 : Nat} {w w' : World} {v : Value} {rs : List (List Int)} (h : Keeps base top w w') (ht : top ≤ t1) (hv : IB w t1 t2 v rs) : IB w' t1 t2 v rs := by
  obtain ⟨us, h1, h2, h3, h4, h5, h6, h7⟩ := hv
  refine ⟨us, h.2.1 _ _ _ _ _ h1 (fun k hk => by have := (World.ownsRow.lt h1 k hk).1; omega), h2, fun i hi => ?_, h4, h5, h6, h7⟩
  obtain ⟨hr, h8⟩ := h3 i hi
  have h9 : w.ownsRow _ _ _ _ _ _ := h8
  exact ⟨hr, h.2.1 _ _ _ _ _ h9 (fun k hk => by have := (World.ownsRow.lt h9 k hk).1; omega)⟩

set_option maxRecDepth 100000 in
set_option maxHeartbeats 800000 in
theorem markIS_any (v : Value) (rs : List (List Int)) (base top m : Nat) (w : World) (hv : IB w base top v rs) (hbase : base ≤ w.heap.size) (hx : RowsMax 1048576 rs) (hm : m ≤ 100000000000000) :
    Calls Try.prog 42 #[v, .int .i64 (m : Int)] w fun e w' => ∃ q : Nat, e = .returned (.int .i64 (q : Int)) ∧ m ≤ q ∧ q ≤ m + 1099511627776 ∧ Keeps base top w w' := by
  obtain ⟨us, h1, h2, h3, h4, h5, h6, h7⟩ := hv
  obtain ⟨n, hn⟩ : ∃ n, rs.length = n := ⟨_, rfl⟩
  have hxn := hx.1
  have HX := hidv hx.2
  rw [hn] at h1 hxn
  have h2n : us.length = n := h2.trans hn
  rcases h1.2 with ⟨rfl, h0⟩ | ⟨g, c, cur, rfl, hb, hg, hnc, hcm, hs, ht⟩
  · subst h0
    clear h1 h2 h3 h4 h5 h6 h7 hn hx
    go_enter Try.func42, Try.ntmps42
    go_wp2
    refine wp_loop_rounds 1 ?_
    rw [rounds_succ]
    go_wp2
    go_ret
    exact ⟨m, rfl, by omega, by omega, Keeps.refl _ _ _⟩
  have hgb : g = base := by
    rcases h4 with h | h
    · cases h
    · simpa [Value.ownBlock] using h
  have htop : base < top := by rw [← hgb]; exact h5 g rfl
  have H1 := hidv h1
  have H2 := hidv h2n
  have H3 := hidv h3
  have H6 := hidv h6
  have H7 := hidv h7
  have HN := hidv hn
  have HG := hidv hgb
  clear h1 h2 h3 h4 h5 h6 h7 hn hx hb hg hnc hcm hs ht hgb h2n
  go_enter Try.func42, Try.ntmps42
  go_wp2
  go_loopw [1, 5] (fun r i wr => ∃ (k q : Nat), k ≤ n ∧ i = .int .i64 k ∧ r = .int .i64 (q : Int) ∧ m ≤ q ∧ q ≤ m + k * 1048576 ∧ Hid (Keeps base top w wr) ∧ Hid (wr.ownsRow base 32 1 (.slice (some ⟨g, 0, none⟩) n c) n us) ∧ Hid (∀ j (hj : j < us.length), k ≤ j → ∃ hr : j < rs.length, IntsT 2 wr (base + 1) us[j] rs[j])) (fun _ i _ => n - (intOf i).toNat)
  case atStart => exact ⟨0, m, by omega, rfl, rfl, by omega, by omega, hidv (Keeps.refl _ _ _), H1, hidv (fun j hj _ => H3.out j hj)⟩
  case round =>
    obtain ⟨k, q, hk, rfl, rfl, hq0, hq1, hkp, hown, hrows⟩ := hrel
    by_cases hlt : k < n
    · have hku : k < us.length := by have := H2.out; omega
      obtain ⟨hkr, hrow⟩ := hrows.out k hku (Nat.le_refl _)
      have c1 : wr.cell? ⟨g, k, none⟩ = some us[k] := by
        rw [hown.out.cellAt k (by omega), List.getElem?_eq_getElem hku]
      obtain ⟨a, ca, hue, _⟩ := hrow.row
      rw [show (rs[k].map (Value.int .i64)).length = rs[k].length by simp] at hue
      have hrl := HX.out rs[k] (List.getElem_mem _)
      have hbs : base ≤ w.heap.size := hbase
      have CK := hidv (markBig_any us[k] rs[k] (base + 1) 2 q wr hrow (by unfold maxLen; omega) (by omega) (by omega))
      obtain ⟨l, hl⟩ : ∃ l, rs[k].length = l := ⟨_, rfl⟩
      have hsz : base + 1 ≤ wr.heap.size ∨ True := .inr trivial
      have HROW := hidv hrow
      obtain ⟨u, hu⟩ : ∃ u, us[k] = u := ⟨_, rfl⟩
      have H6k := hidv (H6.out k hku)
      have H7k := hidv (fun j (hj : j < us.length) (hkj : k < j) => H7.out k j hku hj hkj)
      rw [hu] at c1 hue CK HROW H6k H7k
      rw [hl] at hue CK hrl
      subst hue
      have i1 : (0 : Int) ≤ (k : Int) := by omega
      have i2 : (k : Int) < (n : Int) := by omega
      clear hrow hl hu
      go_wp2_with fail
      refine CK.out.mono ?_
      rintro e w2 ⟨rfl, _, hg2⟩
      have HK2 := hidv (hkp.out.step hg2 hbs (fun j hj => ⟨by have h := (World.ownsRow.lt (HROW.out : wr.ownsRow _ _ _ _ _ _) j hj).1; omega, H6k.out j hj⟩))
      have HO2 := hidv (own_apart hown.out hg2 (fun j hj he => by
        have h := (World.ownsRow.lt (HROW.out : wr.ownsRow _ _ _ _ _ _) j he).1
        have hj2 : some g = some j := hj
        injection hj2 with hj2
        have := HG.out
        omega))
      have HR2 := hidv (show ∀ j (hj : j < us.length), k + 1 ≤ j → ∃ hr : j < rs.length, IntsT 2 w2 (base + 1) us[j] rs[j] from fun j hj hkj => by
        obtain ⟨hr, h8⟩ := hrows.out j hj (by omega)
        exact ⟨hr, own_apart h8 hg2 (fun b hb he => H7k.out j hj (by omega) b he hb)⟩)
      clear hg2
      go_wp2_with fail
      go_roundw
      case rel => exact ⟨k + 1, q + l, by omega, by go_num, rfl, by omega, by omega, HK2, HO2, HR2⟩
      case measure => simp [intOf]; omega
    · obtain rfl : k = n := by omega
      have hk2 : k * 1048576 ≤ 1099511627776 := Nat.mul_le_mul_right 1048576 hxn
      go_wp2
      go_ret
      exact ⟨q, rfl, by omega, by omega, hkp.out⟩

theorem markBnd_any (v : Value) (s : Int) (ns es : List (List Int)) (base top : Nat) (w : World) (hv : BndB w base top v s ns es) (hbase : top ≤ w.heap.size) (hx : RowsMax 1048576 ns) (hp : RowsMax 1048576 es) :
    Calls Try.prog 19 #[v, .int .i64 1] w fun e w' => ∃ q : Nat, e = .returned (.int .i64 (q : Int)) ∧ Below base w w' ∧ ∀ B e n v xs, w.ownsRow B e 1 v n xs → (∀ k, v.ownBlock = some k → top ≤ k) → w'.ownsRow B e 1 v n xs := by
  obtain ⟨a, b, b1, t1, rfl, h0, h1, h2, ha, hb⟩ := hv
  have hbx := Bx.new w 27 #[.int .i64 s, a, b]
  have hbl : Below w.heap.size w (w.alloc (.cells #[.int .i64 s, a, b] 27)) := (Below.refl _ _).alloc (by simp) _
  have HA := hidv (ha.below hbl)
  have HB := hidv (hb.below hbl)
  have HBX := hidv hbx
  have HBL := hidv hbl
  have hsz : w.heap.size < (w.alloc (.cells #[.int .i64 s, a, b] 27)).heap.size := by simp
  clear ha hb hbx hbl
  go_enter Try.func19, Try.ntmps19
  go_wp2_with fail
  obtain ⟨W, hW⟩ : ∃ W, w.alloc (.cells #[.int .i64 s, a, b] 27) = W := ⟨_, rfl⟩
  rw [hW] at HA HB HBX HBL hsz ⊢
  clear hW
  refine (markIS_any a ns b1 t1 1 W HA.out (by omega) hx (by omega)).mono ?_
  rintro e w1 ⟨q1, rfl, hq1, hq2, hk1⟩
  have HB1 := hidv (hk1.IB (Nat.le_refl _) HB.out)
  have HX1 := hidv (hk1.2.2 _ _ _ HBX.out (by omega))
  have hs1 := hk1.1.size
  have HK1 := hidv hk1
  obtain ⟨x0, x1, x2⟩ := HX1.out.three
  clear hk1
  go_wp2_with fail
  refine (markIS_any b es t1 top q1 w1 HB1.out (by omega) hp (by omega)).mono ?_
  rintro e w2 ⟨q2, rfl, hq3, hq4, hk2⟩
  have HK2 := hidv hk2
  clear hk2 x0 x1 x2
  go_wp2_with fail
  go_ret
  refine ⟨q2, rfl, ?_, fun B e n v xs h3 h4 => ?_⟩
  · exact ((HBL.out.mono (by omega)).trans (HK1.out.1.mono h0)).trans (HK2.out.1.mono (by omega))
  · exact HK2.out.2.1 _ _ _ _ _ (HK1.out.2.1 _ _ _ _ _ (own_below h3 HBL.out) (fun k hk => by have := h4 k hk; omega)) h4

end Go.Proofs.Ytncjfafailefoaa
