/-
  ReplaceIn, of the program and of the model, at every argument; and the law over them.
-/
import Derived.Test.YtamhhgcghjhifaaDoorRepT
import Derived.Test.YtamhhgcghjhifaaDoorME
namespace Go.Proofs.YtamhhgcghjhifaaDoor
open Go.RowKit Go
set_option linter.unusedVariables false

set_option maxHeartbeats 400000 in
theorem implReplaceIn_s (v : Value) (es : List Eqn) (x y : ByteArray) (B : Nat) (w : World) (hv : ERow w B v es) (hB : B ≤ w.heap.size) (hl : es.length ≤ 1048576) (hs : ∀ e ∈ es, e.1.size ≤ maxLen ∧ e.2.size ≤ maxLen) (h : sysB es = false) :
    Calls Tryd.prog 10 #[v, .string x, .string y] w fun e w' => ∃ u, e = .returned (.tuple #[u, .int .i64 1]) ∧ Eqns w' w.heap.size u [] ∧ Below w.heap.size w w' := by
  have c1 := implSys_any v es B w hv hB hl hs
  rw [h] at c1
  obtain ⟨A, cp, rfl, hA⟩ := hv
  have C1 := hidv c1
  clear c1 h hA hs
  go_enter Tryd.func10, Tryd.ntmps10
  go_wp2_with fail
  refine C1.out.mono ?_
  rintro e w1 ⟨rfl, hb1⟩
  have HB1 := hidv hb1
  clear hb1
  go_wp2_with fail
  go_ret2
  exact ⟨_, rfl, World.ownsRow_nil _ _ _ _, HB1.out⟩
set_option maxHeartbeats 400000 in
theorem implReplaceIn_y (v : Value) (es : List Eqn) (x y : ByteArray) (B : Nat) (w : World) (hv : ERow w B v es) (hB : B ≤ w.heap.size) (hl : es.length ≤ 1048576) (hs : ∀ e ∈ es, e.1.size ≤ maxLen ∧ e.2.size ≤ maxLen) (hy : y.size ≤ maxLen) (h : sysB es = true) (h2 : Wd.termB y.data.toList = false) :
    Calls Tryd.prog 10 #[v, .string x, .string y] w fun e w' => ∃ u, e = .returned (.tuple #[u, .int .i64 1]) ∧ Eqns w' w.heap.size u [] ∧ Below w.heap.size w w' := by
  have c1 := implSys_any v es B w hv hB hl hs
  rw [h] at c1
  have c2 := fun W => implValidTerm_any y W hy
  rw [h2] at c2
  obtain ⟨A, cp, rfl, hA⟩ := hv
  have C1 := hidv c1
  have C2 := hidv c2
  clear c1 c2 h h2 hA hs
  go_enter Tryd.func10, Tryd.ntmps10
  go_wp2_with fail
  refine C1.out.mono ?_
  rintro e w1 ⟨rfl, hb1⟩
  have HB1 := hidv hb1
  clear hb1
  go_wp2_with fail
  refine (C2.out _).mono ?_
  rintro e w' ⟨rfl, rfl⟩
  go_wp2_with fail
  go_ret2
  exact ⟨_, rfl, World.ownsRow_nil _ _ _ _, HB1.out⟩

set_option maxHeartbeats 400000 in
theorem implReplaceIn_x (v : Value) (es : List Eqn) (x y : ByteArray) (B : Nat) (w : World) (hv : ERow w B v es) (hB : B ≤ w.heap.size) (hl : es.length ≤ 1048576) (hs : ∀ e ∈ es, e.1.size ≤ maxLen ∧ e.2.size ≤ maxLen) (hx : x.size ≤ maxLen) (hy : y.size ≤ maxLen) (h : sysB es = true) (h2 : Wd.termB y.data.toList = true) (h3 : uB x.data.toList = false) :
    Calls Tryd.prog 10 #[v, .string x, .string y] w fun e w' => ∃ u, e = .returned (.tuple #[u, .int .i64 2]) ∧ Eqns w' w.heap.size u [] ∧ Below w.heap.size w w' := by
  have c1 := implSys_any v es B w hv hB hl hs
  rw [h] at c1
  have c2 := fun W => implValidTerm_any y W hy
  rw [h2] at c2
  obtain ⟨A, cp, rfl, hA⟩ := hv
  have C1 := hidv c1
  have C2 := hidv c2
  have c3 := fun W => isU_any x W hx
  rw [h3] at c3
  have C3 := hidv c3
  clear c1 c2 c3 h h2 h3 hA hs
  go_enter Tryd.func10, Tryd.ntmps10
  go_wp2_with fail
  refine C1.out.mono ?_
  rintro e w1 ⟨rfl, hb1⟩
  have HB1 := hidv hb1
  clear hb1
  go_wp2_with fail
  refine (C2.out _).mono ?_
  rintro e w' ⟨rfl, rfl⟩
  go_wp2_with fail
  refine (C3.out _).mono ?_
  rintro e w' ⟨rfl, rfl⟩
  go_wp2_with fail
  go_ret2
  exact ⟨_, rfl, World.ownsRow_nil _ _ _ _, HB1.out⟩

set_option maxHeartbeats 400000 in
theorem specReplaceIn_s (v : Value) (es : List Eqn) (x y : ByteArray) (B : Nat) (w : World) (hv : ERow w B v es) (hB : B ≤ w.heap.size) (hl : es.length ≤ 1048576) (hs : ∀ e ∈ es, e.1.size ≤ maxLen ∧ e.2.size ≤ maxLen) (h : sysB es = false) :
    Calls Tryd.prog 8 #[v, .string x, .string y] w fun e w' => ∃ u, e = .returned (.tuple #[u, .int .i64 1]) ∧ Eqns w' w.heap.size u [] ∧ Below w.heap.size w w' := by
  have c1 := specSys_any v es B w hv hB hl hs
  rw [h] at c1
  obtain ⟨A, cp, rfl, hA⟩ := hv
  have C1 := hidv c1
  clear c1 h hA hs
  go_enter Tryd.func8, Tryd.ntmps8
  go_wp2_with fail
  refine C1.out.mono ?_
  rintro e w1 ⟨rfl, hb1⟩
  have HB1 := hidv hb1
  clear hb1
  go_wp2_with fail
  go_ret2
  exact ⟨_, rfl, World.ownsRow_lit w1 #[] 0 HB1.out.size (Nat.zero_le _) rfl, below_al HB1.out _⟩
set_option maxHeartbeats 400000 in
theorem specReplaceIn_y (v : Value) (es : List Eqn) (x y : ByteArray) (B : Nat) (w : World) (hv : ERow w B v es) (hB : B ≤ w.heap.size) (hl : es.length ≤ 1048576) (hs : ∀ e ∈ es, e.1.size ≤ maxLen ∧ e.2.size ≤ maxLen) (hy : y.size ≤ maxLen) (h : sysB es = true) (h2 : Wd.termB y.data.toList = false) :
    Calls Tryd.prog 8 #[v, .string x, .string y] w fun e w' => ∃ u, e = .returned (.tuple #[u, .int .i64 1]) ∧ Eqns w' w.heap.size u [] ∧ Below w.heap.size w w' := by
  have c1 := specSys_any v es B w hv hB hl hs
  rw [h] at c1
  have c2 := fun W => specTerm_any y W hy
  rw [h2] at c2
  obtain ⟨A, cp, rfl, hA⟩ := hv
  have C1 := hidv c1
  have C2 := hidv c2
  clear c1 c2 h h2 hA hs
  go_enter Tryd.func8, Tryd.ntmps8
  go_wp2_with fail
  refine C1.out.mono ?_
  rintro e w1 ⟨rfl, hb1⟩
  have HB1 := hidv hb1
  clear hb1
  go_wp2_with fail
  refine (C2.out _).mono ?_
  rintro e w' ⟨rfl, rfl⟩
  go_wp2_with fail
  go_ret2
  exact ⟨_, rfl, World.ownsRow_lit w1 #[] 0 HB1.out.size (Nat.zero_le _) rfl, below_al HB1.out _⟩

set_option maxHeartbeats 400000 in
theorem specReplaceIn_x (v : Value) (es : List Eqn) (x y : ByteArray) (B : Nat) (w : World) (hv : ERow w B v es) (hB : B ≤ w.heap.size) (hl : es.length ≤ 1048576) (hs : ∀ e ∈ es, e.1.size ≤ maxLen ∧ e.2.size ≤ maxLen) (hx : x.size ≤ maxLen) (hy : y.size ≤ maxLen) (h : sysB es = true) (h2 : Wd.termB y.data.toList = true) (h3 : uB x.data.toList = false) :
    Calls Tryd.prog 8 #[v, .string x, .string y] w fun e w' => ∃ u, e = .returned (.tuple #[u, .int .i64 2]) ∧ Eqns w' w.heap.size u [] ∧ Below w.heap.size w w' := by
  have c1 := specSys_any v es B w hv hB hl hs
  rw [h] at c1
  have c2 := fun W => specTerm_any y W hy
  rw [h2] at c2
  obtain ⟨A, cp, rfl, hA⟩ := hv
  have C1 := hidv c1
  have C2 := hidv c2
  clear c1 c2 h h2 hA hs
  unfold maxLen at hx
  by_cases h1 : x.size = 1
  · obtain ⟨b, hb⟩ := lu_one h1
    have hp : 0 < x.size := by omega
    have hq : Wd.unkI x[0] < 0 := by
      have := unkI_neg x[0]
      subst hb
      rw [show Wd.isU (⟨#[b]⟩ : ByteArray)[0] = false from h3] at this
      simpa using this
    have c3 := fun W => unknown_any x[0] W
    obtain ⟨q, hqq⟩ : ∃ q, Wd.unkI x[0] = q := ⟨_, rfl⟩
    rw [hqq] at c3 hq
    have C3 := hidv c3
    have hs1 : ((x.size : Int) != 1) = false := by rw [h1]; rfl
    have i0 : (0 : Int) < (x.size : Int) := by omega
    clear c3 hqq hb h3 h1
    go_enter Tryd.func8, Tryd.ntmps8
    go_wp2_with fail
    refine C1.out.mono ?_
    rintro e w1 ⟨rfl, hb1⟩
    have HB1 := hidv hb1
    clear hb1
    go_wp2_with fail
    refine (C2.out _).mono ?_
    rintro e w' ⟨rfl, rfl⟩
    go_wp2_with fail
    refine (C3.out _).mono ?_
    rintro e w' ⟨rfl, rfl⟩
    go_wp2_with fail
    go_ret2
    exact ⟨_, rfl, World.ownsRow_lit w1 #[] 0 HB1.out.size (Nat.zero_le _) rfl, below_al HB1.out _⟩
  · have hs1 : ((x.size : Int) != 1) = true := by rw [bne_iff_ne]; omega
    clear h3 h1
    go_enter Tryd.func8, Tryd.ntmps8
    go_wp2_with fail
    refine C1.out.mono ?_
    rintro e w1 ⟨rfl, hb1⟩
    have HB1 := hidv hb1
    clear hb1
    go_wp2_with fail
    refine (C2.out _).mono ?_
    rintro e w' ⟨rfl, rfl⟩
    go_wp2_with fail
    go_ret2
    exact ⟨_, rfl, World.ownsRow_lit w1 #[] 0 HB1.out.size (Nat.zero_le _) rfl, below_al HB1.out _⟩

theorem replaceIn_both (es : List Eqn) (x y : ByteArray) (hl : es.length ≤ 1048576) (hs : ∀ e ∈ es, e.1.size ≤ maxLen ∧ e.2.size ≤ maxLen) (hx : x.size ≤ maxLen) (hy : y.size ≤ maxLen) : ∃ (L : List Eqn) (c : Int), L.length ≤ 4 ∧
    (∀ w v B, ML w → ERow w B v es → B ≤ w.heap.size → Calls Tryd.prog 10 #[v, .string x, .string y] w fun e w' => ∃ u, e = .returned (.tuple #[u, .int .i64 c]) ∧ Eqns w' w.heap.size u L ∧ Below w.heap.size w w') ∧
    ∀ w v B, ERow w B v es → B ≤ w.heap.size → Calls Tryd.prog 8 #[v, .string x, .string y] w fun e w' => ∃ u, e = .returned (.tuple #[u, .int .i64 c]) ∧ Eqns w' w.heap.size u L ∧ Below w.heap.size w w' := by
  cases h : sysB es
  · exact ⟨[], 1, by simp, fun w v B _ hv hB => implReplaceIn_s v es x y B w hv hB hl hs h, fun w v B hv hB => specReplaceIn_s v es x y B w hv hB hl hs h⟩
  have hlen : es.length ≤ 4 := by
    have h := h
    unfold sysB at h
    rw [Bool.and_eq_true, decide_eq_true_eq] at h
    exact h.1
  cases h2 : Wd.termB y.data.toList
  · exact ⟨[], 1, by simp, fun w v B _ hv hB => implReplaceIn_y v es x y B w hv hB hl hs hy h h2, fun w v B hv hB => specReplaceIn_y v es x y B w hv hB hl hs hy h h2⟩
  cases h3 : uB x.data.toList
  · exact ⟨[], 2, by simp, fun w v B _ hv hB => implReplaceIn_x v es x y B w hv hB hl hs hx hy h h2 h3, fun w v B hv hB => specReplaceIn_x v es x y B w hv hB hl hs hx hy h h2 h3⟩
  have h1 : x.size = 1 := by
    by_cases h : x.data.toList.length = 1
    · simpa using h
    · rw [uB_not h] at h3; cases h3
  obtain ⟨b, rfl⟩ := lu_one h1
  cases hf : (es.map (rpE b y)).all fitE
  · refine ⟨[], 3, by simp, fun w v B hml hv hB => (implReplaceIn_any v es y b B w hml hv hB h h2 h3).mono ?_, fun w v B hv hB => (specReplaceIn_any v es y b B w hv hB h h2 h3).mono ?_⟩
    · rintro e w' ⟨hb, _, hn⟩
      exact ⟨_, hn hf, World.ownsRow_nil _ _ _ _, hb⟩
    · rintro e w' ⟨hb, _, hn⟩
      obtain ⟨u, hu, hE⟩ := hn hf
      exact ⟨u, hu, hE, hb⟩
  · refine ⟨es.map (rpE b y), 0, by rw [List.length_map]; exact hlen, fun w v B hml hv hB => (implReplaceIn_any v es y b B w hml hv hB h h2 h3).mono ?_, fun w v B hv hB => (specReplaceIn_any v es y b B w hv hB h h2 h3).mono ?_⟩
    · rintro e w' ⟨hb, hn, _⟩
      obtain ⟨u, hu, hE⟩ := hn hf
      exact ⟨u, hu, hE, hb⟩
    · rintro e w' ⟨hb, hn, _⟩
      obtain ⟨u, hu, hE⟩ := hn hf
      exact ⟨u, hu, hE, hb⟩

theorem eqns_apart {w w' : World} {b : Nat} {v u : Value} {fs : List Eqn} (hu : Eqns w b u fs) (hv : ∀ k, v.ownBlock = some k → k < b) (hg : w.grownBy w' v.ownBlock) : Eqns w' b u fs := by
  have hu' : w.ownsRow b 42 2 u fs.length (flatE fs) := hu
  refine hu'.kept hg ?_
  rcases h : u.ownBlock with _ | k
  · exact .inl rfl
  · refine .inr fun e => ?_
    have h1 := (hu'.lt k h).1
    have h2 := hv k e.symm
    omega
theorem markEqns_own {v : Value} {L : List Eqn} {base : Nat} {w : World} (hv : Eqns w base v L) (hl : L.length ≤ 1048576) (hbase : base ≤ w.heap.size) :
    Calls Tryd.prog 12 #[v, .int .i64 1] w fun e' w' => e' = .returned (.int .i64 (1 + 2 * L.length : Nat)) ∧ w.grownBy w' v.ownBlock ∧ Below base w w' := by
  refine (markEqns_any v L base 1 w hv (Nat.le_refl _) (by omega)).mono ?_
  rintro e' w' ⟨rfl, hown, hg⟩
  exact ⟨rfl, hg, below_grown hg hbase fun k hk => (World.ownsRow.lt (show w.ownsRow base 42 2 v L.length (flatE L) from hv) k hk).1⟩
theorem markEqns_own2 {v : Value} {L : List Eqn} {base : Nat} {w : World} (hv : Eqns w base v L) (hl : L.length ≤ 1048576) (hbase : base ≤ w.heap.size) :
    Calls Tryd.prog 12 #[v, .int .i64 1] w fun e' w' => e' = .returned (.int .i64 (1 + 2 * L.length : Nat)) ∧ Eqns w' base v (mes 1 L.length) ∧ Below base w w' := by
  refine (markEqns_any v L base 1 w hv (Nat.le_refl _) (by omega)).mono ?_
  rintro e' w' ⟨rfl, hown, hg⟩
  exact ⟨rfl, hown, below_grown hg hbase fun k hk => (World.ownsRow.lt (show w.ownsRow base 42 2 v L.length (flatE L) from hv) k hk).1⟩
theorem heldEqns_own {v : Value} {n B : Nat} {w : World} (hv : ERow w B v (mes 1 n)) (hB : B ≤ w.heap.size) (hn : n ≤ 100000) :
    Calls Tryd.prog 13 #[v, .int .i64 1] w fun e' w' => e' = .returned (.int .i64 (1 + 2 * n : Nat)) ∧ Below w.heap.size w w' :=
  heldEqns_any v n B 1 w hv hB (Nat.le_refl _) (by omega)

set_option maxHeartbeats 1600000 in
theorem law_FnExactReplaceIn (v : Value) (es : List Eqn) (x y : ByteArray) (w : World) (hv : ERow w w.heap.size v es) (hn : es.length ≤ maxLen) (hs : ∀ e ∈ es, e.1.size ≤ maxLen ∧ e.2.size ≤ maxLen) (hx : x.size ≤ maxLen) (hy : y.size ≤ maxLen) (ml : ML w) :
    Calls Tryd.prog 4 #[v, .string x, .string y] w fun e w' => e = .returned (.bool true) ∧ Below w.heap.size w w' := by
  have HV := hidv hv
  have HX := hidv hn
  have HS := hidv hs
  clear hv hn hs
  have hx' := hx
  have hy' := hy
  unfold maxLen at hx' hy'
  by_cases l2 : (1048576 : Int) < x.size
  · go_enter Tryd.func4, Tryd.ntmps4
    go_wp2
    go_ret
    exact ⟨rfl, Below.refl _ _⟩
  by_cases l3 : (1048576 : Int) < y.size
  · go_enter Tryd.func4, Tryd.ntmps4
    go_wp2
    go_ret
    exact ⟨rfl, Below.refl _ _⟩
  go_enter Tryd.func4, Tryd.ntmps4
  go_wp2_with fail
  refine (szEqns_any v es w.heap.size _ HV.out (Nat.le_refl _) HX.out HS.out 1048576 (by omega) (by omega)).mono ?_
  rintro e w1 ⟨r, rfl, hr, hrm, hb1⟩
  have hc1 := hb1
  have s1 := hc1.size
  have BL1 := hidv (hc1)
  clear hb1 hc1
  have HRR := hidv hr
  clear hr
  by_cases hr0 : r < 0
  · go_wp2_with fail
    go_ret
    exact ⟨rfl, BL1.out⟩
  have hxl : es.length ≤ 1048576 := by have := HRR.out (by omega); omega
  obtain ⟨L, c, hL, h1, h2⟩ := replaceIn_both es x y hxl HS.out hx hy
  have H1 := hidv h1
  have H2 := hidv h2
  clear h1 h2
  go_wp2_with fail
  refine (toEqns_any _ es w.heap.size _ (HV.out.below BL1.out) BL1.out.size hxl).mono ?_
  rintro e w2 ⟨u2, rfl, hu2, hb2⟩
  have hc2 := hb2
  have s2 := hc2.size
  have BL2 := hidv (below_on BL1.out hc2)
  have HA2 := hidv (hu2)
  clear hb2 hc2 hu2
  go_wp2_with fail
  refine (H2.out _ _ _ HA2.out.row (Nat.le_refl _)).mono ?_
  rintro e w3 ⟨va, rfl, hva, hb3⟩
  have hc3 := hb3
  have s3 := hc3.size
  have BL3 := hidv (below_on BL2.out hc3)
  have HW3 := hidv (hva.row)
  clear hb3 hc3 hva
  go_wp2_with fail
  refine (toEqns_any _ es w.heap.size _ (HV.out.below BL3.out) BL3.out.size hxl).mono ?_
  rintro e w4 ⟨u4, rfl, hu4, hb4⟩
  have hc4 := hb4
  have s4 := hc4.size
  have BL4 := hidv (below_on BL3.out hc4)
  have HW4 := hidv (HW3.out.below (hc4.mono (by omega)))
  have HX4 := hidv (hu4)
  have hxlt := fun k hk => (World.ownsRow.lt hu4 k hk).2
  clear hb4 hc4 hu4
  go_wp2_with fail
  refine (H1.out _ _ _ (ml.below BL4.out) HX4.out.row (Nat.le_refl _)).mono ?_
  rintro e w5 ⟨vb, rfl, hvb, hb5⟩
  have hc5 := hb5
  have s5 := hc5.size
  have BL5 := hidv (below_on BL4.out hc5)
  have HW5 := hidv (HW4.out.below (hc5.mono (by omega)))
  have HX5 := hidv (HX4.out.below hc5)
  have HG5 := hidv (hvb)
  clear hb5 hc5 hvb
  go_wp2_with fail
  refine (eqEqns_same HG5.out.row HW5.out (by omega) (by omega) (by omega)).mono ?_
  rintro e w6 ⟨rfl, hb6⟩
  have hc6 := hb6
  have s6 := hc6.size
  have BL6 := hidv (below_on BL5.out hc6)
  have HW6 := hidv (HW5.out.below (hc6.mono (by omega)))
  have HX6 := hidv (HX5.out.below hc6)
  have HG6 := hidv (HG5.out.below hc6)
  clear hb6 hc6
  go_wp2_with fail
  refine (toEqns_any _ es w.heap.size _ (HV.out.below BL6.out) BL6.out.size hxl).mono ?_
  rintro e w7 ⟨u7, rfl, hu7, hb7⟩
  have hc7 := hb7
  have s7 := hc7.size
  have BL7 := hidv (below_on BL6.out hc7)
  have HW7 := hidv (HW6.out.below (hc7.mono (by omega)))
  have HX7 := hidv (HX6.out.below hc7)
  have HG7 := hidv (HG6.out.below hc7)
  have HE7 := hidv (hu7)
  clear hb7 hc7 hu7
  go_wp2_with fail
  refine (eqEqns_same HX7.out.row HE7.out.row (by omega) (by omega) (by omega)).mono ?_
  rintro e w8 ⟨rfl, hb8⟩
  have hc8 := hb8
  have s8 := hc8.size
  have BL8 := hidv (below_on BL7.out hc8)
  have HW8 := hidv (HW7.out.below (hc8.mono (by omega)))
  have HX8 := hidv (HX7.out.below hc8)
  have HG8 := hidv (HG7.out.below hc8)
  clear hb8 hc8
  go_wp2_with fail
  refine (markEqns_own (HX8.out) (by omega) (by omega)).mono ?_
  rintro e w9 ⟨rfl, hgm, hb9⟩
  have hc9 := hb9
  have s9 := hc9.size
  have BL9 := hidv (BL8.out.trans (hc9.mono (by omega)))
  have HW9 := hidv (HW8.out.below (hc9.mono (by omega)))
  have HG9 := hidv (eqns_apart HG8.out hxlt hgm)
  clear hb9 hc9
  go_wp2_with fail
  refine (eqEqns_same HG9.out.row HW9.out (by omega) (by omega) (by omega)).mono ?_
  rintro e w10 ⟨rfl, hb10⟩
  have hc10 := hb10
  have s10 := hc10.size
  have BL10 := hidv (below_on BL9.out hc10)
  have HW10 := hidv (HW9.out.below (hc10.mono (by omega)))
  have HG10 := hidv (HG9.out.below hc10)
  clear hb10 hc10
  go_wp2_with fail
  refine (markEqns_own2 (HG10.out) (by omega) (by omega)).mono ?_
  rintro e w11 ⟨rfl, hvm, hb11⟩
  have hc11 := hb11
  have s11 := hc11.size
  have BL11 := hidv (BL10.out.trans (hc11.mono (by omega)))
  have HW11 := hidv (HW10.out.below (hc11.mono (by omega)))
  have HG11 := hidv (hvm)
  clear hb11 hc11 hvm
  go_wp2_with fail
  refine (heldEqns_own HG11.out.row (by omega) (by omega)).mono ?_
  rintro e w12 ⟨rfl, hb12⟩
  have hc12 := hb12
  have s12 := hc12.size
  have BL12 := hidv (below_on BL11.out hc12)
  have HW12 := hidv (HW11.out.below (hc12.mono (by omega)))
  have HG12 := hidv (HG11.out.below hc12)
  clear hb12 hc12
  go_wp2_with fail
  refine (toEqns_any _ es w.heap.size _ (HV.out.below BL12.out) BL12.out.size hxl).mono ?_
  rintro e w13 ⟨u13, rfl, hu13, hb13⟩
  have hc13 := hb13
  have s13 := hc13.size
  have BL13 := hidv (below_on BL12.out hc13)
  have HW13 := hidv (HW12.out.below (hc13.mono (by omega)))
  have HG13 := hidv (HG12.out.below hc13)
  have HZ13 := hidv (hu13)
  clear hb13 hc13 hu13
  go_wp2_with fail
  refine (H1.out _ _ _ (ml.below BL13.out) HZ13.out.row (Nat.le_refl _)).mono ?_
  rintro e w14 ⟨ve, rfl, hve, hb14⟩
  have hc14 := hb14
  have s14 := hc14.size
  have BL14 := hidv (below_on BL13.out hc14)
  have HW14 := hidv (HW13.out.below (hc14.mono (by omega)))
  have HG14 := hidv (HG13.out.below hc14)
  have HE14 := hidv (hve)
  clear hb14 hc14 hve
  go_wp2_with fail
  refine (eqEqns_same HE14.out.row HW14.out (by omega) (by omega) (by omega)).mono ?_
  rintro e w15 ⟨rfl, hb15⟩
  have hc15 := hb15
  have s15 := hc15.size
  have BL15 := hidv (below_on BL14.out hc15)
  have HG15 := hidv (HG14.out.below hc15)
  clear hb15 hc15
  go_wp2_with fail
  refine (heldEqns_own HG15.out.row (by omega) (by omega)).mono ?_
  rintro e w16 ⟨rfl, hb16⟩
  have hc16 := hb16
  have s16 := hc16.size
  have BL16 := hidv (below_on BL15.out hc16)
  have HG16 := hidv (HG15.out.below hc16)
  clear hb16 hc16
  go_wp2_with fail
  go_ret
  exact ⟨rfl, BL16.out⟩

end Go.Proofs.YtamhhgcghjhifaaDoor
