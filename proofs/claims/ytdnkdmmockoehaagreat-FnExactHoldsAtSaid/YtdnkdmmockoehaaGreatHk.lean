/-
  HoldsAt and HoldsAlways, of the program and of the model: contracts.
-/
import Derived.Test.YtdnkdmmockoehaaGreatHj
namespace Go.Proofs.YtdnkdmmockoehaaGreat
open Go.RowKit Go
set_option linter.unusedVariables false

theorem tnum_pos {es : List Eqn} {rs : List (List Pc)} (hs : sysB es = true) (hok : FamOk rs) : 0 ≤ tnum es rs := by
  have h := isum_bound 10000000000000 _ (tLens_bound hs (lensW hok))
  unfold tnum
  have := h.1
  omega

set_option maxRecDepth 100000 in
set_option maxHeartbeats 1600000 in
theorem implHt_any (v u : Value) (es : List Eqn) (rs : List (List Pc)) (B C : Nat) (k : Int) (w : World) (hv : ERow w B v es) (hB : B ≤ w.heap.size) (hx : es.length ≤ 1048576) (hs : ∀ e ∈ es, e.1.size ≤ maxLen ∧ e.2.size ≤ maxLen) (hu : Fam w C u rs) (hC : C ≤ w.heap.size) (hz : FamSz rs) (hm : FamMax rs) (d : Bool) (c : Int) (hR : HtR es rs k d c) :
    Calls Tryz.prog 10 #[v, u, .int .i64 k] w fun e w' => e = .returned (.tuple #[.bool d, .int .i64 c]) ∧ Below w.heap.size w w' := by
  obtain ⟨dd, hd⟩ := iffB (FamOk rs)
  obtain ⟨p, rfl, hp⟩ := hu
  have C1 := hidv (fun W (hW : Below w.heap.size w W) => trialOf_any v p es rs B C W (hv.below (hW.mono hB)) (Nat.le_trans hB hW.size) hx hs (hp.below (hW.mono hC)) (Nat.le_trans hC hW.size) hz hm dd hd)
  have C2 := hidv (fun q W (hW : Below w.heap.size w W) (h1 : sysB es = true) (h2 : FamOk rs) (hk : 0 ≤ q ∧ q ≤ 1000000) b hb => canBe_any v p es rs B C q W (hv.below (hW.mono hB)) (Nat.le_trans hB hW.size) h1 (hp.below (hW.mono hC)) (Nat.le_trans hC hW.size) h2 hk b hb)
  have C3 := hidv (fun q W (hW : Below w.heap.size w W) (h1 : sysB es = true) (h2 : FamOk rs) (hk : 0 ≤ q ∧ q ≤ 1000000) hz => holdsAt_any v p es rs B C q W (hv.below (hW.mono hB)) (Nat.le_trans hB hW.size) h1 (hp.below (hW.mono hC)) (Nat.le_trans hC hW.size) h2 hk hz)
  obtain ⟨Ap, cp, rfl, _⟩ := hp.at
  obtain ⟨A, cA, rfl, _⟩ := id hv
  obtain ⟨n, hn⟩ : ∃ n, es.length = n := ⟨_, rfl⟩
  obtain ⟨m, hmm⟩ : ∃ n, rs.length = n := ⟨_, rfl⟩
  have HD := hidv hd
  have HR := hidv hR
  have hb1 : Below w.heap.size w (w.alloc (.cells #[.slice Ap rs.length cp] 34)) := (Below.refl _ _).alloc (Nat.le_refl _) _
  rw [hmm] at hb1 C1 C2 C3 ⊢
  rw [hn] at C1 C2 C3 ⊢
  clear hv hs hp hz hm hd hn hmm hx hR
  unfold askC at C1
  cases h : (sysB es && dd)
  · rw [h] at C1
    obtain ⟨rfl, rfl⟩ := HR.out.1 (fun ⟨h1, h2⟩ => by rw [h1, HD.out.mpr h2] at h; cases h)
    clear h C2 C3
    go_enter Tryz.func10, Tryz.ntmps10
    go_wp2_with fail
    refine (C1.out _ hb1).mono ?_
    rintro e w1 ⟨rfl, hbw⟩
    have hb2 := below_on hb1 hbw
    clear hbw
    go_wp2_with fail
    go_ret2
    exact ⟨rfl, below_al hb2 _⟩
  · rw [h] at C1
    rw [Bool.and_eq_true] at h
    have h2 : FamOk rs := HD.out.mp h.2
    have hg : sysB es = true ∧ FamOk rs := ⟨h.1, h2⟩
    by_cases hk0 : k < 0
    · obtain ⟨rfl, rfl⟩ := HR.out.2.1 hg hk0
      clear h C2 C3 h2 hg
      go_enter Tryz.func10, Tryz.ntmps10
      go_wp2_with fail
      refine (C1.out _ hb1).mono ?_
      rintro e w1 ⟨rfl, hbw⟩
      have hb2 := below_on hb1 hbw
      clear hbw
      go_wp2_with fail
      go_ret2
      exact ⟨rfl, below_al hb2 _⟩
    · have hkk : 0 ≤ k := by omega
      have hmn : 0 ≤ min k 200001 ∧ min k 200001 ≤ 1000000 := by omega
      obtain ⟨b, hb⟩ := iffB (∃ z ∈ tLens es (rs.map (gsum (pcLen (min k 200001)))), 200000 < z)
      have C4 := hidv (fun W hW => C2.out (min k 200001) W hW h.1 h2 hmn b hb)
      have C5 := hidv (fun W hW hz => C3.out (min k 200001) W hW h.1 h2 hmn hz)
      have HR3 := hidv (HR.out.2.2.1 hg hkk)
      have HR4 := hidv (HR.out.2.2.2 hg hkk)
      have HBB := hidv hb
      clear h C2 C3 h2 hg hb hmn
      go_enter Tryz.func10, Tryz.ntmps10
      go_wp2_with fail
      refine (C1.out _ hb1).mono ?_
      rintro e w1 ⟨rfl, hbw⟩
      have hb2 := below_on hb1 hbw
      have hb3 := below_al hb2 (.cells #[.slice A n cA, .slice Ap m cp] 52)
      have hbx := Bx.new w1 52 #[.slice A n cA, .slice Ap m cp]
      clear hbw
      go_wp2_with fail
      refine (C4.out _ hb3).mono ?_
      rintro e w2 ⟨rfl, hbw⟩
      have HB4 := hidv (below_on hb3 hbw)
      have hbx2 := hbx.below hbw
      clear hbw hb2 hb1 hb3 hbx
      cases b
      · have hno : ¬ ∃ z ∈ tLens es (rs.map (gsum (pcLen (min k 200001)))), 200000 < z := fun h => by have := HBB.out.mpr h; cases this
        obtain ⟨hd, rfl⟩ := HR4.out hno
        rw [← hd] at C5
        have HC5 := hidv (C5.out _ HB4.out (fun z hz => by
          rcases Int.lt_or_le 200000 z with h | h
          · exact absurd ⟨z, hz, h⟩ hno
          · exact h))
        obtain ⟨q0, q1⟩ := hbx2.two
        clear hno hd C5 C4
        go_wp2_with fail
        refine HC5.out.mono ?_
        rintro e w3 ⟨rfl, hbw⟩
        have HB5 := hidv (below_on HB4.out hbw)
        clear hbw q0 q1 hbx2
        go_wp2_with fail
        go_ret2
        exact ⟨rfl, HB5.out⟩
      · obtain ⟨rfl, rfl⟩ := HR3.out (HBB.out.mp rfl)
        clear hbx2
        go_wp2_with fail
        go_ret2
        exact ⟨rfl, HB4.out⟩

set_option maxRecDepth 100000 in
set_option maxHeartbeats 1600000 in
theorem specHt_any (v u : Value) (es : List Eqn) (rs : List (List Pc)) (B C : Nat) (k : Int) (w : World) (hv : ERow w B v es) (hB : B ≤ w.heap.size) (hx : es.length ≤ 1048576) (hs : ∀ e ∈ es, e.1.size ≤ maxLen ∧ e.2.size ≤ maxLen) (hu : Fam w C u rs) (hC : C ≤ w.heap.size) (hz : FamSz rs) (d : Bool) (c : Int) (hR : HtR es rs k d c) :
    Calls Tryz.prog 7 #[v, u, .int .i64 k] w fun e w' => e = .returned (.tuple #[.bool d, .int .i64 c]) ∧ Below w.heap.size w w' := by
  obtain ⟨dd, hd⟩ := iffB (FamOk rs)
  obtain ⟨p, rfl, hp⟩ := hu
  obtain ⟨Ap, cp, rfl, _⟩ := hp.at
  have hbl : Below w.heap.size w (w.alloc (.cells #[.slice Ap rs.length cp] 34)) := (Below.refl _ _).alloc (Nat.le_refl _) _
  have hbx := Bx.new w 34 #[.slice Ap rs.length cp]
  have C1 := hidv (asked_any v es w.heap.size rs Ap cp C B _ (hv.below (hbl.mono hB)) (Nat.le_trans hB hbl.size) hx hs hbx.one (hp.below (hbl.mono hC)) (Nat.le_trans hC hbl.size) hz dd hd)
  have C2 := hidv (fun W (hW : Below w.heap.size w W) (hx2 : Bx W w.heap.size 34 #[.slice Ap rs.length cp]) (h1 : sysB es = true) (h2 : FamOk rs) (hk : 0 ≤ k) r1 r2 => l06Holds_any v es w.heap.size rs Ap cp C B k (min k 200001) W (hv.below (hW.mono hB)) (Nat.le_trans hB hW.size) h1 hx2.one (hp.below (hW.mono hC)) (Nat.le_trans hC hW.size) h2 hk rfl d c r1 r2)
  obtain ⟨Av, cv, rfl, _⟩ := id hv
  have HD := hidv hd
  have HR := hidv hR
  have HBL := hidv hbl
  have HBX := hidv hbx
  clear hv hs hp hz hd hR hx hbl hbx
  unfold askC at C1
  cases h : (sysB es && dd)
  · rw [h] at C1
    obtain ⟨rfl, rfl⟩ := HR.out.1 (fun ⟨h1, h2⟩ => by rw [h1, HD.out.mpr h2] at h; cases h)
    clear h C2
    go_enter Tryz.func7, Tryz.ntmps7
    go_wp2_with fail
    refine C1.out.mono ?_
    rintro e w1 ⟨rfl, hb1⟩
    have HB := hidv (below_on HBL.out hb1)
    clear hb1
    go_wp2_with fail
    go_ret2
    exact ⟨rfl, HB.out⟩
  · rw [h] at C1
    rw [Bool.and_eq_true] at h
    have h2 : FamOk rs := HD.out.mp h.2
    have hg : sysB es = true ∧ FamOk rs := ⟨h.1, h2⟩
    by_cases hk0 : k < 0
    · obtain ⟨rfl, rfl⟩ := HR.out.2.1 hg hk0
      clear h C2 h2 hg
      go_enter Tryz.func7, Tryz.ntmps7
      go_wp2_with fail
      refine C1.out.mono ?_
      rintro e w1 ⟨rfl, hb1⟩
      have HB := hidv (below_on HBL.out hb1)
      clear hb1
      go_wp2_with fail
      go_ret2
      exact ⟨rfl, HB.out⟩
    · have hkk : 0 ≤ k := by omega
      have C3 := hidv (fun W hW hX => C2.out W hW hX h.1 h2 hkk (HR.out.2.2.1 hg hkk) (HR.out.2.2.2 hg hkk))
      clear h C2 h2 hg
      go_enter Tryz.func7, Tryz.ntmps7
      go_wp2_with fail
      refine C1.out.mono ?_
      rintro e w1 ⟨rfl, hb1⟩
      have HB := hidv (below_on HBL.out hb1)
      have HX := hidv (HBX.out.below hb1)
      clear hb1
      go_wp2_with fail
      refine (C3.out _ HB.out HX.out).mono ?_
      rintro e w2 ⟨rfl, hb2⟩
      have HB2 := hidv (below_on HB.out hb2)
      clear hb2
      go_wp2_with fail
      go_ret2
      exact ⟨rfl, HB2.out⟩

set_option maxRecDepth 100000 in
set_option maxHeartbeats 1600000 in
theorem specHw_any (v u : Value) (es : List Eqn) (rs : List (List Pc)) (B C : Nat) (w : World) (hv : ERow w B v es) (hB : B ≤ w.heap.size) (hx : es.length ≤ 1048576) (hs : ∀ e ∈ es, e.1.size ≤ maxLen ∧ e.2.size ≤ maxLen) (hu : Fam w C u rs) (hC : C ≤ w.heap.size) (hz : FamSz rs) (d : Bool) (c : Int) (hR : HtR es rs (tnum es rs) d c) :
    Calls Tryz.prog 13 #[v, u] w fun e w' => e = .returned (.tuple #[.bool d, .int .i64 c]) ∧ Below w.heap.size w w' := by
  obtain ⟨dd, hd⟩ := iffB (FamOk rs)
  obtain ⟨p, rfl, hp⟩ := hu
  obtain ⟨Ap, cp, rfl, _⟩ := hp.at
  have hbl : Below w.heap.size w (w.alloc (.cells #[.slice Ap rs.length cp] 34)) := (Below.refl _ _).alloc (Nat.le_refl _) _
  have hbx := Bx.new w 34 #[.slice Ap rs.length cp]
  have C1 := hidv (asked_any v es w.heap.size rs Ap cp C B _ (hv.below (hbl.mono hB)) (Nat.le_trans hB hbl.size) hx hs hbx.one (hp.below (hbl.mono hC)) (Nat.le_trans hC hbl.size) hz dd hd)
  have C4 := hidv (fun W (hW : Below w.heap.size w W) (hx2 : Bx W w.heap.size 34 #[.slice Ap rs.length cp]) (h1 : sysB es = true) (h2 : FamOk rs) => l06Test_any v es w.heap.size rs Ap cp C B W (hv.below (hW.mono hB)) h1 hx2.one (hp.below (hW.mono hC)) (Nat.le_trans hC hW.size) h2)
  have HTP := hidv (fun (h1 : sysB es = true) (h2 : FamOk rs) => tnum_pos h1 h2)
  obtain ⟨k, hk⟩ : ∃ k, tnum es rs = k := ⟨_, rfl⟩
  rw [hk] at C4 HTP hR
  have C2 := hidv (fun W (hW : Below w.heap.size w W) (hx2 : Bx W w.heap.size 34 #[.slice Ap rs.length cp]) (h1 : sysB es = true) (h2 : FamOk rs) (hk : 0 ≤ k) r1 r2 => l06Holds_any v es w.heap.size rs Ap cp C B k (min k 200001) W (hv.below (hW.mono hB)) (Nat.le_trans hB hW.size) h1 hx2.one (hp.below (hW.mono hC)) (Nat.le_trans hC hW.size) h2 hk rfl d c r1 r2)
  obtain ⟨Av, cv, rfl, _⟩ := id hv
  have HD := hidv hd
  have HR := hidv hR
  have HBL := hidv hbl
  have HBX := hidv hbx
  clear hv hs hp hz hd hR hx hbl hbx hk
  unfold askC at C1
  cases h : (sysB es && dd)
  · rw [h] at C1
    obtain ⟨rfl, rfl⟩ := HR.out.1 (fun ⟨h1, h2⟩ => by rw [h1, HD.out.mpr h2] at h; cases h)
    clear h C2 C4
    go_enter Tryz.func13, Tryz.ntmps13
    go_wp2_with fail
    refine C1.out.mono ?_
    rintro e w1 ⟨rfl, hb1⟩
    have HB := hidv (below_on HBL.out hb1)
    clear hb1
    go_wp2_with fail
    go_ret2
    exact ⟨rfl, HB.out⟩
  · rw [h] at C1
    rw [Bool.and_eq_true] at h
    have h2 : FamOk rs := HD.out.mp h.2
    have hg : sysB es = true ∧ FamOk rs := ⟨h.1, h2⟩
    have hkk : 0 ≤ k := HTP.out h.1 h2
    have C3 := hidv (fun W hW hX => C2.out W hW hX h.1 h2 hkk (HR.out.2.2.1 hg hkk) (HR.out.2.2.2 hg hkk))
    have C5 := hidv (fun W hW hX => C4.out W hW hX h.1 h2)
    clear h C2 h2 hg C4 hkk
    go_enter Tryz.func13, Tryz.ntmps13
    go_wp2_with fail
    refine C1.out.mono ?_
    rintro e w1 ⟨rfl, hb1⟩
    have HB := hidv (below_on HBL.out hb1)
    have HX := hidv (HBX.out.below hb1)
    clear hb1
    go_wp2_with fail
    refine (C5.out _ HB.out HX.out).mono ?_
    rintro e w2 ⟨rfl, m, rfl⟩
    have HB2 := hidv (below_drewN HB.out m)
    have HX2 := hidv (show Bx (w1.drewN m) _ _ _ from HX.out)
    go_wp2_with fail
    refine (C3.out _ HB2.out HX2.out).mono ?_
    rintro e w3 ⟨rfl, hb3⟩
    have HB3 := hidv (below_on HB2.out hb3)
    clear hb3
    go_wp2_with fail
    go_ret2
    exact ⟨rfl, HB3.out⟩

set_option maxRecDepth 100000 in
set_option maxHeartbeats 1600000 in
theorem implHw_any (v u : Value) (es : List Eqn) (rs : List (List Pc)) (B C : Nat) (w : World) (hv : ERow w B v es) (hB : B ≤ w.heap.size) (hx : es.length ≤ 1048576) (hs : ∀ e ∈ es, e.1.size ≤ maxLen ∧ e.2.size ≤ maxLen) (hu : Fam w C u rs) (hC : C ≤ w.heap.size) (hz : FamSz rs) (hm : FamMax rs) (d : Bool) (c : Int) (hR : HtR es rs (tnum es rs) d c) :
    Calls Tryz.prog 14 #[v, u] w fun e w' => e = .returned (.tuple #[.bool d, .int .i64 c]) ∧ Below w.heap.size w w' := by
  obtain ⟨t, c1, hT⟩ := tnR_ex es rs
  have C1 := hidv (fun W (hW : Below w.heap.size w W) => implTn_any v u es rs B C W (hv.below (hW.mono hB)) (Nat.le_trans hB hW.size) hx hs (hu.below (hW.mono hC)) (Nat.le_trans hC hW.size) hz hm t c1 hT)
  have C2 := hidv (fun W (hW : Below w.heap.size w W) (hR : HtR es rs t d c) => implHt_any v u es rs B C t W (hv.below (hW.mono hB)) (Nat.le_trans hB hW.size) hx hs (hu.below (hW.mono hC)) (Nat.le_trans hC hW.size) hz hm d c hR)
  obtain ⟨Ap, cp, rfl⟩ := hu.form
  obtain ⟨A, cA, rfl, _⟩ := id hv
  obtain ⟨n, hn⟩ : ∃ n, es.length = n := ⟨_, rfl⟩
  obtain ⟨m, hmm⟩ : ∃ n, rs.length = n := ⟨_, rfl⟩
  have hbl : Below w.heap.size w (w.alloc (.cells #[.slice Ap rs.length cp] 34)) := (Below.refl _ _).alloc (Nat.le_refl _) _
  have hbx := Bx.new w 34 #[.slice Ap rs.length cp]
  rw [hmm] at hbl hbx C1 C2 ⊢
  rw [hn] at C1 C2 ⊢
  have HR := hidv hR
  have HT := hidv hT
  clear hv hs hu hz hm hx hR hT hn hmm
  by_cases hg : sysB es = true ∧ FamOk rs
  · obtain ⟨rfl, rfl⟩ := HT.out.2 hg
    have C3 := hidv (fun W hW => C2.out W hW HR.out)
    obtain ⟨t, ht⟩ : ∃ t, tnum es rs = t := ⟨_, rfl⟩
    rw [ht] at C1 C3
    clear hg C2 ht HR HT
    go_enter Tryz.func14, Tryz.ntmps14
    have x0 := hbx.one
    go_wp2_with fail
    refine (C1.out _ hbl).mono ?_
    rintro e w1 ⟨rfl, hb1⟩
    have HB1 := hidv (below_on hbl hb1)
    have y0 := (hbx.below hb1).one
    clear hb1 hbl hbx x0
    go_wp2_with fail
    refine (C3.out _ HB1.out).mono ?_
    rintro e w2 ⟨rfl, hb2⟩
    have HB2 := hidv (below_on HB1.out hb2)
    clear hb2 y0
    go_wp2_with fail
    go_ret2
    exact ⟨rfl, HB2.out⟩
  · obtain ⟨rfl, rfl⟩ := HT.out.1 hg
    obtain ⟨rfl, rfl⟩ := HR.out.1 hg
    clear hg C2 HR HT
    go_enter Tryz.func14, Tryz.ntmps14
    have x0 := hbx.one
    go_wp2_with fail
    refine (C1.out _ hbl).mono ?_
    rintro e w1 ⟨rfl, hb1⟩
    have HB1 := hidv (below_on hbl hb1)
    clear hb1 hbl hbx x0
    go_wp2_with fail
    go_ret2
    exact ⟨rfl, HB1.out⟩

end Go.Proofs.YtdnkdmmockoehaaGreat
