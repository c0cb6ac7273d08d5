/-
  TestNumber, of the program and of the model: contracts.
-/
import Derived.Test.YtdnkdmmockoehaaGreatTn
import Derived.Test.YtdnkdmmockoehaaGreatFo
namespace Go.Proofs.YtdnkdmmockoehaaGreat
open Go.RowKit Go
set_option linter.unusedVariables false

/-- The code of a system and a family. -/
def askC (es : List Eqn) (rs : List (List Pc)) (d : Bool) : Int := if sysB es && d then 0 else 1

set_option maxHeartbeats 800000 in
theorem trialOf_any (v p : Value) (es : List Eqn) (rs : List (List Pc)) (B C : Nat) (w : World) (hv : ERow w B v es) (hB : B ≤ w.heap.size) (hx : es.length ≤ 1048576) (hs : ∀ e ∈ es, e.1.size ≤ maxLen ∧ e.2.size ≤ maxLen) (hp : QRows w C p rs) (hC : C ≤ w.heap.size) (hz : FamSz rs) (hm : FamMax rs) (d : Bool) (hd : d = true ↔ FamOk rs) :
    Calls Tryz.prog 21 #[v, .agg #[p]] w fun e w' => e = .returned (.tuple #[if sysB es && d then .agg #[v, p] else .agg #[.slice none 0 0, .slice none 0 0], .int .i64 (askC es rs d)]) ∧ Below w.heap.size w w' := by
  obtain ⟨Ap, cp, rfl, _⟩ := hp.at
  have C1 := hidv (fun W (hW : Below w.heap.size w W) => implSys_any v es B W (hv.below (hW.mono hB)) (Nat.le_trans hB hW.size) hx hs)
  have C2 := hidv (fun W (hW : Below w.heap.size w W) => implVF_any (.agg #[.slice Ap rs.length cp]) rs C W ⟨_, rfl, hp.below (hW.mono hC)⟩ (Nat.le_trans hC hW.size) hz hm d hd)
  obtain ⟨A, c, rfl, _⟩ := id hv
  obtain ⟨n, hn⟩ : ∃ n, es.length = n := ⟨_, rfl⟩
  obtain ⟨m, hmm⟩ : ∃ n, rs.length = n := ⟨_, rfl⟩
  obtain ⟨a, ha⟩ : ∃ a, sysB es = a := ⟨_, rfl⟩
  have hb1 : Below w.heap.size w ((w.alloc (.cells #[.slice Ap rs.length cp] 34)).alloc (.cells #[.slice none 0 0, .slice none 0 0] 52)) := ((Below.refl _ _).alloc (Nat.le_refl _) _).alloc (by simp) _
  have hy1 := (Bx.new w 34 #[.slice Ap rs.length cp]).alloc (.cells #[.slice none 0 0, .slice none 0 0] 52)
  have hx1 := Bx.new (w.alloc (.cells #[.slice Ap rs.length cp] 34)) 52 #[.slice none 0 0, .slice none 0 0]
  rw [World.size_alloc] at hx1
  unfold askC
  rw [hmm] at hb1 hy1 hx1 C2 ⊢
  rw [hn] at C1 ⊢
  rw [ha] at C1 ⊢
  clear hv hs hp hz hm hd hn hmm ha hx
  go_enter Tryz.func21, Tryz.ntmps21
  go_wp2_with fail
  obtain ⟨W1, hW1⟩ : ∃ W, (w.alloc (.cells #[.slice Ap m cp] 34)).alloc (.cells #[.slice none 0 0, .slice none 0 0] 52) = W := ⟨_, rfl⟩
  rw [hW1] at hb1 hx1 hy1 ⊢
  clear hW1
  refine (C1.out _ hb1).mono ?_
  rintro e w1 ⟨rfl, hbw⟩
  have hx2 := hx1.below hbw
  have hy2 := hy1.below hbw
  have hb2 := below_on hb1 hbw
  clear hbw hx1 hy1 hb1
  cases a
  · have f0 := hx2.frozen 0
    have f1 := hx2.frozen 1
    obtain ⟨q0, q1⟩ := hx2.two
    have lq := hx2.lt
    have hxe := ((hx2.set 0 (.slice none 0 0)).set 1 (.slice none 0 0)).two
    obtain ⟨e0, e1⟩ := hxe
    have hbe := (hb2.setCell (p := ⟨w.heap.size + 1, 0, none⟩) (by show w.heap.size ≤ w.heap.size + 1; omega) (.slice none 0 0)).setCell (p := ⟨w.heap.size + 1, 1, none⟩) (by show w.heap.size ≤ w.heap.size + 1; omega) (.slice none 0 0)
    go_wp2_with fail
    refine bodyPost_ret (v := .tuple #[.agg #[.slice none 0 0, .slice none 0 0], .int .i64 1]) ?_ rfl ⟨rfl, hbe⟩
    simp [results, Tryz.results21, go_sem, e0, e1]
  · have y0 := hy2.one
    have hyl := hy2.lt
    go_wp2_with fail
    refine (C2.out _ hb2).mono ?_
    rintro e w2 ⟨rfl, hbw⟩
    have hx3 := hx2.below hbw
    have hy3 := hy2.below hbw
    have hb3 := below_on hb2 hbw
    clear hbw hx2 hy2 hb2 y0 hyl
    have f0 := hx3.frozen 0
    have f1 := hx3.frozen 1
    obtain ⟨q0, q1⟩ := hx3.two
    have lq := hx3.lt
    cases d
    · have hxe := ((hx3.set 0 (.slice none 0 0)).set 1 (.slice none 0 0)).two
      obtain ⟨e0, e1⟩ := hxe
      have hbe := (hb3.setCell (p := ⟨w.heap.size + 1, 0, none⟩) (by show w.heap.size ≤ w.heap.size + 1; omega) (.slice none 0 0)).setCell (p := ⟨w.heap.size + 1, 1, none⟩) (by show w.heap.size ≤ w.heap.size + 1; omega) (.slice none 0 0)
      go_wp2_with fail
      refine bodyPost_ret (v := .tuple #[.agg #[.slice none 0 0, .slice none 0 0], .int .i64 1]) ?_ rfl ⟨rfl, hbe⟩
      simp [results, Tryz.results21, go_sem, e0, e1]
    · have y0 := hy3.one
      have hxe := ((hx3.set 0 (.slice A n c)).set 1 (.slice Ap m cp)).two
      obtain ⟨e0, e1⟩ := hxe
      have hbe := (hb3.setCell (p := ⟨w.heap.size + 1, 0, none⟩) (by show w.heap.size ≤ w.heap.size + 1; omega) (.slice A n c)).setCell (p := ⟨w.heap.size + 1, 1, none⟩) (by show w.heap.size ≤ w.heap.size + 1; omega) (.slice Ap m cp)
      go_wp2_with fail
      refine bodyPost_ret (v := .tuple #[.agg #[.slice A n c, .slice Ap m cp], .int .i64 0]) ?_ rfl ⟨rfl, hbe⟩
      simp [results, Tryz.results21, go_sem, e0, e1]

/-- What TestNumber gives: a number and a code. -/
def TnR (es : List Eqn) (rs : List (List Pc)) (t c : Int) : Prop :=
  (¬ (sysB es = true ∧ FamOk rs) → t = 0 ∧ c = 1) ∧ (sysB es = true ∧ FamOk rs → t = tnum es rs ∧ c = 0)
theorem tnR_ex (es : List Eqn) (rs : List (List Pc)) : ∃ t c, TnR es rs t c := by
  by_cases h : sysB es = true ∧ FamOk rs
  · exact ⟨_, _, fun h2 => absurd h h2, fun _ => ⟨rfl, rfl⟩⟩
  · exact ⟨_, _, fun _ => ⟨rfl, rfl⟩, fun h2 => absurd h2 h⟩

set_option maxHeartbeats 800000 in
theorem implTn_any (v u : Value) (es : List Eqn) (rs : List (List Pc)) (B C : Nat) (w : World) (hv : ERow w B v es) (hB : B ≤ w.heap.size) (hx : es.length ≤ 1048576) (hs : ∀ e ∈ es, e.1.size ≤ maxLen ∧ e.2.size ≤ maxLen) (hu : Fam w C u rs) (hC : C ≤ w.heap.size) (hz : FamSz rs) (hm : FamMax rs) (t c : Int) (hR : TnR es rs t c) :
    Calls Tryz.prog 27 #[v, u] w fun e w' => e = .returned (.tuple #[.int .i64 t, .int .i64 c]) ∧ Below w.heap.size w w' := by
  obtain ⟨d, hd⟩ := iffB (FamOk rs)
  obtain ⟨p, rfl, hp⟩ := hu
  have C1 := hidv (fun W (hW : Below w.heap.size w W) => trialOf_any v p es rs B C W (hv.below (hW.mono hB)) (Nat.le_trans hB hW.size) hx hs (hp.below (hW.mono hC)) (Nat.le_trans hC hW.size) hz hm d hd)
  have C2 := hidv (fun W (hW : Below w.heap.size w W) (h1 : sysB es = true) (h2 : FamOk rs) => testNumber_any v p es rs B C W (hv.below (hW.mono hB)) (Nat.le_trans hB hW.size) h1 (hp.below (hW.mono hC)) (Nat.le_trans hC hW.size) h2)
  obtain ⟨Ap, cp, rfl, _⟩ := hp.at
  obtain ⟨A, cA, rfl, _⟩ := id hv
  obtain ⟨n, hn⟩ : ∃ n, es.length = n := ⟨_, rfl⟩
  obtain ⟨m, hmm⟩ : ∃ n, rs.length = n := ⟨_, rfl⟩
  have HD := hidv hd
  have HR := hidv hR
  have hb1 : Below w.heap.size w (w.alloc (.cells #[.slice Ap rs.length cp] 34)) := (Below.refl _ _).alloc (Nat.le_refl _) _
  rw [hmm] at hb1 C1 C2 ⊢
  rw [hn] at C1 C2 ⊢
  clear hv hs hp hz hm hd hn hmm hx hR
  unfold askC at C1
  cases h : (sysB es && d)
  · rw [h] at C1
    obtain ⟨rfl, rfl⟩ := HR.out.1 (fun ⟨h1, h2⟩ => by rw [h1, HD.out.mpr h2] at h; cases h)
    clear h C2
    go_enter Tryz.func27, Tryz.ntmps27
    go_wp2_with fail
    refine (C1.out _ hb1).mono ?_
    rintro e w1 ⟨rfl, hbw⟩
    have hb2 := below_on hb1 hbw
    clear hbw
    go_wp2_with fail
    go_ret2
    exact ⟨rfl, below_al hb2 _⟩
  · rw [h] at C1
    rw [Bool.and_eq_true] at h
    have h2 : FamOk rs := HD.out.mp h.2
    obtain ⟨rfl, rfl⟩ := HR.out.2 ⟨h.1, h2⟩
    have C3 := hidv (fun W hW => C2.out W hW h.1 h2)
    clear h C2 h2
    go_enter Tryz.func27, Tryz.ntmps27
    go_wp2_with fail
    refine (C1.out _ hb1).mono ?_
    rintro e w1 ⟨rfl, hbw⟩
    have hb2 := below_on hb1 hbw
    clear hbw
    go_wp2_with fail
    have hb3 := below_al hb2 (.cells #[.slice A n cA, .slice Ap m cp] 52)
    refine (C3.out _ hb3).mono ?_
    rintro e w2 ⟨rfl, hbw⟩
    have HB := hidv (below_on hb3 hbw)
    clear hbw
    go_wp2_with fail
    go_ret2
    exact ⟨rfl, HB.out⟩

end Go.Proofs.YtdnkdmmockoehaaGreat
