/-
  The law on ApplyStep, walked.
-/
import Derived.Test.YtfnlikjdfihggaaDoorAppS
import Derived.Test.YtfnlikjdfihggaaDoorStp
import Derived.Deep.DeepCutAuto
namespace Go.Proofs.YtfnlikjdfihggaaDoor
open Go.RowKit Go
set_option linter.unusedVariables false

set_option maxHeartbeats 800000 in
theorem law_FnExactApplyStep (l r : ByteArray) (m : Int) (s : ByteArray) (w : World) (hl : l.size ≤ maxLen) (hr : r.size ≤ maxLen) (hs : s.size ≤ maxLen) (ml : ML w) :
    Calls Tryd.prog 5 #[.agg #[.string l, .string r], .agg #[.int .i64 m, .string s]] w fun e w' => e = .returned (.bool true) ∧ Below w.heap.size w w' := by
  have C0 := hidv (fun W => szEqn_any l r 1048576 W hl hr (by omega) (by omega))
  have C3 := hidv (fun W q (h0 : 0 ≤ q) (h1 : q ≤ 1048576) => szStp_any m s q W hs h0 h1)
  have c1 := fun W hW => implApply_any l r m s W hW hl hr hs
  have c2 := fun W => specApply_any l r m s W hl hr hs
  obtain ⟨x, y, c, hv⟩ := asV_form l r m s
  rw [hv] at c1 c2
  have C1 := hidv c1
  have C2 := hidv c2
  clear c1 c2 hv
  go_enter Tryd.func5, Tryd.ntmps5
  go_wp2_with fail
  refine (C0.out _).mono ?_
  rintro e w1 ⟨q, rfl, _, hqm, hb1⟩
  have HX1 := hidv (((Bx.new w 48 #[.string l, .string r]).alloc (.cells #[.int .i64 m, .string s] 49)).below hb1)
  have hy1 := (Bx.new (w.alloc (.cells #[.string l, .string r] 48)) 49 #[.int .i64 m, .string s]).below hb1
  rw [World.size_alloc] at hy1
  have HY1 := hidv hy1
  have HB1 := hidv ((((Below.refl w.heap.size w).alloc (Nat.le_refl _) _).alloc (by simp) _).trans (hb1.mono (by simp; omega)))
  clear hb1 hy1
  by_cases hq : q < 0
  · go_wp2_with fail
    go_ret
    exact ⟨rfl, HB1.out⟩
  obtain ⟨x0, x1⟩ := HX1.out.two
  obtain ⟨y0, y1⟩ := HY1.out.two
  go_wp2_with fail
  refine (C3.out _ q (by omega) hqm).mono ?_
  rintro e w2 ⟨q2, rfl, _, hqm2, hb2⟩
  have HX2 := hidv (HX1.out.below hb2)
  have HY2 := hidv (HY1.out.below hb2)
  have HB2 := hidv (HB1.out.trans (hb2.mono HB1.out.size))
  clear hb2 x0 x1 y0 y1
  by_cases hq2 : q2 < 0
  · go_wp2_with fail
    go_ret
    exact ⟨rfl, HB2.out⟩
  go_upto_region 8 with fail
  have HS := hidv (fun w' (hw : Below w2.heap.size w2 w') => (show w'.cell? ⟨w.heap.size, 0, none⟩ = some (.string l) ∧ w'.cell? ⟨w.heap.size, 1, none⟩ = some (.string r) ∧ w'.cell? ⟨w.heap.size + 1, 0, none⟩ = some (.int .i64 m) ∧ w'.cell? ⟨w.heap.size + 1, 1, none⟩ = some (.string s) ∧ Below w2.heap.size w2 w' from
    ⟨(HX2.out.below hw).two.1, (HX2.out.below hw).two.2, (HY2.out.below hw).two.1, (HY2.out.below hw).two.2, hw⟩))
  go_cut [6, 7] (fun s6 s7 wx => ∃ g : Nat, s6 = .pointer (some ⟨g, 0, none⟩) ∧ s7 = .int .i64 c ∧ Hid (Bx wx g 25 #[.string x, .string y]) ∧ Hid (w2.heap.size ≤ g) ∧ Hid (Below w2.heap.size w2 wx))
  case first =>
    go_wp2_with fail
    go_region_held3 (fun w' => w'.cell? ⟨w.heap.size, 0, none⟩ = some (.string l) ∧ w'.cell? ⟨w.heap.size, 1, none⟩ = some (.string r) ∧ w'.cell? ⟨w.heap.size + 1, 0, none⟩ = some (.int .i64 m) ∧ w'.cell? ⟨w.heap.size + 1, 1, none⟩ = some (.string s) ∧ Below w2.heap.size w2 w') (first | exact HS.out _ (below_dr _) | exact HS.out _ (by assumption) | exact HS.out _ (below_al (by assumption) _) | exact HS.out _ (below_al (below_dr _) _) | exact HS.out _ (below_st0 (below_st0 (by assumption) (by assumption) _ _) (by assumption) _ _) | exact HS.out _ (below_st0 (below_st0 (by assumption) (Below.refl _ _) _ _) (Below.refl _ _) _ _) | exact HS.out _ (below_st0 (below_st0 (below_al (by assumption) _) (by assumption) _ _) (by assumption) _ _)) (first | (go_at_call 23; refine (toEqn_any _ _ _).mono ?_; rintro e w3 ⟨rfl, hbw⟩; (first | have hnw : Bx _ w2.heap.size _ _ := (Bx.new w2.drew _ _).below hbw | have hnw := (Bx.new _ _ _).below hbw | have hnw := Bx.below (by assumption) hbw | skip); (try obtain ⟨n0, n1⟩ := hnw.two); (try have n2 := hnw.frozen 0); (try have n3 := hnw.frozen 1); replace hbw := below_on (show Below w2.heap.size w2 _ from by first | assumption | exact below_dr _ | exact below_al (by assumption) _ | exact below_al (below_dr _) _) hbw) | (go_at_call 24; refine (toStp_any _ _ _).mono ?_; rintro e w3 ⟨rfl, hbw⟩; (first | have hnw : Bx _ w2.heap.size _ _ := (Bx.new w2.drew _ _).below hbw | have hnw := (Bx.new _ _ _).below hbw | have hnw := Bx.below (by assumption) hbw | skip); (try obtain ⟨n0, n1⟩ := hnw.two); (try have n2 := hnw.frozen 0); (try have n3 := hnw.frozen 1); replace hbw := below_on (show Below w2.heap.size w2 _ from by first | assumption | exact below_dr _ | exact below_al (by assumption) _ | exact below_al (below_dr _) _) hbw) | (go_at_call 15; refine (C2.out _).mono ?_; rintro e w3 ⟨rfl, hbw⟩; (first | have hnw : Bx _ w2.heap.size _ _ := (Bx.new w2.drew _ _).below hbw | have hnw := (Bx.new _ _ _).below hbw | have hnw := Bx.below (by assumption) hbw | skip); (try obtain ⟨n0, n1⟩ := hnw.two); (try have n2 := hnw.frozen 0); (try have n3 := hnw.frozen 1); replace hbw := below_on (show Below w2.heap.size w2 _ from by first | assumption | exact below_dr _ | exact below_al (by assumption) _ | exact below_al (below_dr _) _) hbw))
    all_goals
      go_wp2_with fail
      go_meet
      first
        | exact ⟨_, rfl, rfl, hidv (Bx.new _ _ _), hidv (Below.size (by assumption)), hidv (below_al (by assumption) _)⟩
        | exact ⟨_, rfl, rfl, hidv ((hnw.set 0 _).set 1 _), hidv (Below.size (by assumption)), hidv (below_st0 (below_st0 (by assumption) (by assumption) _ _) (by assumption) _ _)⟩
        | exact ⟨_, rfl, rfl, hidv ((hnw.set 0 _).set 1 _), hidv (Nat.le_refl _), hidv (below_st0 (below_st0 (by assumption) (Below.refl _ _) _ _) (Below.refl _ _) _ _)⟩
  case rest =>
    obtain ⟨g, rfl, rfl, hg, hgl, hbe⟩ := hcut
    have HX3 := hidv (HX2.out.below hbe.out)
    have HY3 := hidv (HY2.out.below hbe.out)
    have HB3 := hidv (below_on HB2.out hbe.out)
    have mlc := ml.below HB3.out
    have HS2 := hidv (fun w' (hw : Below wc.heap.size wc w') => (show w'.cell? ⟨w.heap.size, 0, none⟩ = some (.string l) ∧ w'.cell? ⟨w.heap.size, 1, none⟩ = some (.string r) ∧ w'.cell? ⟨w.heap.size + 1, 0, none⟩ = some (.int .i64 m) ∧ w'.cell? ⟨w.heap.size + 1, 1, none⟩ = some (.string s) ∧ Below wc.heap.size wc w' from
      ⟨(HX3.out.below hw).two.1, (HX3.out.below hw).two.2, (HY3.out.below hw).two.1, (HY3.out.below hw).two.2, hw⟩))
    go_upto_region 9 with fail
    go_cut [8, 9] (fun s8 s9 wx => ∃ g : Nat, s8 = .pointer (some ⟨g, 0, none⟩) ∧ s9 = .int .i64 c ∧ Hid (Bx wx g 25 #[.string x, .string y]) ∧ Hid (wc.heap.size ≤ g) ∧ Hid (Below wc.heap.size wc wx))
    case first =>
      go_wp2_with fail
      go_region_held3 (fun w' => w'.cell? ⟨w.heap.size, 0, none⟩ = some (.string l) ∧ w'.cell? ⟨w.heap.size, 1, none⟩ = some (.string r) ∧ w'.cell? ⟨w.heap.size + 1, 0, none⟩ = some (.int .i64 m) ∧ w'.cell? ⟨w.heap.size + 1, 1, none⟩ = some (.string s) ∧ Below wc.heap.size wc w') (first | exact HS2.out _ (below_dr _) | exact HS2.out _ (by assumption) | exact HS2.out _ (below_al (by assumption) _) | exact HS2.out _ (below_al (below_dr _) _) | exact HS2.out _ (below_st0 (below_st0 (by assumption) (by assumption) _ _) (by assumption) _ _) | exact HS2.out _ (below_st0 (below_st0 (by assumption) (Below.refl _ _) _ _) (Below.refl _ _) _ _) | exact HS2.out _ (below_st0 (below_st0 (below_al (by assumption) _) (by assumption) _ _) (by assumption) _ _)) (first | (go_at_call 23; refine (toEqn_any _ _ _).mono ?_; rintro e w3 ⟨rfl, hbw⟩; (first | have hnw : Bx _ wc.heap.size _ _ := (Bx.new wc.drew _ _).below hbw | have hnw := (Bx.new _ _ _).below hbw | have hnw := Bx.below (by assumption) hbw | skip); (try obtain ⟨n0, n1⟩ := hnw.two); (try have n2 := hnw.frozen 0); (try have n3 := hnw.frozen 1); replace hbw := below_on (show Below wc.heap.size wc _ from by first | assumption | exact below_dr _ | exact below_al (by assumption) _ | exact below_al (below_dr _) _) hbw) | (go_at_call 24; refine (toStp_any _ _ _).mono ?_; rintro e w3 ⟨rfl, hbw⟩; (first | have hnw : Bx _ wc.heap.size _ _ := (Bx.new wc.drew _ _).below hbw | have hnw := (Bx.new _ _ _).below hbw | have hnw := Bx.below (by assumption) hbw | skip); (try obtain ⟨n0, n1⟩ := hnw.two); (try have n2 := hnw.frozen 0); (try have n3 := hnw.frozen 1); replace hbw := below_on (show Below wc.heap.size wc _ from by first | assumption | exact below_dr _ | exact below_al (by assumption) _ | exact below_al (below_dr _) _) hbw) | (go_at_call 14; refine (C1.out _ (mlc.below (show Below wc.heap.size wc _ from by first | assumption | exact below_dr _ | exact below_al (by assumption) _ | exact below_al (below_dr _) _))).mono ?_; rintro e w3 ⟨rfl, hbw⟩; (first | have hnw : Bx _ wc.heap.size _ _ := (Bx.new wc.drew _ _).below hbw | have hnw := (Bx.new _ _ _).below hbw | have hnw := Bx.below (by assumption) hbw | skip); (try obtain ⟨n0, n1⟩ := hnw.two); (try have n2 := hnw.frozen 0); (try have n3 := hnw.frozen 1); replace hbw := below_on (show Below wc.heap.size wc _ from by first | assumption | exact below_dr _ | exact below_al (by assumption) _ | exact below_al (below_dr _) _) hbw))
      all_goals
        go_wp2_with fail
        go_meet
        first
          | exact ⟨_, rfl, rfl, hidv (Bx.new _ _ _), hidv (Below.size (by assumption)), hidv (below_al (by assumption) _)⟩
          | exact ⟨_, rfl, rfl, hidv ((hnw.set 0 _).set 1 _), hidv (Below.size (by assumption)), hidv (below_st0 (below_st0 (by assumption) (by assumption) _ _) (by assumption) _ _)⟩
          | exact ⟨_, rfl, rfl, hidv ((hnw.set 0 _).set 1 _), hidv (Nat.le_refl _), hidv (below_st0 (below_st0 (by assumption) (Below.refl _ _) _ _) (Below.refl _ _) _ _)⟩
    case rest =>
      obtain ⟨g2, rfl, rfl, hg2, hgl2, hbe2⟩ := hcut
      obtain ⟨z0, z1⟩ := (hg.out.below hbe2.out).two
      obtain ⟨z2, z3⟩ := hg2.out.two
      have HB4 := hidv (below_on HB3.out hbe2.out)
      go_wp2_with fail
      refine (eqEqn_same x y _).mono ?_
      rintro e w9 ⟨rfl, hb9⟩
      have HB9 := hidv (below_on HB4.out hb9)
      clear hb9
      go_wp2_with fail
      go_ret
      exact ⟨rfl, HB9.out⟩

end Go.Proofs.YtfnlikjdfihggaaDoor
