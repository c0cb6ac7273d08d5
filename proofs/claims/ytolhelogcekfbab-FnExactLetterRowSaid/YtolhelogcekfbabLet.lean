/-
  LetterRow, of the model: contracts.
-/
import Derived.Test.YtolhelogcekfbabLR
import Derived.Test.YtolhelogcekfbabLRI
namespace Go.Proofs.Ytolhelogcekfbab
open Go.RowKit Go
set_option linter.unusedVariables false

/-- The number of a letter. -/
def letN (c : UInt8) : Nat := c.toNat - 97
theorem letN_lt {c : UInt8} (h : Wd.isL c = true) : letN c < 4 ∧ c.toNat = letN c + 97 := by
  unfold Wd.isL at h
  unfold letN
  simp at h
  omega

set_option maxRecDepth 100000 in
set_option maxHeartbeats 1600000 in
theorem specLetterRow_ok (l r s : ByteArray) (j : Nat) (x x0 x1 x2 x3 x4 x5 x6 x7 : Int) (w : World) (h : eqnB l r = true) (hx : surL l r = [x0, x1, x2, x3, x4, x5, x6, x7]) (hs : s.size = 1) (hc : Wd.isL (s[0]'(by omega)) = true) (hj : letN (s[0]'(by omega)) = j) (hxj : [x0, x1, x2, x3, x4, x5, x6, x7][j]? = some x) :
    Calls Try.prog 44 #[.agg #[.string l, .string r], .string s] w fun e w' => ∃ v, e = .returned (.tuple #[v, .int .i64 0]) ∧ IntsT 2 w' w.heap.size v [x4, x5, x6, x7, x] ∧ Below w.heap.size w w' := by
  obtain ⟨i0, hi, hz0, hz1, hz2⟩ := info_parts Try.infoI
  obtain ⟨hl, hr, _, _⟩ := eqnB_sz h
  have c1 := fun W => specOk_any l r W (by unfold maxLen; omega) (by unfold maxLen; omega)
  rw [h] at c1
  have c2 := fun W => differ_any l r W h
  rw [hx] at c2
  have hp : 0 < s.size := by omega
  have c3 := fun W => letter_any (s[0]) W
  rw [hc] at c3
  obtain ⟨hj4, hjc⟩ := letN_lt hc
  rw [hj] at hj4 hjc
  have C1 := hidv c1
  have C2 := hidv c2
  have C3 := hidv c3
  have hw1 : IntKind.u8.wrap ((s[0].toNat : Int) - 97) = (j : Int) := by
    rw [show (s[0].toNat : Int) - 97 = (j : Int) by omega]
    exact IntWalk.u8_in _ (by omega)
  have hs1 : ((s.size : Int) != 1) = false := by rw [hs]; rfl
  have HXJ := hidv hxj
  have i1 : (0 : Int) ≤ (j : Int) := by omega
  have i2 : (j : Int) < 8 := by omega
  have hbj : (97 : Int) ≤ s[0].toNat := by omega
  clear c1 c2 c3 h hx hxj hs hc hj hjc
  go_enter Try.func44, Try.ntmps44
  go_wp2_with fail
  refine (C1.out _).mono ?_
  rintro e w1 ⟨rfl, hb1⟩
  obtain ⟨e0, e1⟩ := ((Bx.new w 44 #[.string l, .string r]).below hb1).two
  have HB1 := hidv (((Below.refl w.heap.size w).alloc (Nat.le_refl _) _).trans (hb1.mono (by simp)))
  clear hb1
  go_wp2_with fail
  refine (C3.out _).mono ?_
  rintro e w' ⟨rfl, rfl⟩
  go_wp2_with fail
  refine (C2.out _).mono ?_
  rintro e w2 ⟨g, rfl, hi2, hb2⟩
  have HB2 := hidv (below_on HB1.out hb2)
  have hgb := hi2.blk
  have hcell := fun w' (hw : Below w2.heap.size w2 w') (k : Nat) (x : Int) (hk : [x0, x1, x2, x3, x4, x5, x6, x7][k]? = some x) => (hi2.below hw).cellAt (k := k) (x := x) (by rfl) hk
  have HC := hidv hcell
  have HS := hidv (fun w' (hw : Below w2.heap.size w2 w') => (show w'.cell? ⟨g, j, none⟩ = some (.int .i64 x) ∧ Below w2.heap.size w2 w' from ⟨HC.out w' hw j x HXJ.out, hw⟩))
  have HROW := hidv (fun w' (hw : Below w2.heap.size w2 w') => (show Row w' w2.heap.size (.slice (some ⟨g, 4, none⟩) 4 4) (([x4, x5, x6, x7] : List Int).map (Value.int .i64)) from
    ⟨_, _, rfl, fun _ => ⟨g, 4, rfl, hgb.2, fun i x hxi => by
      match i, hxi with
      | 0, h => injection h with h; subst h; exact HC.out w' hw 4 x4 rfl
      | 1, h => injection h with h; subst h; exact HC.out w' hw 5 x5 rfl
      | 2, h => injection h with h; subst h; exact HC.out w' hw 6 x6 rfl
      | 3, h => injection h with h; subst h; exact HC.out w' hw 7 x7 rfl⟩⟩))
  clear hi2 hb2 hcell e0 e1
  go_wp2_with fail
  go_region_held_law (fun w' => w'.cell? ⟨g, j, none⟩ = some (.int .i64 x) ∧ Below w2.heap.size w2 w') (first | exact HS.out _ (below_dr _) | exact HS.out _ (by assumption) | exact HS.out _ (below_al (by assumption) _) | exact HS.out _ (below_al (below_dr _) _)) (first | (go_at_call 76; refine (own_any _ [x4, x5, x6, x7] w2.heap.size _ (HROW.out _ (by first | assumption | exact below_dr _ | exact below_al (below_dr _) _)) (Below.size (show Below w2.heap.size w2 _ from by first | assumption | exact below_dr _ | exact below_al (below_dr _) _)) (by simp)).mono ?_; rintro e w3 ⟨v3, rfl, hown3, hbw⟩; have hbw0 := hbw; replace hbw := below_on (show Below w2.heap.size w2 _ from by first | assumption | exact below_dr _ | exact below_al (below_dr _) _) hbw) | (refine step_append_lies (o := ⟨some 33, _, _, _, _, _⟩) _ (by rfl) (.tmp 25) (.tmp 32) 54 (by rfl) w.heap.size 2 i0 (.int .i64 0) 1 8 Try.underlying54 hi hz0 hz1 hz2 rfl (by decide) v3 4 _ (by rfl) (own_wider (own_below hown3 ((Below.refl _ _).alloc (Nat.le_refl _) _)) (by have := HB2.out.size; first | exact Nat.le_trans this (Below.size (by assumption)) | exact this | (simp; omega))) ⟨w3.heap.size, 0, none⟩ 1 1 [.int .i64 x] (by rfl) rfl (one_newS w3 _ _) (one_int _) (by decide) (by unfold maxLen; decide) (by decide) (by have := HB2.out.size; have h2 : w2.heap.size ≤ w3.heap.size := Below.size hbw; simp; omega) (w3.heap.size + 1) (by simp) ?_; intro g4 cap4 w4 hown4 hgr4 hat4 hlt4; replace hbw := (show Below w2.heap.size w2 _ from by first | exact below_al hbw _ | exact hbw).grown hgr4 (by have h2 : w2.heap.size ≤ w3.heap.size := Below.size hbw; first | exact h2 | (simp; omega)) (fun k hk => by have h := (World.ownsRow.lt hown3 k hk).1; first | exact h | (simp at h; omega))) | (refine step_append_lies (o := ⟨some 33, _, _, _, _, _⟩) _ (by rfl) (.tmp 25) (.tmp 32) 54 (by rfl) w.heap.size 2 i0 (.int .i64 0) 1 8 Try.underlying54 hi hz0 hz1 hz2 rfl (by decide) v3 4 _ (by rfl) (own_wider (hown3) (by have := HB2.out.size; first | exact Nat.le_trans this (Below.size (by assumption)) | exact this | (simp; omega))) ⟨w2.heap.size, 0, none⟩ 1 1 [.int .i64 x] (by rfl) rfl (news_kept (one_newS w2.drew _ _) hbw0 (by simp)) (one_int _) (by decide) (by unfold maxLen; decide) (by decide) (by have := HB2.out.size; have h2 : w2.heap.size ≤ w3.heap.size := Below.size hbw; omega) (w3.heap.size) (rfl) ?_; intro g4 cap4 w4 hown4 hgr4 hat4 hlt4; replace hbw := (show Below w2.heap.size w2 _ from by first | exact below_al hbw _ | exact hbw).grown hgr4 (by have h2 : w2.heap.size ≤ w3.heap.size := Below.size hbw; first | exact h2 | (simp; omega)) (fun k hk => by have h := (World.ownsRow.lt hown3 k hk).1; first | exact h | (simp at h; omega))))
  all_goals
    have HO4 := hidv hown4
    have HB4 := hidv (below_on HB2.out hbw)
    clear hown4 hbw hw1
    go_wp2
    go_ret2
    exact ⟨_, rfl, HO4.out, HB4.out⟩

end Go.Proofs.Ytolhelogcekfbab
