/-
  LengthRow, of the program and of the model: contracts.
-/
import Derived.Test.YtolhelogcekfbabDiff
import Derived.Test.YtolhelogcekfbabOwn
import Derived.Deep.RegionHeldLaw
import Derived.Deep.AppendLies
namespace Go.Proofs.Ytolhelogcekfbab
open Go.RowKit Go
set_option linter.unusedVariables false

theorem news_kept {w w' : World} {B b : Nat} {news : List Value} (h : ∀ j u, news[j]? = some u → w.cell? ((⟨b, 0, none⟩ : Addr).add j) = some u) (hb : Below B w w') (hlt : b < B) : ∀ j u, news[j]? = some u → w'.cell? ((⟨b, 0, none⟩ : Addr).add j) = some u :=
  fun j u hu => (hb.cell (p := (⟨b, 0, none⟩ : Addr).add j) (by show ((⟨b, 0, none⟩ : Addr).add j).block < B; rw [show ((⟨b, 0, none⟩ : Addr).add j).block = b by unfold Addr.add; split <;> rfl]; exact hlt)).trans (h j u hu)
theorem one_int (x : Int) : ∀ u : Value, u ∈ [Value.int .i64 x] → u.oneCell' = true := by
  intro u hu
  obtain rfl : u = _ := by simpa using hu
  rfl

set_option maxRecDepth 100000 in
set_option maxHeartbeats 1600000 in
theorem specLengthRow_ok (l r : ByteArray) (x0 x1 x2 x3 x4 x5 x6 x7 : Int) (w : World) (h : eqnB l r = true) (hx : surL l r = [x0, x1, x2, x3, x4, x5, x6, x7]) (hb : ∀ x ∈ [x0, x1, x2, x3, x4, x5, x6, x7], -24 ≤ x ∧ x ≤ 24) :
    Calls Try.prog 39 #[.agg #[.string l, .string r]] w fun e w' => ∃ v, e = .returned (.tuple #[v, .int .i64 0]) ∧ IntsT 2 w' w.heap.size v [x4, x5, x6, x7, x0 + x1 + x2 + x3] ∧ Below w.heap.size w w' := by
  obtain ⟨i0, hi, hz0, hz1, hz2⟩ := info_parts Try.infoI
  obtain ⟨hl, hr, _, _⟩ := eqnB_sz h
  have c1 := fun W => specOk_any l r W (by unfold maxLen; omega) (by unfold maxLen; omega)
  rw [h] at c1
  have c2 := fun W => differ_any l r W h
  rw [hx] at c2
  obtain ⟨b0, t0⟩ := hb x0 (by simp)
  obtain ⟨b1, t1⟩ := hb x1 (by simp)
  obtain ⟨b2, t2⟩ := hb x2 (by simp)
  obtain ⟨b3, t3⟩ := hb x3 (by simp)
  have C1 := hidv c1
  have C2 := hidv c2
  clear c1 c2 h hx hb
  have hw1 : IntKind.i64.wrap (x0 + x1) = x0 + x1 := IntWalk.i64_in _ (by omega)
  have hw2 : IntKind.i64.wrap (x0 + x1 + x2) = x0 + x1 + x2 := IntWalk.i64_in _ (by omega)
  have hw3 : IntKind.i64.wrap (x0 + x1 + x2 + x3) = x0 + x1 + x2 + x3 := IntWalk.i64_in _ (by omega)
  go_enter Try.func39, Try.ntmps39
  go_wp2_with fail
  refine (C1.out _).mono ?_
  rintro e w1 ⟨rfl, hb1⟩
  obtain ⟨e0, e1⟩ := ((Bx.new w 44 #[.string l, .string r]).below hb1).two
  have HB1 := hidv (((Below.refl w.heap.size w).alloc (Nat.le_refl _) _).trans (hb1.mono (by simp)))
  clear hb1
  go_wp2_with fail
  refine (C2.out _).mono ?_
  rintro e w2 ⟨g, rfl, hi2, hb2⟩
  have HB2 := hidv (below_on HB1.out hb2)
  have hgb := hi2.blk
  have HR := hidv (fun w' (hw : Below w2.heap.size w2 w') => ((hi2.below hw).row))
  have hcell := fun w' (hw : Below w2.heap.size w2 w') (k : Nat) (x : Int) (hk : [x0, x1, x2, x3, x4, x5, x6, x7][k]? = some x) => (hi2.below hw).cellAt (k := k) (x := x) (by rfl) hk
  have HC := hidv hcell
  have HS := hidv (fun w' (hw : Below w2.heap.size w2 w') => (show w'.cell? ⟨g, 0, none⟩ = some (.int .i64 x0) ∧ w'.cell? ⟨g, 1, none⟩ = some (.int .i64 x1) ∧ w'.cell? ⟨g, 2, none⟩ = some (.int .i64 x2) ∧ w'.cell? ⟨g, 3, none⟩ = some (.int .i64 x3) ∧ Below w2.heap.size w2 w' from
    ⟨HC.out w' hw 0 x0 rfl, HC.out w' hw 1 x1 rfl, HC.out w' hw 2 x2 rfl, HC.out w' hw 3 x3 rfl, hw⟩))
  have HROW := hidv (fun w' (hw : Below w2.heap.size w2 w') => (show Row w' w2.heap.size (.slice (some ⟨g, 4, none⟩) 4 4) (([x4, x5, x6, x7] : List Int).map (Value.int .i64)) from
    ⟨_, _, rfl, fun _ => ⟨g, 4, rfl, hgb.2, fun i x hxi => by
      match i, hxi with
      | 0, h => injection h with h; subst h; exact HC.out w' hw 4 x4 rfl
      | 1, h => injection h with h; subst h; exact HC.out w' hw 5 x5 rfl
      | 2, h => injection h with h; subst h; exact HC.out w' hw 6 x6 rfl
      | 3, h => injection h with h; subst h; exact HC.out w' hw 7 x7 rfl⟩⟩))
  clear hi2 hb2 hcell e0 e1
  go_wp2_with fail
  go_region_held_law (fun w' => w'.cell? ⟨g, 0, none⟩ = some (.int .i64 x0) ∧ w'.cell? ⟨g, 1, none⟩ = some (.int .i64 x1) ∧ w'.cell? ⟨g, 2, none⟩ = some (.int .i64 x2) ∧ w'.cell? ⟨g, 3, none⟩ = some (.int .i64 x3) ∧ Below w2.heap.size w2 w') (first | exact HS.out _ (below_dr _) | exact HS.out _ (by assumption) | exact HS.out _ (below_al (by assumption) _) | exact HS.out _ (below_al (below_dr _) _)) (first | (go_at_call 76; refine (own_any _ [x4, x5, x6, x7] w2.heap.size _ (HROW.out _ (by first | assumption | exact below_dr _ | exact below_al (below_dr _) _)) (Below.size (show Below w2.heap.size w2 _ from by first | assumption | exact below_dr _ | exact below_al (below_dr _) _)) (by simp)).mono ?_; rintro e w3 ⟨v3, rfl, hown3, hbw⟩; have hbw0 := hbw; replace hbw := below_on (show Below w2.heap.size w2 _ from by first | assumption | exact below_dr _ | exact below_al (below_dr _) _) hbw) | (refine step_append_lies (o := ⟨some 30, _, _, _, _, _⟩) _ (by rfl) (.tmp 13) (.tmp 29) 54 (by rfl) w.heap.size 2 i0 (.int .i64 0) 1 8 Try.underlying54 hi hz0 hz1 hz2 rfl (by decide) v3 4 _ (by rfl) (own_wider (own_below hown3 ((Below.refl _ _).alloc (Nat.le_refl _) _)) (by have := HB2.out.size; first | exact Nat.le_trans this (Below.size (by assumption)) | exact this | (simp; omega))) ⟨w3.heap.size, 0, none⟩ 1 1 [.int .i64 (x0 + x1 + x2 + x3)] (by rfl) rfl (one_newS w3 _ _) (one_int _) (by decide) (by unfold maxLen; decide) (by decide) (by have := HB2.out.size; have h2 : w2.heap.size ≤ w3.heap.size := Below.size hbw; simp; omega) (w3.heap.size + 1) (by simp) ?_; intro g4 cap4 w4 hown4 hgr4 hat4 hlt4; replace hbw := (show Below w2.heap.size w2 _ from by first | exact below_al hbw _ | exact hbw).grown hgr4 (by have h2 : w2.heap.size ≤ w3.heap.size := Below.size hbw; first | exact h2 | (simp; omega)) (fun k hk => by have h := (World.ownsRow.lt hown3 k hk).1; first | exact h | (simp at h; omega))) | (refine step_append_lies (o := ⟨some 30, _, _, _, _, _⟩) _ (by rfl) (.tmp 13) (.tmp 29) 54 (by rfl) w.heap.size 2 i0 (.int .i64 0) 1 8 Try.underlying54 hi hz0 hz1 hz2 rfl (by decide) v3 4 _ (by rfl) (own_wider (hown3) (by have := HB2.out.size; first | exact Nat.le_trans this (Below.size (by assumption)) | exact this | (simp; omega))) ⟨w2.heap.size, 0, none⟩ 1 1 [.int .i64 (x0 + x1 + x2 + x3)] (by rfl) rfl (news_kept (one_newS w2.drew _ _) hbw0 (by simp)) (one_int _) (by decide) (by unfold maxLen; decide) (by decide) (by have := HB2.out.size; have h2 : w2.heap.size ≤ w3.heap.size := Below.size hbw; omega) (w3.heap.size) (rfl) ?_; intro g4 cap4 w4 hown4 hgr4 hat4 hlt4; replace hbw := (show Below w2.heap.size w2 _ from by first | exact below_al hbw _ | exact hbw).grown hgr4 (by have h2 : w2.heap.size ≤ w3.heap.size := Below.size hbw; first | exact h2 | (simp; omega)) (fun k hk => by have h := (World.ownsRow.lt hown3 k hk).1; first | exact h | (simp at h; omega))))
  all_goals
    have HO4 := hidv hown4
    have HB4 := hidv (below_on HB2.out hbw)
    clear hown4 hbw hw1 hw2 hw3
    go_wp2
    go_ret2
    exact ⟨_, rfl, HO4.out, HB4.out⟩

end Go.Proofs.Ytolhelogcekfbab
