/-
  LetterRow, of the program: contracts; and of both at bad arguments.
-/
import Derived.Test.YtolhelogcekfbabLet
import Derived.Test.YtolhelogcekfbabClashI
import Derived.Deep.RegionHeld3
import Derived.Deep.DeepCutAuto
import Derived.Deep.DrawnRows
namespace Go.Proofs.Ytolhelogcekfbab
open Go.RowKit Go
set_option linter.unusedVariables false
attribute [local go_sem ↓] Go.wp_at_zero Go.wp_at_succ

theorem implLetterRow_badE (l r s : ByteArray) (w : World) (hl : l.size ≤ maxLen) (hr : r.size ≤ maxLen) (h : eqnB l r = false) :
    Calls Try.prog 45 #[.agg #[.string l, .string r], .string s] w fun e w' => ∃ v, e = .returned (.tuple #[v, .int .i64 1]) ∧ IntsT 97 w' w.heap.size v [] ∧ Below w.heap.size w w' := by
  have c1 := fun W => implOk_any l r W hl hr
  rw [h] at c1
  have C1 := hidv c1
  clear c1 h
  go_enter Try.func45, Try.ntmps45
  go_wp2_with fail
  refine (C1.out _).mono ?_
  rintro e w1 ⟨rfl, hb1⟩
  have HB1 := hidv (((Below.refl w.heap.size w).alloc (Nat.le_refl _) _).trans (hb1.mono (by simp)))
  clear hb1
  go_wp2_with fail
  go_ret2
  exact ⟨_, rfl, World.ownsRow_nil _ _ _ _, HB1.out⟩

theorem specLetterRow_badE (l r s : ByteArray) (w : World) (hl : l.size ≤ maxLen) (hr : r.size ≤ maxLen) (h : eqnB l r = false) :
    Calls Try.prog 44 #[.agg #[.string l, .string r], .string s] w fun e w' => ∃ v, e = .returned (.tuple #[v, .int .i64 1]) ∧ IntsT 2 w' w.heap.size v [] ∧ Below w.heap.size w w' := by
  have c1 := fun W => specOk_any l r W hl hr
  rw [h] at c1
  have C1 := hidv c1
  clear c1 h
  go_enter Try.func44, Try.ntmps44
  go_wp2_with fail
  refine (C1.out _).mono ?_
  rintro e w1 ⟨rfl, hb1⟩
  have HB1 := hidv (((Below.refl w.heap.size w).alloc (Nat.le_refl _) _).trans (hb1.mono (by simp)))
  clear hb1
  go_wp2_with fail
  go_ret2
  exact ⟨_, rfl, World.ownsRow_lit w1 #[] 0 HB1.out.size (Nat.zero_le _) rfl, below_al HB1.out _⟩

/-- Whether a text is a letter. -/
def letB (s : ByteArray) : Bool := decide (s.size = 1) && Wd.isL (s.data.toList.getD 0 0)
theorem letB_true {s : ByteArray} (h : letB s = true) : ∃ hp : 0 < s.size, s.size = 1 ∧ Wd.isL s[0] = true := by
  unfold letB at h
  rw [Bool.and_eq_true, decide_eq_true_eq] at h
  exact ⟨by omega, h.1, by rw [← isL_getD (by omega)]; exact h.2⟩
theorem letB_one {s : ByteArray} (h : letB s = false) (h1 : s.size = 1) (hp : 0 < s.size) : Wd.isL s[0] = false := by
  unfold letB at h
  rw [h1, decide_eq_true rfl, Bool.true_and, isL_getD hp] at h
  exact h
theorem one_byte {s : ByteArray} (h : s.size = 1) (hp : 0 < s.size) : s = ⟨#[s[0]]⟩ := by
  have h1 : s.data.toList = [s[0]] := by
    rw [data_cons hp, data_nil (x := s.extract 1 s.size) (by simp; omega)]
  exact ba_of h1

theorem isLetter_any (s : ByteArray) (w : World) (hs : s.size ≤ maxLen) :
    Calls Try.prog 74 #[.string s] w fun e w' => e = .returned (.bool (letB s)) ∧ w = w' := by
  by_cases h1 : s.size = 1
  · have hp : 0 < s.size := by omega
    have := isLetter_one s s[0] w (one_byte h1 hp)
    rw [show letB s = Wd.isL s[0] from by unfold letB; rw [decide_eq_true h1, Bool.true_and, isL_getD hp]]
    exact this
  · have h2 : letB s = false := by unfold letB; rw [decide_eq_false h1, Bool.false_and]
    have hb : ((s.size : Int) == 1) = false := by rw [beq_eq_false_iff_ne]; omega
    rw [h2]
    unfold maxLen at hs
    clear h1 h2
    go_enter Try.func74, Try.ntmps74
    go_wp2_with fail
    go_ret
    exact ⟨rfl, rfl⟩

theorem implLetterRow_badL (l r s : ByteArray) (w : World) (h : eqnB l r = true) (hs : s.size ≤ maxLen) (hb : letB s = false) :
    Calls Try.prog 45 #[.agg #[.string l, .string r], .string s] w fun e w' => ∃ v, e = .returned (.tuple #[v, .int .i64 2]) ∧ IntsT 97 w' w.heap.size v [] ∧ Below w.heap.size w w' := by
  obtain ⟨hl, hr, _, _⟩ := eqnB_sz h
  have c1 := fun W => implOk_any l r W (by unfold maxLen; omega) (by unfold maxLen; omega)
  rw [h] at c1
  have c2 := fun W => isLetter_any s W hs
  rw [hb] at c2
  have C1 := hidv c1
  have C2 := hidv c2
  clear c1 h c2 hb
  go_enter Try.func45, Try.ntmps45
  go_wp2_with fail
  refine (C1.out _).mono ?_
  rintro e w1 ⟨rfl, hb1⟩
  have HB1 := hidv (((Below.refl w.heap.size w).alloc (Nat.le_refl _) _).trans (hb1.mono (by simp)))
  clear hb1
  go_wp2_with fail
  refine (C2.out _).mono ?_
  rintro e w' ⟨rfl, rfl⟩
  go_wp2_with fail
  go_ret2
  exact ⟨_, rfl, World.ownsRow_nil _ _ _ _, HB1.out⟩

theorem own_of_bx {w : World} {g base : Nat} {t : TypeId} {cs : Array Value} (h : Bx w g t cs) (hb : base ≤ g) (m : Nat) (hs : cs.size = m) (hm : m ≤ maxLen) : w.ownsRow base t 1 (.slice (some ⟨g, 0, none⟩) m m) m cs.toList :=
  ⟨by simpa using hs, .inr ⟨g, m, cs, rfl, hb, h, Nat.le_refl _, hm, by omega, List.take_of_length_le (by rw [Array.length_toList]; omega)⟩⟩

set_option maxHeartbeats 400000 in
theorem specLetterRow_badL (l r s : ByteArray) (w : World) (h : eqnB l r = true) (hs : s.size ≤ maxLen) (hb : letB s = false) :
    Calls Try.prog 44 #[.agg #[.string l, .string r], .string s] w fun e w' => ∃ v, e = .returned (.tuple #[v, .int .i64 2]) ∧ IntsT 2 w' w.heap.size v [] ∧ Below w.heap.size w w' := by
  obtain ⟨hl, hr, _, _⟩ := eqnB_sz h
  have c1 := fun W => specOk_any l r W (by unfold maxLen; omega) (by unfold maxLen; omega)
  rw [h] at c1
  have C1 := hidv c1
  unfold maxLen at hs
  clear c1 h
  by_cases h1 : s.size = 1
  · have hp : 0 < s.size := by omega
    have c3 := fun W => letter_any s[0] W
    rw [letB_one hb h1 hp] at c3
    have C3 := hidv c3
    have hs1 : ((s.size : Int) != 1) = false := by rw [h1]; rfl
    clear c3 hb h1
    go_enter Try.func44, Try.ntmps44
    go_wp2_with fail
    refine (C1.out _).mono ?_
    rintro e w1 ⟨rfl, hb1⟩
    have HB1 := hidv (((Below.refl w.heap.size w).alloc (Nat.le_refl _) _).trans (hb1.mono (by simp)))
    clear hb1
    go_wp2_with fail
    refine (C3.out _).mono ?_
    rintro e w' ⟨rfl, rfl⟩
    go_wp2_with fail
    go_ret2
    exact ⟨_, rfl, World.ownsRow_lit w1 #[] 0 HB1.out.size (Nat.zero_le _) rfl, below_al HB1.out _⟩
  · have hs1 : ((s.size : Int) != 1) = true := by rw [bne_iff_ne]; omega
    clear hb h1
    go_enter Try.func44, Try.ntmps44
    go_wp2_with fail
    refine (C1.out _).mono ?_
    rintro e w1 ⟨rfl, hb1⟩
    have HB1 := hidv (((Below.refl w.heap.size w).alloc (Nat.le_refl _) _).trans (hb1.mono (by simp)))
    clear hb1
    go_wp2_with fail
    go_ret2
    exact ⟨_, rfl, World.ownsRow_lit w1 #[] 0 HB1.out.size (Nat.zero_le _) rfl, below_al HB1.out _⟩

set_option maxRecDepth 100000 in
set_option maxHeartbeats 16000000 in
theorem implLetterRow_ok (l r s : ByteArray) (j : Nat) (x x0 x1 x2 x3 x4 x5 x6 x7 : Int) (w : World) (h : eqnB l r = true) (hx : surL l r = [x0, x1, x2, x3, x4, x5, x6, x7]) (hs : s.size = 1) (hc : Wd.isL (s[0]'(by omega)) = true) (hj : letN (s[0]'(by omega)) = j) (hxj : [x0, x1, x2, x3, x4, x5, x6, x7][j]? = some x) :
    Calls Try.prog 45 #[.agg #[.string l, .string r], .string s] w fun e w' => ∃ v, e = .returned (.tuple #[v, .int .i64 0]) ∧ IntsT 97 w' w.heap.size v [x4, x5, x6, x7, x] ∧ Below w.heap.size w w' := by
  obtain ⟨hl, hr, _, _⟩ := eqnB_sz h
  have c1 := fun W => implOk_any l r W (by unfold maxLen; omega) (by unfold maxLen; omega)
  rw [h] at c1
  have hp : 0 < s.size := by omega
  have c2 := fun W => isLetter_any s W (by unfold maxLen; omega)
  rw [show letB s = true from by unfold letB; rw [decide_eq_true hs, Bool.true_and, isL_getD hp]; exact hc] at c2
  have c3 := fun W => Try.strings_Index_one ⟨#[97, 98, 99, 100]⟩ s[0] W
  obtain ⟨hj4, hjc⟩ := letN_lt hc
  rw [hj] at hj4 hjc
  have hix : Lib.indexByte (⟨#[97, 98, 99, 100]⟩ : ByteArray).data.toList s[0] = (j : Int) := by
    show Lib.indexByte [97, 98, 99, 100] s[0] = _
    rw [indexByte_letters, hc]
    simp only [if_true]
    omega
  rw [hix, ← one_byte hs hp] at c3
  have c4 := fun W => surplus_any l r W h
  rw [hx] at c4
  have C1 := hidv c1
  have C2 := hidv c2
  have C3 := hidv c3
  have C4 : Hid (∀ W, Calls Try.prog 80 #[.agg #[.string l, .string r]] W fun e w' => e = .returned (.agg #[.int .i64 x0, .int .i64 x1, .int .i64 x2, .int .i64 x3, .int .i64 x4, .int .i64 x5, .int .i64 x6, .int .i64 x7]) ∧ Below W.heap.size W w') := c4
  have C5 := hidv (fun W => rowWith_any l r x x0 x1 x2 x3 x4 x5 x6 x7 W h hx)
  have hi8 := fun W => ix8 #[.int .i64 x0, .int .i64 x1, .int .i64 x2, .int .i64 x3, .int .i64 x4, .int .i64 x5, .int .i64 x6, .int .i64 x7] j (.int .i64 x) (by omega) (by
    have h1 : ([x0, x1, x2, x3, x4, x5, x6, x7].map (Value.int .i64))[j]? = some (.int .i64 x) := by rw [List.getElem?_map, hxj]; rfl
    rw [← Array.getElem?_toList]
    exact h1) W
  clear c1 h c2 c3 c4 hx hs hc hj hjc hxj hix
  go_enter Try.func45, Try.ntmps45
  go_wp2_with fail
  refine (C1.out _).mono ?_
  rintro e w1 ⟨rfl, hb1⟩
  have hX1 := (Bx.new w 44 #[.string l, .string r]).below hb1
  have HB1 := hidv (((Below.refl w.heap.size w).alloc (Nat.le_refl _) _).trans (hb1.mono (by simp)))
  have HX1 := hidv hX1
  clear hb1 hX1
  go_wp2_with fail
  refine (C2.out _).mono ?_
  rintro e w' ⟨rfl, rfl⟩
  have HS := hidv (fun w' (hw : Below w1.heap.size w1 w') => (show w'.cell? ⟨w.heap.size, 0, none⟩ = some (.string l) ∧ w'.cell? ⟨w.heap.size, 1, none⟩ = some (.string r) ∧ Below w1.heap.size w1 w' from
    ⟨(HX1.out.below hw).two.1, (HX1.out.below hw).two.2, hw⟩))
  go_upto_region 5 with fail
  go_cut [6] (fun s6 wx => ∃ g : Nat, s6 = .pointer (some ⟨g, 0, none⟩) ∧ Hid (Bx wx g 97 #[.int .i64 x4, .int .i64 x5, .int .i64 x6, .int .i64 x7, .int .i64 x]) ∧ Hid (w1.heap.size ≤ g) ∧ Hid (Below w1.heap.size w1 wx))
  case first =>
    go_wp2_with fail
    go_region_held3 (fun w' => w'.cell? ⟨w.heap.size, 0, none⟩ = some (.string l) ∧ w'.cell? ⟨w.heap.size, 1, none⟩ = some (.string r) ∧ Below w1.heap.size w1 w') ((exact HS.out _ (by repeat (first | assumption | exact Below.refl _ _ | refine Below.drew ?_ | refine below_al ?_ _ | refine below_st0 ?_ (by first | assumption | exact Below.refl _ _) _ _)))) (first | (go_at_call 80; refine (C4.out _).mono ?_; rintro e w3 ⟨rfl, hbw⟩; (first | have hnw : Bx _ w1.heap.size _ _ := (Bx.new w1.drew _ _).below hbw | have hnw : Bx _ w1.heap.size _ _ := (Bx.new w1 _ _).below hbw | have hnw := (Bx.new _ _ _).below hbw | have hnw := Bx.below (by assumption) hbw | skip); replace hbw := below_on (show Below w1.heap.size w1 _ from by repeat (first | assumption | exact Below.refl _ _ | refine Below.drew ?_ | refine below_al ?_ _)) hbw) | (go_at_call 81; refine (C3.out _).mono ?_; rintro e w' ⟨rfl, rfl⟩) | (go_at_call 79; refine (C5.out _).mono ?_; rintro e w3 ⟨rfl, hbw⟩; (first | have hnw : Bx _ w1.heap.size _ _ := (Bx.new w1.drew _ _).below hbw | have hnw : Bx _ w1.heap.size _ _ := (Bx.new w1 _ _).below hbw | have hnw := (Bx.new _ _ _).below hbw | have hnw := Bx.below (by assumption) hbw | skip); (try have n0 := hnw.cell 0); (try have m0 := hnw.frozen 0); (try have n1 := hnw.cell 1); (try have m1 := hnw.frozen 1); (try have n2 := hnw.cell 2); (try have m2 := hnw.frozen 2); (try have n3 := hnw.cell 3); (try have m3 := hnw.frozen 3); (try have n4 := hnw.cell 4); (try have m4 := hnw.frozen 4); replace hbw := below_on (show Below w1.heap.size w1 _ from by repeat (first | assumption | exact Below.refl _ _ | refine Below.drew ?_ | refine below_al ?_ _)) hbw))
    · go_wp2_with fail
      go_meet
      exact ⟨_, rfl, hidv (Bx.new _ _ _), hidv (Below.size (by assumption)), hidv (below_al (by assumption) _)⟩
    all_goals
      go_wp2_with fail
      go_meet
      exact ⟨_, rfl, hidv (((((hnw.set 0 _).set 1 _).set 2 _).set 3 _).set 4 _), hidv (by first | exact Below.size (by assumption) | exact Nat.le_refl _), hidv (by repeat (first | assumption | refine below_st0 ?_ (by first | assumption | exact Below.refl _ _) _ _))⟩
  case rest =>
    obtain ⟨g, rfl, hg, hgl, hbe⟩ := hcut
    have HB2 := hidv (below_on HB1.out hbe.out)
    have HO := hidv (own_of_bx hg.out (Nat.le_trans HB1.out.size hgl.out) 5 rfl (by unfold maxLen; decide))
    go_wp2
    go_ret2
    exact ⟨_, rfl, HO.out, HB2.out⟩

end Go.Proofs.Ytolhelogcekfbab
