/-
  Replace, of the program and of the model, at every argument; and the law over them.
-/
import Derived.Test.YtamhhgcghjhifaaDoorRepI
namespace Go.Proofs.YtamhhgcghjhifaaDoor
open Go.RowKit Go
set_option linter.unusedVariables false

theorem implReplace_t (t x y : ByteArray) (w : World) (ht : t.size ≤ maxLen) (h : Wd.termB t.data.toList = false) :
    Calls Tryd.prog 6 #[.string t, .string x, .string y] w fun e w' => e = .returned (.tuple #[.string ⟨#[]⟩, .int .i64 1]) ∧ Below w.heap.size w w' := by
  have c1 := fun W => implValidTerm_any t W ht
  rw [h] at c1
  have C1 := hidv c1
  clear c1 h
  go_enter Tryd.func6, Tryd.ntmps6
  go_wp2_with fail
  refine (C1.out _).mono ?_
  rintro e w' ⟨rfl, rfl⟩
  go_wp2_with fail
  go_ret2
  exact ⟨rfl, Below.refl _ _⟩
theorem implReplace_y (t x y : ByteArray) (w : World) (ht : t.size ≤ maxLen) (hy : y.size ≤ maxLen) (h : Wd.termB t.data.toList = true) (h2 : Wd.termB y.data.toList = false) :
    Calls Tryd.prog 6 #[.string t, .string x, .string y] w fun e w' => e = .returned (.tuple #[.string ⟨#[]⟩, .int .i64 1]) ∧ Below w.heap.size w w' := by
  have c1 := fun W => implValidTerm_any t W ht
  have c2 := fun W => implValidTerm_any y W hy
  rw [h] at c1
  rw [h2] at c2
  have C1 := hidv c1
  have C2 := hidv c2
  clear c1 h c2 h2
  go_enter Tryd.func6, Tryd.ntmps6
  go_wp2_with fail
  refine (C1.out _).mono ?_
  rintro e w' ⟨rfl, rfl⟩
  go_wp2_with fail
  refine (C2.out _).mono ?_
  rintro e w' ⟨rfl, rfl⟩
  go_wp2_with fail
  go_ret2
  exact ⟨rfl, Below.refl _ _⟩
theorem implReplace_x (t x y : ByteArray) (w : World) (ht : t.size ≤ maxLen) (hy : y.size ≤ maxLen) (hx : x.size ≤ maxLen) (h : Wd.termB t.data.toList = true) (h2 : Wd.termB y.data.toList = true) (h3 : uB x.data.toList = false) :
    Calls Tryd.prog 6 #[.string t, .string x, .string y] w fun e w' => e = .returned (.tuple #[.string ⟨#[]⟩, .int .i64 2]) ∧ Below w.heap.size w w' := by
  have c1 := fun W => implValidTerm_any t W ht
  have c2 := fun W => implValidTerm_any y W hy
  have c3 := fun W => isU_any x W hx
  rw [h] at c1
  rw [h2] at c2
  rw [h3] at c3
  have C1 := hidv c1
  have C2 := hidv c2
  have C3 := hidv c3
  clear c1 h c2 h2 c3 h3
  go_enter Tryd.func6, Tryd.ntmps6
  go_wp2_with fail
  refine (C1.out _).mono ?_
  rintro e w' ⟨rfl, rfl⟩
  go_wp2_with fail
  refine (C2.out _).mono ?_
  rintro e w' ⟨rfl, rfl⟩
  go_wp2_with fail
  refine (C3.out _).mono ?_
  rintro e w' ⟨rfl, rfl⟩
  go_wp2_with fail
  go_ret2
  exact ⟨rfl, Below.refl _ _⟩

theorem specReplace_t (t x y : ByteArray) (w : World) (ht : t.size ≤ maxLen) (h : Wd.termB t.data.toList = false) :
    Calls Tryd.prog 5 #[.string t, .string x, .string y] w fun e w' => e = .returned (.tuple #[.string ⟨#[]⟩, .int .i64 1]) ∧ Below w.heap.size w w' := by
  have c1 := fun W => specTerm_any t W ht
  rw [h] at c1
  have C1 := hidv c1
  clear c1 h
  go_enter Tryd.func5, Tryd.ntmps5
  go_wp2_with fail
  refine (C1.out _).mono ?_
  rintro e w' ⟨rfl, rfl⟩
  go_wp2_with fail
  go_ret2
  exact ⟨rfl, Below.refl _ _⟩
theorem specReplace_y (t x y : ByteArray) (w : World) (ht : t.size ≤ maxLen) (hy : y.size ≤ maxLen) (h : Wd.termB t.data.toList = true) (h2 : Wd.termB y.data.toList = false) :
    Calls Tryd.prog 5 #[.string t, .string x, .string y] w fun e w' => e = .returned (.tuple #[.string ⟨#[]⟩, .int .i64 1]) ∧ Below w.heap.size w w' := by
  have c1 := fun W => specTerm_any t W ht
  have c2 := fun W => specTerm_any y W hy
  rw [h] at c1
  rw [h2] at c2
  have C1 := hidv c1
  have C2 := hidv c2
  clear c1 h c2 h2
  go_enter Tryd.func5, Tryd.ntmps5
  go_wp2_with fail
  refine (C1.out _).mono ?_
  rintro e w' ⟨rfl, rfl⟩
  go_wp2_with fail
  refine (C2.out _).mono ?_
  rintro e w' ⟨rfl, rfl⟩
  go_wp2_with fail
  go_ret2
  exact ⟨rfl, Below.refl _ _⟩
set_option maxHeartbeats 400000 in
theorem specReplace_x (t x y : ByteArray) (w : World) (ht : t.size ≤ maxLen) (hy : y.size ≤ maxLen) (hx : x.size ≤ maxLen) (h : Wd.termB t.data.toList = true) (h2 : Wd.termB y.data.toList = true) (h3 : uB x.data.toList = false) :
    Calls Tryd.prog 5 #[.string t, .string x, .string y] w fun e w' => e = .returned (.tuple #[.string ⟨#[]⟩, .int .i64 2]) ∧ Below w.heap.size w w' := by
  have c1 := fun W => specTerm_any t W ht
  have c2 := fun W => specTerm_any y W hy
  rw [h] at c1
  rw [h2] at c2
  have C1 := hidv c1
  have C2 := hidv c2
  unfold maxLen at hx
  clear c1 h c2 h2
  by_cases h1 : x.size = 1
  · obtain ⟨b, hb⟩ := lu_one h1
    have hp : 0 < x.size := by omega
    have hq : Wd.unkI x[0] < 0 := by
      have := unkI_neg x[0]
      subst hb
      rw [show Wd.isU (⟨#[b]⟩ : ByteArray)[0] = false from h3] at this
      simpa using this
    have c3 := fun W => unknown_any x[0] W
    obtain ⟨q, hqq⟩ : ∃ q, Wd.unkI x[0] = q := ⟨_, rfl⟩
    rw [hqq] at c3 hq
    have C3 := hidv c3
    have hs1 : ((x.size : Int) != 1) = false := by rw [h1]; rfl
    have i0 : (0 : Int) < (x.size : Int) := by omega
    clear c3 hqq hb h3 h1
    go_enter Tryd.func5, Tryd.ntmps5
    go_wp2_with fail
    refine (C1.out _).mono ?_
    rintro e w' ⟨rfl, rfl⟩
    go_wp2_with fail
    refine (C2.out _).mono ?_
    rintro e w' ⟨rfl, rfl⟩
    go_wp2_with fail
    refine (C3.out _).mono ?_
    rintro e w' ⟨rfl, rfl⟩
    go_wp2_with fail
    go_ret2
    exact ⟨rfl, Below.refl _ _⟩
  · have hs1 : ((x.size : Int) != 1) = true := by rw [bne_iff_ne]; omega
    clear h3 h1
    go_enter Tryd.func5, Tryd.ntmps5
    go_wp2_with fail
    refine (C1.out _).mono ?_
    rintro e w' ⟨rfl, rfl⟩
    go_wp2_with fail
    refine (C2.out _).mono ?_
    rintro e w' ⟨rfl, rfl⟩
    go_wp2_with fail
    go_ret2
    exact ⟨rfl, Below.refl _ _⟩
set_option maxHeartbeats 400000 in
theorem specReplace_ok (t y : ByteArray) (c : UInt8) (w : World) (h : Wd.termB t.data.toList = true) (h2 : Wd.termB y.data.toList = true) (h3 : Wd.isU c = true) :
    Calls Tryd.prog 5 #[.string t, .string ⟨#[c]⟩, .string y] w fun e w' => e = .returned (.tuple #[.string (repV t y c), .int .i64 (repC t y c)]) ∧ Below w.heap.size w w' := by
  have hts := termB_24 h
  have hys := termB_24 h2
  have c1 := fun W => specTerm_any t W (by unfold maxLen; omega)
  have c2 := fun W => specTerm_any y W (by unfold maxLen; omega)
  rw [h] at c1
  rw [h2] at c2
  have hneg : ¬ Wd.unkI c < 0 := by
    have := unkI_neg c
    rw [h3] at this
    simpa using this
  have c3 := fun W => unknown_any c W
  have c4 := fun W => specReplace_any t y c W hts hys
  unfold repV repC
  obtain ⟨r, hr⟩ : ∃ r : ByteArray, ⟨⟨repL c y.data.toList t.data.toList⟩⟩ = r := ⟨_, rfl⟩
  have hbd := repL_bound c y.data.toList t.data.toList
  have hrl : (repL c y.data.toList t.data.toList).length = r.size := by rw [← hr]; rfl
  rw [hrl] at hbd ⊢
  rw [hr] at c4 ⊢
  have hr6 : r.size ≤ 600 := by
    have h1 : t.data.toList.length = t.size := by simp
    have h2 : y.data.toList.length = y.size := by simp
    rw [h1, h2] at hbd
    have := Nat.mul_le_mul hts (show y.size + 1 ≤ 25 by omega)
    omega
  obtain ⟨x, hx⟩ : ∃ s : ByteArray, ⟨#[c]⟩ = s := ⟨_, rfl⟩
  rw [hx]
  have h1 : x.size = 1 := by rw [← hx]; rfl
  have hp : 0 < x.size := by omega
  have g0 : x[0] = c := by subst hx; rfl
  rw [← g0] at c3 c4 hneg
  obtain ⟨q, hqq⟩ : ∃ q, Wd.unkI x[0] = q := ⟨_, rfl⟩
  rw [hqq] at c3 hneg
  have hs1 : ((x.size : Int) != 1) = false := by rw [h1]; rfl
  have i0 : (0 : Int) < (x.size : Int) := by omega
  have hq0 : 0 ≤ q := by omega
  have C1 := hidv c1
  have C2 := hidv c2
  have C3 := hidv c3
  have C4 := hidv c4
  clear c1 c2 c3 c4 h h2 h3 hqq hx g0 hr hrl hbd h1
  by_cases h24 : r.size ≤ 24
  · rw [if_pos h24, if_pos h24]
    go_enter Tryd.func5, Tryd.ntmps5
    go_wp2_with fail
    refine (C1.out _).mono ?_
    rintro e w' ⟨rfl, rfl⟩
    go_wp2_with fail
    refine (C2.out _).mono ?_
    rintro e w' ⟨rfl, rfl⟩
    go_wp2_with fail
    refine (C3.out _).mono ?_
    rintro e w' ⟨rfl, rfl⟩
    go_wp2_with fail
    refine (C4.out _).mono ?_
    rintro e w' ⟨rfl, rfl⟩
    go_wp2_with fail
    go_ret2
    exact ⟨rfl, Below.refl _ _⟩
  · rw [if_neg h24, if_neg h24]
    go_enter Tryd.func5, Tryd.ntmps5
    go_wp2_with fail
    refine (C1.out _).mono ?_
    rintro e w' ⟨rfl, rfl⟩
    go_wp2_with fail
    refine (C2.out _).mono ?_
    rintro e w' ⟨rfl, rfl⟩
    go_wp2_with fail
    refine (C3.out _).mono ?_
    rintro e w' ⟨rfl, rfl⟩
    go_wp2_with fail
    refine (C4.out _).mono ?_
    rintro e w' ⟨rfl, rfl⟩
    go_wp2_with fail
    go_ret2
    exact ⟨rfl, Below.refl _ _⟩

theorem replace_both (t x y : ByteArray) (ht : t.size ≤ maxLen) (hx : x.size ≤ maxLen) (hy : y.size ≤ maxLen) : ∃ (R : ByteArray) (c : Int),
    (∀ w, ML w → Calls Tryd.prog 6 #[.string t, .string x, .string y] w fun e w' => e = .returned (.tuple #[.string R, .int .i64 c]) ∧ Below w.heap.size w w') ∧
    ∀ w, Calls Tryd.prog 5 #[.string t, .string x, .string y] w fun e w' => e = .returned (.tuple #[.string R, .int .i64 c]) ∧ Below w.heap.size w w' := by
  cases h : Wd.termB t.data.toList
  · exact ⟨_, _, fun w _ => implReplace_t t x y w ht h, fun w => specReplace_t t x y w ht h⟩
  · cases h2 : Wd.termB y.data.toList
    · exact ⟨_, _, fun w _ => implReplace_y t x y w ht hy h h2, fun w => specReplace_y t x y w ht hy h h2⟩
    · cases h3 : uB x.data.toList
      · exact ⟨_, _, fun w _ => implReplace_x t x y w ht hy hx h h2 h3, fun w => specReplace_x t x y w ht hy hx h h2 h3⟩
      · have h1 : x.size = 1 := by
          by_cases h : x.data.toList.length = 1
          · simpa using h
          · rw [uB_not h] at h3; cases h3
        obtain ⟨c, rfl⟩ := lu_one h1
        exact ⟨_, _, fun w hw => implReplace_any t y c w hw h h2 h3, fun w => specReplace_ok t y c w h h2 h3⟩

set_option maxHeartbeats 400000 in
theorem law_FnExactReplace (t x y : ByteArray) (w : World) (ht : t.size ≤ maxLen) (hx : x.size ≤ maxLen) (hy : y.size ≤ maxLen) (ml : ML w) :
    Calls Tryd.prog 3 #[.string t, .string x, .string y] w fun e w' => e = .returned (.bool true) ∧ Below w.heap.size w w' := by
  obtain ⟨R, c, h1, h2⟩ := replace_both t x y ht hx hy
  have H1 := hidv h1
  have H2 := hidv h2
  unfold maxLen at ht hx hy
  clear h1 h2
  by_cases l1 : (1048576 : Int) < t.size
  · go_enter Tryd.func3, Tryd.ntmps3
    go_wp2
    go_ret
    exact ⟨rfl, Below.refl _ _⟩
  by_cases l2 : (1048576 : Int) < x.size
  · go_enter Tryd.func3, Tryd.ntmps3
    go_wp2
    go_ret
    exact ⟨rfl, Below.refl _ _⟩
  by_cases l3 : (1048576 : Int) < y.size
  · go_enter Tryd.func3, Tryd.ntmps3
    go_wp2
    go_ret
    exact ⟨rfl, Below.refl _ _⟩
  go_enter Tryd.func3, Tryd.ntmps3
  go_wp2_with fail
  refine (H2.out _).mono ?_
  rintro e w1 ⟨rfl, hb1⟩
  go_wp2_with fail
  refine (H1.out _ (ml.below hb1)).mono ?_
  rintro e w2 ⟨rfl, hb2⟩
  go_wp2_with fail
  go_ret
  exact ⟨rfl, below_on hb1 hb2⟩

end Go.Proofs.YtamhhgcghjhifaaDoor
