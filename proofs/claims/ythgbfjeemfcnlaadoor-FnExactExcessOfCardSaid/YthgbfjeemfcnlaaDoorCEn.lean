/-
  CancelEnds, of the program and of the model, and the law over them.
-/
import Derived.Test.YthgbfjeemfcnlaaDoorAsk
import Derived.Test.YthgbfjeemfcnlaaDoorCan
namespace Go.Proofs.YthgbfjeemfcnlaaDoor
open Go.RowKit Go
set_option linter.unusedVariables false

theorem askC_sizes {u v : ByteArray} (h : askC u v = 0) : u.size ≤ 24 ∧ v.size ≤ 24 := by
  unfold askC at h
  split at h
  · rename_i h1
    rw [Bool.and_eq_true] at h1
    have e1 := Wd.termB_len h1.1
    have e2 := Wd.termB_len h1.2
    exact ⟨by simpa using e1, by simpa using e2⟩
  · cases h
def canL (u v : ByteArray) : ByteArray := if askC u v = 0 then ⟨⟨(strip2 u.data.toList v.data.toList).1⟩⟩ else ⟨#[]⟩
def canR (u v : ByteArray) : ByteArray := if askC u v = 0 then ⟨⟨(strip2 u.data.toList v.data.toList).2⟩⟩ else ⟨#[]⟩

set_option maxHeartbeats 800000 in
theorem implCancel_any (u v : ByteArray) (w : World) (he : EL w) (hu : u.size ≤ maxLen) (hv : v.size ≤ maxLen) :
    Calls Tryd.prog 6 #[.string u, .string v] w fun e w' => e = .returned (.tuple #[.string (canL u v), .string (canR u v), .int .i64 (askC u v)]) ∧ Below w.heap.size w w' := by
  have hrow : Row (w.alloc (.cells #[.string u, .string v] 9)) (w.heap.size + 1) (.slice (some ⟨w.heap.size, 0, none⟩) 2 2) ([u, v].map Value.string) := by
    refine ⟨_, 2, rfl, fun _ => ⟨w.heap.size, 0, rfl, by omega, fun i x hi => ?_⟩⟩
    rw [Nat.zero_add, (Bx.new w 9 #[.string u, .string v]).cell i]
    rw [← Array.getElem?_toList]
    exact hi
  have hb0 : Below w.heap.size w (w.alloc (.cells #[.string u, .string v] 9)) := below_al (Below.refl _ _) _
  have C1 := code_any _ [u, v] (w.heap.size + 1) _ (he.below hb0) hrow (by simp) (by simp) (by
    intro s hs
    rcases List.mem_cons.1 hs with rfl | hs
    · exact hu
    · rw [List.mem_singleton.1 hs]; exact hv)
  rw [codeT_two] at C1
  have C2 := fun (h : askC u v = 0) W => implStrip_any u v W (by have := askC_sizes h; omega) (by have := askC_sizes h; omega)
  have hl : askC u v = 0 → canL u v = ⟨⟨(strip2 u.data.toList v.data.toList).1⟩⟩ := fun h => if_pos h
  have hr : askC u v = 0 → canR u v = ⟨⟨(strip2 u.data.toList v.data.toList).2⟩⟩ := fun h => if_pos h
  have hl0 : askC u v ≠ 0 → canL u v = ⟨#[]⟩ := fun h => if_neg h
  have hr0 : askC u v ≠ 0 → canR u v = ⟨#[]⟩ := fun h => if_neg h
  obtain ⟨x, hx⟩ : ∃ x, canL u v = x := ⟨_, rfl⟩
  obtain ⟨y, hy⟩ : ∃ x, canR u v = x := ⟨_, rfl⟩
  obtain ⟨c, hc⟩ : ∃ x, askC u v = x := ⟨_, rfl⟩
  rw [hx, hc] at hl hl0
  rw [hy, hc] at hr hr0
  rw [hc] at C1 C2
  rw [hx, hy, hc]
  have HC1 := hidv C1
  have HB0 := hidv hb0
  by_cases h0 : c = 0
  · subst h0
    have c2 := C2 rfl
    rw [← hl rfl, ← hr rfl] at c2
    have HC2 := hidv c2
    clear C1 C2 hl hr hl0 hr0 hx hy hc c2 hrow he hb0
    go_enter Tryd.func6, Tryd.ntmps6
    go_wp2_with fail
    refine HC1.out.mono ?_
    rintro e w1 ⟨rfl, hb1⟩
    have HB1 := hidv (below_on HB0.out hb1)
    clear hb1
    go_wp2_with fail
    refine (HC2.out _).mono ?_
    rintro e w2 ⟨rfl, hb2⟩
    have HB2 := hidv (below_on HB1.out hb2)
    clear hb2
    go_wp2_with fail
    go_quiet (fail)
    go_wp2
    go_ret3
    exact ⟨rfl, below_drewN (below_al HB2.out _) _⟩
  · obtain rfl : x = ⟨#[]⟩ := hl0 h0
    obtain rfl : y = ⟨#[]⟩ := hr0 h0
    have hne : (c != 0) = true := by rw [bne_iff_ne]; exact h0
    clear C1 C2 hl hr hl0 hr0 hx hy hc hrow he hb0 h0
    go_enter Tryd.func6, Tryd.ntmps6
    go_wp2_with fail
    refine HC1.out.mono ?_
    rintro e w1 ⟨rfl, hb1⟩
    have HB1 := hidv (below_on HB0.out hb1)
    clear hb1
    go_wp2_with fail
    go_ret3
    exact ⟨rfl, HB1.out⟩

set_option maxHeartbeats 800000 in
theorem specCancelS_any (u v : ByteArray) (w : World) (hu : u.size ≤ maxLen) (hv : v.size ≤ maxLen) :
    Calls Tryd.prog 5 #[.string u, .string v] w fun e w' => e = .returned (.tuple #[.string (canL u v), .string (canR u v), .int .i64 (askC u v)]) ∧ Below w.heap.size w w' := by
  have C1 := fun W => asked_any u v W hu hv
  have C2 := fun (h : askC u v = 0) W => specCancel_any u v W (by have := askC_sizes h; omega) (by have := askC_sizes h; omega)
  have hl : askC u v = 0 → canL u v = ⟨⟨(strip2 u.data.toList v.data.toList).1⟩⟩ := fun h => if_pos h
  have hr : askC u v = 0 → canR u v = ⟨⟨(strip2 u.data.toList v.data.toList).2⟩⟩ := fun h => if_pos h
  have hl0 : askC u v ≠ 0 → canL u v = ⟨#[]⟩ := fun h => if_neg h
  have hr0 : askC u v ≠ 0 → canR u v = ⟨#[]⟩ := fun h => if_neg h
  obtain ⟨x, hx⟩ : ∃ x, canL u v = x := ⟨_, rfl⟩
  obtain ⟨y, hy⟩ : ∃ x, canR u v = x := ⟨_, rfl⟩
  obtain ⟨c, hc⟩ : ∃ x, askC u v = x := ⟨_, rfl⟩
  rw [hx, hc] at hl hl0
  rw [hy, hc] at hr hr0
  rw [hc] at C1 C2
  rw [hx, hy, hc]
  have HC1 := hidv C1
  by_cases h0 : c = 0
  · subst h0
    have c2 := C2 rfl
    rw [← hl rfl, ← hr rfl] at c2
    have HC2 := hidv c2
    clear C1 C2 hl hr hl0 hr0 hx hy hc c2
    go_enter Tryd.func5, Tryd.ntmps5
    go_wp2_with fail
    refine (HC1.out _).mono ?_
    rintro e w1 ⟨rfl, rfl⟩
    go_wp2_with fail
    refine (HC2.out _).mono ?_
    rintro e w2 ⟨rfl, hb2⟩
    have HB2 := hidv hb2
    clear hb2
    go_wp2_with fail
    go_quiet (fail)
    go_wp2
    go_ret3
    exact ⟨rfl, below_drewN (below_al HB2.out _) _⟩
  · obtain rfl : x = ⟨#[]⟩ := hl0 h0
    obtain rfl : y = ⟨#[]⟩ := hr0 h0
    have hne : (c != 0) = true := by rw [bne_iff_ne]; exact h0
    clear C1 C2 hl hr hl0 hr0 hx hy hc h0
    go_enter Tryd.func5, Tryd.ntmps5
    go_wp2_with fail
    refine (HC1.out _).mono ?_
    rintro e w1 ⟨rfl, rfl⟩
    go_wp2_with fail
    go_ret3
    exact ⟨rfl, Below.refl _ _⟩

set_option maxHeartbeats 800000 in
theorem law_FnExactCancelEnds (u v : ByteArray) (w : World) (hu : u.size ≤ maxLen) (hv : v.size ≤ maxLen) (he : EL w) :
    Calls Tryd.prog 3 #[.string u, .string v] w fun e w' => e = .returned (.bool true) ∧ Below w.heap.size w w' := by
  have C1 := hidv (fun W (hW : Below w.heap.size w W) => implCancel_any u v W (he.below hW) hu hv)
  have C2 := hidv (fun W => specCancelS_any u v W hu hv)
  obtain ⟨x, hx⟩ : ∃ x, canL u v = x := ⟨_, rfl⟩
  obtain ⟨y, hy⟩ : ∃ x, canR u v = x := ⟨_, rfl⟩
  obtain ⟨c, hc⟩ : ∃ x, askC u v = x := ⟨_, rfl⟩
  rw [hx, hy, hc] at C1 C2
  have hu0 := hu
  have hv0 := hv
  unfold maxLen at hu0 hv0
  clear hx hy hc he
  by_cases h1 : (1048576 : Int) < (u.size : Int)
  · go_enter Tryd.func3, Tryd.ntmps3
    go_wp2_with fail
    go_ret
    exact ⟨rfl, Below.refl _ _⟩
  by_cases h2 : (1048576 : Int) < (v.size : Int)
  · go_enter Tryd.func3, Tryd.ntmps3
    go_wp2_with fail
    go_ret
    exact ⟨rfl, Below.refl _ _⟩
  go_enter Tryd.func3, Tryd.ntmps3
  go_wp2_with fail
  refine (C2.out _).mono ?_
  rintro e w1 ⟨rfl, hb1⟩
  have HB1 := hidv hb1
  clear hb1
  go_wp2_with fail
  refine (C1.out _ HB1.out).mono ?_
  rintro e w2 ⟨rfl, hb2⟩
  have HB2 := hidv (below_on HB1.out hb2)
  clear hb2
  go_wp2_with fail
  go_ret
  exact ⟨rfl, HB2.out⟩

end Go.Proofs.YthgbfjeemfcnlaaDoor
