/-
  ExcessOf, of the program and of the model, and the law over them.
-/
import Derived.Test.YthgbfjeemfcnlaaDoorExc
namespace Go.Proofs.YthgbfjeemfcnlaaDoor
open Go.RowKit Go
set_option linter.unusedVariables false

def excA (u v : ByteArray) : Int := if askC u v = 0 then excN u v else 0
def excB (u v : ByteArray) : Int := if askC u v = 0 then excL u v else 0

theorem row_excess {u v : ByteArray} (h : askC u v = 0) : ∃ x0 x1 x2 x3 x4 x5 x6 x7 : Int, surL u v = [x0, x1, x2, x3, x4, x5, x6, x7] ∧ (∀ x ∈ [x0, x1, x2, x3, x4, x5, x6, x7], -24 ≤ x ∧ x ≤ 24) ∧ x4 = excN u v ∧ -(x0 + x1 + x2 + x3) = excL u v := by
  obtain ⟨h1, h2, h3⟩ := askC_ok h
  obtain ⟨x0, x1, x2, x3, x4, x5, x6, x7, hs, hb⟩ := surL_eight h1
  have hx : ∀ k, k < 8 → [x0, x1, x2, x3, x4, x5, x6, x7][k]? = some (((u.data.toList.countP (fun c => kindN c == k) : Nat) : Int) - ((v.data.toList.countP (fun c => kindN c == k) : Nat) : Int)) := fun k hk => by
    rw [← hs]
    exact surL_get u v k (cntL_at _ k hk) (cntL_at _ k hk)
  have e0 := Option.some.inj (hx 0 (by omega))
  have e1 := Option.some.inj (hx 1 (by omega))
  have e2 := Option.some.inj (hx 2 (by omega))
  have e3 := Option.some.inj (hx 3 (by omega))
  have e4 := Option.some.inj (hx 4 (by omega))
  have k4 := kind_4 h2
  have k4' := kind_4 h3
  have s1 := kind_sum h2
  have s2 := kind_sum h3
  have l1 : u.data.toList.length = u.size := by simp
  have l2 : v.data.toList.length = v.size := by simp
  refine ⟨x0, x1, x2, x3, x4, x5, x6, x7, hs, hb, ?_, ?_⟩
  · unfold excN
    rw [e4, k4, k4']
  · unfold excL excN
    rw [e0, e1, e2, e3]
    omega

set_option maxHeartbeats 800000 in
theorem implExcess_any (u v : ByteArray) (w : World) (he : EL w) (hu : u.size ≤ maxLen) (hv : v.size ≤ maxLen) :
    Calls Tryd.prog 8 #[.string u, .string v] w fun e w' => e = .returned (.tuple #[.int .i64 (excA u v), .int .i64 (excB u v), .int .i64 (askC u v)]) ∧ Below w.heap.size w w' := by
  have hrow : Row (w.alloc (.cells #[.string u, .string v] 9)) (w.heap.size + 1) (.slice (some ⟨w.heap.size, 0, none⟩) 2 2) ([u, v].map Value.string) := by
    refine ⟨_, 2, rfl, fun _ => ⟨w.heap.size, 0, rfl, by omega, fun i x hi => ?_⟩⟩
    rw [Nat.zero_add, (Bx.new w 9 #[.string u, .string v]).cell i]
    rw [← Array.getElem?_toList]
    exact hi
  have hb0 : Below w.heap.size w (w.alloc (.cells #[.string u, .string v] 9)) := below_al (Below.refl _ _) _
  have C1 := code_any _ [u, v] (w.heap.size + 1) _ (he.below hb0) hrow (by simp) (by simp) (by
    intro s hs
    rcases List.mem_cons.1 hs with rfl | hs
    · exact hu
    · rw [List.mem_singleton.1 hs]; exact hv)
  rw [codeT_two] at C1
  have hl : askC u v = 0 → excA u v = excN u v := fun h => if_pos h
  have hr : askC u v = 0 → excB u v = excL u v := fun h => if_pos h
  have hl0 : askC u v ≠ 0 → excA u v = 0 := fun h => if_neg h
  have hr0 : askC u v ≠ 0 → excB u v = 0 := fun h => if_neg h
  by_cases h0 : askC u v = 0
  · obtain ⟨x0, x1, x2, x3, x4, x5, x6, x7, hs, hb, h4, h5⟩ := row_excess h0
    have C2 := hidv (fun W => lengthRow_any u v x0 x1 x2 x3 x4 x5 x6 x7 W (askC_ok h0).1 hs hb)
    rw [hl h0, hr h0, ← h4, ← h5]
    rw [h0] at C1 ⊢
    obtain ⟨b0, t0⟩ := hb x0 (by simp)
    obtain ⟨b1, t1⟩ := hb x1 (by simp)
    obtain ⟨b2, t2⟩ := hb x2 (by simp)
    obtain ⟨b3, t3⟩ := hb x3 (by simp)
    obtain ⟨z, hz⟩ : ∃ z, x0 + x1 + x2 + x3 = z := ⟨_, rfl⟩
    rw [hz] at C2 ⊢
    have hz1 : -96 ≤ z ∧ z ≤ 96 := by omega
    have hwn : IntKind.i64.wrap (-z) = -z := IntWalk.i64_in _ (by omega)
    have HC1 := hidv C1
    have HB0 := hidv hb0
    clear C1 hl hr hl0 hr0 hrow he hb0 h0 hs hb h4 h5 hz b0 b1 b2 b3 t0 t1 t2 t3
    go_enter Tryd.func8, Tryd.ntmps8
    go_wp2_with fail
    refine HC1.out.mono ?_
    rintro e w1 ⟨rfl, hb1⟩
    have HB1 := hidv (below_on HB0.out hb1)
    clear hb1
    go_wp2_with fail
    refine (C2.out _).mono ?_
    rintro e w2 ⟨rfl, hb2⟩
    have HB2 := hidv (below_on HB1.out hb2)
    clear hb2
    go_wp2_with fail
    go_quiet (fail)
    go_wp2
    go_ret3
    exact ⟨rfl, below_drewN (below_al HB2.out _) _⟩
  · obtain ⟨c, hc⟩ : ∃ x, askC u v = x := ⟨_, rfl⟩
    rw [hl0 h0, hr0 h0]
    rw [hc] at C1 h0 ⊢
    have hne : (c != 0) = true := by rw [bne_iff_ne]; exact h0
    have HC1 := hidv C1
    have HB0 := hidv hb0
    clear C1 hl hr hl0 hr0 hc hrow he hb0 h0
    go_enter Tryd.func8, Tryd.ntmps8
    go_wp2_with fail
    refine HC1.out.mono ?_
    rintro e w1 ⟨rfl, hb1⟩
    have HB1 := hidv (below_on HB0.out hb1)
    clear hb1
    go_wp2_with fail
    go_ret3
    exact ⟨rfl, HB1.out⟩

set_option maxHeartbeats 800000 in
theorem specExcessS_any (u v : ByteArray) (w : World) (hu : u.size ≤ maxLen) (hv : v.size ≤ maxLen) :
    Calls Tryd.prog 7 #[.string u, .string v] w fun e w' => e = .returned (.tuple #[.int .i64 (excA u v), .int .i64 (excB u v), .int .i64 (askC u v)]) ∧ Below w.heap.size w w' := by
  have C1 := fun W => asked_any u v W hu hv
  have hl : askC u v = 0 → excA u v = excN u v := fun h => if_pos h
  have hr : askC u v = 0 → excB u v = excL u v := fun h => if_pos h
  have hl0 : askC u v ≠ 0 → excA u v = 0 := fun h => if_neg h
  have hr0 : askC u v ≠ 0 → excB u v = 0 := fun h => if_neg h
  by_cases h0 : askC u v = 0
  · have C2 := hidv (fun W => specExcess_any u v W (by have := askC_sizes h0; omega) (by have := askC_sizes h0; omega))
    rw [hl h0, hr h0]
    rw [h0] at C1 ⊢
    obtain ⟨a, ha⟩ : ∃ a, excN u v = a := ⟨_, rfl⟩
    obtain ⟨b, hb⟩ : ∃ a, excL u v = a := ⟨_, rfl⟩
    rw [ha, hb] at C2 ⊢
    have HC1 := hidv C1
    clear C1 hl hr hl0 hr0 h0 ha hb
    go_enter Tryd.func7, Tryd.ntmps7
    go_wp2_with fail
    refine (HC1.out _).mono ?_
    rintro e w1 ⟨rfl, rfl⟩
    go_wp2_with fail
    refine (C2.out _).mono ?_
    rintro e w2 ⟨rfl, hb2⟩
    go_wp2_with fail
    go_ret3
    exact ⟨rfl, hb2⟩
  · obtain ⟨c, hc⟩ : ∃ x, askC u v = x := ⟨_, rfl⟩
    rw [hl0 h0, hr0 h0]
    rw [hc] at C1 h0 ⊢
    have hne : (c != 0) = true := by rw [bne_iff_ne]; exact h0
    have HC1 := hidv C1
    clear C1 hl hr hl0 hr0 hc h0
    go_enter Tryd.func7, Tryd.ntmps7
    go_wp2_with fail
    refine (HC1.out _).mono ?_
    rintro e w1 ⟨rfl, rfl⟩
    go_wp2_with fail
    go_ret3
    exact ⟨rfl, Below.refl _ _⟩

set_option maxHeartbeats 800000 in
theorem law_FnExactExcessOf (u v : ByteArray) (w : World) (hu : u.size ≤ maxLen) (hv : v.size ≤ maxLen) (he : EL w) :
    Calls Tryd.prog 4 #[.string u, .string v] w fun e w' => e = .returned (.bool true) ∧ Below w.heap.size w w' := by
  have C1 := hidv (fun W (hW : Below w.heap.size w W) => implExcess_any u v W (he.below hW) hu hv)
  have C2 := hidv (fun W => specExcessS_any u v W hu hv)
  obtain ⟨x, hx⟩ : ∃ x, excA u v = x := ⟨_, rfl⟩
  obtain ⟨y, hy⟩ : ∃ x, excB u v = x := ⟨_, rfl⟩
  obtain ⟨c, hc⟩ : ∃ x, askC u v = x := ⟨_, rfl⟩
  rw [hx, hy, hc] at C1 C2
  have hu0 := hu
  have hv0 := hv
  unfold maxLen at hu0 hv0
  clear hx hy hc he
  by_cases h1 : (1048576 : Int) < (u.size : Int)
  · go_enter Tryd.func4, Tryd.ntmps4
    go_wp2_with fail
    go_ret
    exact ⟨rfl, Below.refl _ _⟩
  by_cases h2 : (1048576 : Int) < (v.size : Int)
  · go_enter Tryd.func4, Tryd.ntmps4
    go_wp2_with fail
    go_ret
    exact ⟨rfl, Below.refl _ _⟩
  go_enter Tryd.func4, Tryd.ntmps4
  go_wp2_with fail
  refine (C2.out _).mono ?_
  rintro e w1 ⟨rfl, hb1⟩
  have HB1 := hidv hb1
  clear hb1
  go_wp2_with fail
  refine (C1.out _ HB1.out).mono ?_
  rintro e w2 ⟨rfl, hb2⟩
  have HB2 := hidv (below_on HB1.out hb2)
  clear hb2
  go_wp2_with fail
  go_ret
  exact ⟨rfl, HB2.out⟩

end Go.Proofs.YthgbfjeemfcnlaaDoor
