/-
  The maps of all letters, in the program: a contract.
-/
import Derived.Test.YtjoleenehdfkkaaSm
namespace Go.Proofs.Ytjoleenehdfkkaa
open Go.RowKit Go
set_option linter.unusedVariables false

theorem range_set {N i x : Nat} {f g : Nat → Nat} (hi : i < N) (hx : g i = x) (h : ∀ j, j < N → j ≠ i → g j = f j) : ((List.range N).map f).set i x = (List.range N).map g := by
  apply List.ext_getElem
  · simp
  · intro j h1 h2
    simp only [List.length_map, List.length_range] at h2
    rw [List.getElem_set]
    split
    · rename_i he; subst he; simp [hx]
    · rename_i he; simp; exact (h j h2 (fun e => he e.symm)).symm
theorem range_at {N i : Nat} (f : Nat → Nat) (hi : i < N) : ((List.range N).map f)[i]? = some (f i) := by
  simp [hi]

/-- Where the letter l leads from the state s; states that there are not lead to themselves. -/
def finM (ns : List (List Int)) (l s : Nat) : Nat := if s < ns.length then ((ns.getD s []).getD l 0).toNat else s
def lmA (ns : List (List Int)) (k : Nat) : List Nat := (List.range 16).map fun i => if i < k * 4 then finM ns (i / 4) (i % 4) else 0
def lmB (ns : List (List Int)) (k q : Nat) : List Nat := (List.range 16).map fun i => if i < k * 4 then finM ns (i / 4) (i % 4) else if i < k * 4 + 4 then (if i < k * 4 + q then ((ns.getD (i - k * 4) []).getD k 0).toNat else i - k * 4) else 0
def lmS (ns : List (List Int)) (k q : Nat) : List Nat := (List.range 16).map fun i => if i < k * 4 then finM ns (i / 4) (i % 4) else if i < k * 4 + q then i - k * 4 else 0
theorem lmS_zero (ns : List (List Int)) (k : Nat) : lmS ns k 0 = lmA ns k := by
  unfold lmS lmA; congr 1; funext i
  by_cases h1 : i < k * 4
  · rw [if_pos h1, if_pos h1]
  · rw [if_neg h1, if_neg h1, if_neg (by omega)]
theorem lmS_set (ns : List (List Int)) (k q : Nat) (hk : k < 4) (hq : q < 4) : (lmS ns k q).set (k * 4 + q) q = lmS ns k (q + 1) := by
  refine range_set (by omega) ?_ ?_
  · rw [if_neg (by omega), if_pos (by omega)]; omega
  · intro j hj hne
    by_cases h1 : j < k * 4
    · rw [if_pos h1, if_pos h1]
    · rw [if_neg h1, if_neg h1]
      by_cases h2 : j < k * 4 + q
      · rw [if_pos h2, if_pos (by omega)]
      · rw [if_neg h2, if_neg (by omega)]
theorem lmS_four (ns : List (List Int)) (k : Nat) : lmS ns k 4 = lmB ns k 0 := by
  unfold lmS lmB; congr 1; funext i
  by_cases h1 : i < k * 4
  · rw [if_pos h1, if_pos h1]
  · rw [if_neg h1, if_neg h1]
    by_cases h2 : i < k * 4 + 4
    · rw [if_pos h2, if_pos h2, if_neg (by omega)]
    · rw [if_neg h2, if_neg h2]
theorem lmB_set (ns : List (List Int)) (k q : Nat) (hk : k < 4) (hq : q < 4) {x : Nat} (hx : ((ns.getD q []).getD k 0).toNat = x) : (lmB ns k q).set (k * 4 + q) x = lmB ns k (q + 1) := by
  refine range_set (by omega) ?_ ?_
  · rw [if_neg (by omega), if_pos (by omega), if_pos (by omega), show k * 4 + q - k * 4 = q by omega]
    exact hx
  · intro j hj hne
    by_cases h1 : j < k * 4
    · rw [if_pos h1, if_pos h1]
    · rw [if_neg h1, if_neg h1]
      by_cases h2 : j < k * 4 + 4
      · rw [if_pos h2, if_pos h2]
        by_cases h3 : j < k * 4 + q
        · rw [if_pos h3, if_pos (by omega)]
        · rw [if_neg h3, if_neg (by omega)]
      · rw [if_neg h2, if_neg h2]
theorem lmB_end (ns : List (List Int)) (k : Nat) : lmB ns k ns.length = lmA ns (k + 1) := by
  unfold lmB lmA; congr 1; funext i
  by_cases h1 : i < k * 4
  · have h4 : i < (k + 1) * 4 := by omega
    simp only [h1, h4, if_true]
  · by_cases h2 : i < k * 4 + 4
    · have h4 : i < (k + 1) * 4 := by omega
      have h5 : i / 4 = k := by omega
      have h6 : i % 4 = i - k * 4 := by omega
      by_cases h3 : i < k * 4 + ns.length
      · have h7 : i - k * 4 < ns.length := by omega
        simp only [h1, h2, h3, h4, h5, h6, h7, if_true, if_false, finM]
      · have h7 : ¬ i - k * 4 < ns.length := by omega
        simp only [h1, h2, h3, h4, h5, h6, h7, if_true, if_false, finM]
    · have h4 : ¬ i < (k + 1) * 4 := by omega
      simp only [h1, h2, h4, if_false]
theorem lmS_get (ns : List (List Int)) (k q j : Nat) (hj : j < 16) : ∃ x, (lmS ns k q)[j]? = some x := ⟨_, range_at _ hj⟩
theorem lmB_get (ns : List (List Int)) (k q j : Nat) (hj : j < 16) : ∃ x, (lmB ns k q)[j]? = some x := ⟨_, range_at _ hj⟩

set_option maxRecDepth 100000 in
set_option maxHeartbeats 3200000 in
theorem letters_any (v : Value) (s : Int) (ns es : List (List Int)) (B : Nat) (w : World) (hv : Bnd w B v s ns es) (hB : B ≤ w.heap.size) (hok : BndOk s ns es) :
    Calls Try.prog 51 #[v] w fun e w' => e = .returned (.agg #[.int .i64 (finM ns 0 0 : Nat), .int .i64 (finM ns 0 1 : Nat), .int .i64 (finM ns 0 2 : Nat), .int .i64 (finM ns 0 3 : Nat), .int .i64 (finM ns 1 0 : Nat), .int .i64 (finM ns 1 1 : Nat), .int .i64 (finM ns 1 2 : Nat), .int .i64 (finM ns 1 3 : Nat), .int .i64 (finM ns 2 0 : Nat), .int .i64 (finM ns 2 1 : Nat), .int .i64 (finM ns 2 2 : Nat), .int .i64 (finM ns 2 3 : Nat), .int .i64 (finM ns 3 0 : Nat), .int .i64 (finM ns 3 1 : Nat), .int .i64 (finM ns 3 2 : Nat), .int .i64 (finM ns 3 3 : Nat)]) ∧ Below w.heap.size w w' := by
  obtain ⟨va, vb, rfl, hv1, hu1⟩ := hv.more hB
  obtain ⟨A, ca, rfl, hA⟩ := hv1.at
  obtain ⟨P, cp, rfl, hP⟩ := hu1.at
  obtain ⟨⟨hn1, hn2⟩, _, _, hrows, _⟩ := hok
  obtain ⟨n, hn⟩ : ∃ n, ns.length = n := ⟨_, rfl⟩
  have HROWS := hidv (show ∀ i (h : i < ns.length), ns[i].length = 4 ∧ ∀ j (h2 : j < ns[i].length), 0 ≤ ns[i][j] ∧ ns[i][j] < 4 from fun i h => ⟨(hrows i h).1, fun j hj => by have := (hrows i h).2 j hj; omega⟩)
  have HA := hidv hA
  have HN := hidv hn
  obtain ⟨m, hm⟩ : ∃ m, es.length = m := ⟨_, rfl⟩
  rw [hn] at hn1 hn2 ⊢
  rw [hm]
  clear hA hP hrows hn hm hv hv1 hu1
  have hb0 := ((Bx.new w 34 #[.int .i64 s, .slice A n ca, .slice P m cp]).alloc (.cells #[.int .i64 0, .int .i64 0, .int .i64 0, .int .i64 0, .int .i64 0, .int .i64 0, .int .i64 0, .int .i64 0, .int .i64 0, .int .i64 0, .int .i64 0, .int .i64 0, .int .i64 0, .int .i64 0, .int .i64 0, .int .i64 0] 84)).alloc (.cells #[.int .i64 0, .int .i64 0, .int .i64 0, .int .i64 0, .int .i64 0, .int .i64 0, .int .i64 0, .int .i64 0, .int .i64 0, .int .i64 0, .int .i64 0, .int .i64 0, .int .i64 0, .int .i64 0, .int .i64 0, .int .i64 0] 84)
  have hz0 := (Bx.new (w.alloc (.cells #[.int .i64 s, .slice A n ca, .slice P m cp] 34)) 84 #[.int .i64 0, .int .i64 0, .int .i64 0, .int .i64 0, .int .i64 0, .int .i64 0, .int .i64 0, .int .i64 0, .int .i64 0, .int .i64 0, .int .i64 0, .int .i64 0, .int .i64 0, .int .i64 0, .int .i64 0, .int .i64 0]).alloc (.cells #[.int .i64 0, .int .i64 0, .int .i64 0, .int .i64 0, .int .i64 0, .int .i64 0, .int .i64 0, .int .i64 0, .int .i64 0, .int .i64 0, .int .i64 0, .int .i64 0, .int .i64 0, .int .i64 0, .int .i64 0, .int .i64 0] 84)
  rw [World.size_alloc] at hz0
  have hx0 := Bx.new ((w.alloc (.cells #[.int .i64 s, .slice A n ca, .slice P m cp] 34)).alloc (.cells #[.int .i64 0, .int .i64 0, .int .i64 0, .int .i64 0, .int .i64 0, .int .i64 0, .int .i64 0, .int .i64 0, .int .i64 0, .int .i64 0, .int .i64 0, .int .i64 0, .int .i64 0, .int .i64 0, .int .i64 0, .int .i64 0] 84)) 84 #[.int .i64 0, .int .i64 0, .int .i64 0, .int .i64 0, .int .i64 0, .int .i64 0, .int .i64 0, .int .i64 0, .int .i64 0, .int .i64 0, .int .i64 0, .int .i64 0, .int .i64 0, .int .i64 0, .int .i64 0, .int .i64 0]
  rw [World.size_alloc, World.size_alloc] at hx0
  have HB0 := hidv (show Below w.heap.size w (((w.alloc (.cells #[.int .i64 s, .slice A n ca, .slice P m cp] 34)).alloc (.cells #[.int .i64 0, .int .i64 0, .int .i64 0, .int .i64 0, .int .i64 0, .int .i64 0, .int .i64 0, .int .i64 0, .int .i64 0, .int .i64 0, .int .i64 0, .int .i64 0, .int .i64 0, .int .i64 0, .int .i64 0, .int .i64 0] 84)).alloc (.cells #[.int .i64 0, .int .i64 0, .int .i64 0, .int .i64 0, .int .i64 0, .int .i64 0, .int .i64 0, .int .i64 0, .int .i64 0, .int .i64 0, .int .i64 0, .int .i64 0, .int .i64 0, .int .i64 0, .int .i64 0, .int .i64 0] 84)) from (((Below.refl _ _).alloc (by simp) _).alloc (by simp) _).alloc (by simp; omega) _)
  have HBX := hidv hb0
  have HZ0 := hidv hz0
  have HX0 := hidv hx0
  clear hb0 hz0 hx0
  go_enter Try.func51, Try.ntmps51
  go_wp2_with fail
  obtain ⟨W, hW⟩ : ∃ W, (((w.alloc (.cells #[.int .i64 s, .slice A n ca, .slice P m cp] 34)).alloc (.cells #[.int .i64 0, .int .i64 0, .int .i64 0, .int .i64 0, .int .i64 0, .int .i64 0, .int .i64 0, .int .i64 0, .int .i64 0, .int .i64 0, .int .i64 0, .int .i64 0, .int .i64 0, .int .i64 0, .int .i64 0, .int .i64 0] 84)).alloc (.cells #[.int .i64 0, .int .i64 0, .int .i64 0, .int .i64 0, .int .i64 0, .int .i64 0, .int .i64 0, .int .i64 0, .int .i64 0, .int .i64 0, .int .i64 0, .int .i64 0, .int .i64 0, .int .i64 0, .int .i64 0, .int .i64 0] 84)) = W := ⟨_, rfl⟩
  rw [hW] at HB0 HBX HZ0 HX0 ⊢
  clear hW
  go_loopw [7] (fun i wr => ∃ k : Nat, k ≤ 4 ∧ i = .int .i64 k ∧ Hid (Bx wr (w.heap.size + 1 + 1) 84 (arrN (lmA ns k))) ∧ Hid (Bx wr (w.heap.size + 1) 84 #[.int .i64 0, .int .i64 0, .int .i64 0, .int .i64 0, .int .i64 0, .int .i64 0, .int .i64 0, .int .i64 0, .int .i64 0, .int .i64 0, .int .i64 0, .int .i64 0, .int .i64 0, .int .i64 0, .int .i64 0, .int .i64 0]) ∧ Hid (Bx wr w.heap.size 34 #[.int .i64 s, .slice A n ca, .slice P m cp]) ∧ Hid (Below w.heap.size w wr)) (fun i _ => 4 - (intOf i).toNat)
  case atStart => exact ⟨0, by omega, rfl, HX0, HZ0, HBX, HB0⟩
  case round =>
    obtain ⟨k, hk, rfl, hbx, hbz, hbb, hbe⟩ := hrel
    by_cases hlt : k < 4
    · have i1 : (0 : Int) ≤ (k : Int) := by omega
      have i2 : (k : Int) < 4 := by omega
      go_wp2_with fail
      refine (staying_any _).mono ?_
      rintro e w1 ⟨rfl, hb1⟩
      have HX1 := hidv (hbx.out.below hb1)
      have HZ1 := hidv (hbz.out.below hb1)
      have HB1 := hidv (hbb.out.below hb1)
      have HW1 := hidv (below_on hbe.out hb1)
      obtain ⟨u0, hu0⟩ := lmS_get ns k 0 (k * 4 + 0) (by omega)
      have c0 : w1.cell? ⟨w.heap.size + 1 + 1, k * 4, none⟩ = some (.int .i64 (u0 : Int)) := by
        rw [HX1.out.cell, ← lmS_zero]
        exact arrN_get _ _ hu0
      have f0 : w1.frozen? ⟨w.heap.size + 1 + 1, k * 4, none⟩ = false := HX1.out.frozen _
      clear hu0
      obtain ⟨u1, hu1⟩ := lmS_get ns k 0 (k * 4 + 1) (by omega)
      have c1 : w1.cell? ⟨w.heap.size + 1 + 1, k * 4 + 1, none⟩ = some (.int .i64 (u1 : Int)) := by
        rw [HX1.out.cell, ← lmS_zero]
        exact arrN_get _ _ hu1
      have f1 : w1.frozen? ⟨w.heap.size + 1 + 1, k * 4 + 1, none⟩ = false := HX1.out.frozen _
      clear hu1
      obtain ⟨u2, hu2⟩ := lmS_get ns k 0 (k * 4 + 2) (by omega)
      have c2 : w1.cell? ⟨w.heap.size + 1 + 1, k * 4 + 2, none⟩ = some (.int .i64 (u2 : Int)) := by
        rw [HX1.out.cell, ← lmS_zero]
        exact arrN_get _ _ hu2
      have f2 : w1.frozen? ⟨w.heap.size + 1 + 1, k * 4 + 2, none⟩ = false := HX1.out.frozen _
      clear hu2
      obtain ⟨u3, hu3⟩ := lmS_get ns k 0 (k * 4 + 3) (by omega)
      have c3 : w1.cell? ⟨w.heap.size + 1 + 1, k * 4 + 3, none⟩ = some (.int .i64 (u3 : Int)) := by
        rw [HX1.out.cell, ← lmS_zero]
        exact arrN_get _ _ hu3
      have f3 : w1.frozen? ⟨w.heap.size + 1 + 1, k * 4 + 3, none⟩ = false := HX1.out.frozen _
      clear hu3
      have hs0 := HX1.out
      rw [← lmS_zero] at hs0
      have hs1 := hs0.set (k * 4) (.int .i64 ((0 : Nat) : Int))
      rw [arrN_set, show k * 4 = k * 4 + 0 from rfl, lmS_set ns k 0 hlt (by omega)] at hs1
      have hs2 := hs1.set (k * 4 + 1) (.int .i64 ((1 : Nat) : Int))
      rw [arrN_set, lmS_set ns k 1 hlt (by omega)] at hs2
      have hs3 := hs2.set (k * 4 + 2) (.int .i64 ((2 : Nat) : Int))
      rw [arrN_set, lmS_set ns k 2 hlt (by omega)] at hs3
      have hs4 := hs3.set (k * 4 + 3) (.int .i64 ((3 : Nat) : Int))
      rw [arrN_set, lmS_set ns k 3 hlt (by omega), lmS_four] at hs4
      obtain ⟨W2, hW2⟩ : ∃ W2, (((w1.setCell ⟨w.heap.size + 1 + 1, k * 4, none⟩ (.int .i64 0)).setCell ⟨w.heap.size + 1 + 1, k * 4 + 1, none⟩ (.int .i64 1)).setCell ⟨w.heap.size + 1 + 1, k * 4 + 2, none⟩ (.int .i64 2)).setCell ⟨w.heap.size + 1 + 1, k * 4 + 3, none⟩ (.int .i64 3) = W2 := ⟨_, rfl⟩
      have HX2 : Hid (Bx W2 (w.heap.size + 1 + 1) 84 (arrN (lmB ns k 0))) := hidv (by rw [← hW2]; exact hs4)
      have HZ2 : Hid (Bx W2 (w.heap.size + 1) 84 #[.int .i64 0, .int .i64 0, .int .i64 0, .int .i64 0, .int .i64 0, .int .i64 0, .int .i64 0, .int .i64 0, .int .i64 0, .int .i64 0, .int .i64 0, .int .i64 0, .int .i64 0, .int .i64 0, .int .i64 0, .int .i64 0]) := hidv (by rw [← hW2]; exact (((HZ1.out.far _ (by simp) _).far _ (by simp) _).far _ (by simp) _).far _ (by simp) _)
      have HB2 : Hid (Bx W2 w.heap.size 34 #[.int .i64 s, .slice A n ca, .slice P m cp]) := hidv (by rw [← hW2]; exact (((HB1.out.far _ (by simp <;> omega) _).far _ (by simp <;> omega) _).far _ (by simp <;> omega) _).far _ (by simp <;> omega) _)
      have HW2 : Hid (Below w.heap.size w W2) := hidv (by rw [← hW2]; exact (((HW1.out.setCell (by simp <;> omega) _).setCell (by simp <;> omega) _).setCell (by simp <;> omega) _).setCell (by simp <;> omega) _)
      clear hb1 hs0 hs1 hs2 hs3 hs4
      obtain ⟨b0, b1, b2⟩ := HB2.out.three
      go_wp2_with fail
      clear hW2
      go_loopw [16] (fun i wr => ∃ q : Nat, q ≤ n ∧ i = .int .i64 q ∧ Hid (Bx wr (w.heap.size + 1 + 1) 84 (arrN (lmB ns k q))) ∧ Hid (Bx wr (w.heap.size + 1) 84 #[.int .i64 0, .int .i64 0, .int .i64 0, .int .i64 0, .int .i64 0, .int .i64 0, .int .i64 0, .int .i64 0, .int .i64 0, .int .i64 0, .int .i64 0, .int .i64 0, .int .i64 0, .int .i64 0, .int .i64 0, .int .i64 0]) ∧ Hid (Bx wr w.heap.size 34 #[.int .i64 s, .slice A n ca, .slice P m cp]) ∧ Hid (Below w.heap.size w wr)) (fun i _ => n - (intOf i).toNat)
      case atStart => exact ⟨0, by omega, rfl, HX2, HZ2, HB2, HW2⟩
      case round =>
        obtain ⟨q, hq, rfl, hqx, hqz, hqb, hqe⟩ := hrel
        by_cases hql : q < n
        · have hqn : q < ns.length := by have := HN.out; omega
          obtain ⟨g, o, rfl, hg, hce⟩ := HA.out (by omega)
          obtain ⟨a, cq, e0, r0⟩ := hce q hqn
          obtain ⟨hl4, hin⟩ := HROWS.out q hqn
          have e1 := (hqe.out.cell (p := ⟨g, o + q, none⟩) hg).trans e0
          have hkl : k < ns[q].length := by omega
          obtain ⟨Ar, cr, hre, hrc⟩ := r0.below hqe.out
          simp only [Value.slice.injEq] at hre
          obtain ⟨rfl, -, rfl⟩ := hre
          obtain ⟨gr, og, rfl, hgr, hcr⟩ := hrc (by simp [ints]; omega)
          have d1 := hcr k _ (map_int_at hkl)
          have hx2 := hin k hkl
          obtain ⟨x, hx⟩ : ∃ x : Nat, ns[q][k] = (x : Int) := ⟨(ns[q][k]).toNat, by omega⟩
          have hgx : ((ns.getD q []).getD k 0).toNat = x := by
            have h1 : ns.getD q [] = ns[q] := by rw [List.getD_eq_getElem?_getD, List.getElem?_eq_getElem hqn]; rfl
            rw [h1, List.getD_eq_getElem?_getD, List.getElem?_eq_getElem hkl]
            simp [hx]
          have HST := hidv (lmB_set ns k q hlt (by omega) hgx)
          obtain ⟨u, hu⟩ := lmB_get ns k q (k * 4 + q) (by omega)
          have c1 : wr.cell? ⟨w.heap.size + 1 + 1, k * 4 + q, none⟩ = some (.int .i64 (u : Int)) := by
            rw [hqx.out.cell]
            exact arrN_get _ _ hu
          have f1 : wr.frozen? ⟨w.heap.size + 1 + 1, k * 4 + q, none⟩ = false := hqx.out.frozen _
          rw [hl4] at e1
          rw [hx] at d1
          have j1 : (0 : Int) ≤ (q : Int) := by omega
          have j2 : (q : Int) < (n : Int) := by omega
          have j3 : (q : Int) < 4 := by omega
          have j4 : (k : Int) < ((ints ns[q]).length : Int) := by simp [ints]; omega
          clear hce e0 r0 hl4 hin hrc hcr hx2 hx hgx hu
          go_wp2_with fail
          go_region
          go_wp2_with fail
          go_roundw
          case rel =>
            refine ⟨q + 1, by omega, by go_num, hidv ?_, hidv (show Bx (wr.setCell _ _) (w.heap.size + 1) 84 _ from hqz.out.far _ (by simp) _), hidv (show Bx (wr.setCell _ _) w.heap.size 34 _ from hqb.out.far _ (by simp <;> omega) _), hidv (Below.drew (hqe.out.setCell (by simp <;> omega) _))⟩
            rw [← HST.out, ← arrN_set]
            exact (show Bx (wr.setCell _ _) (w.heap.size + 1 + 1) 84 _ from hqx.out.set _ _)
          case measure => simp [intOf]; omega
        · have hend := hqx.out
          rw [show q = ns.length by have := HN.out; omega, lmB_end] at hend
          have HEND := hidv hend
          clear hend
          go_wp2_with fail
          go_roundw
          case rel => exact ⟨k + 1, by omega, by go_num, HEND, hqz, hqb, hqe⟩
          case measure => simp [intOf]; omega
    · obtain rfl : k = 4 := by omega
      have hbx2 : Bx wr (w.heap.size + 1 + 1) 84 #[.int .i64 (finM ns 0 0 : Nat), .int .i64 (finM ns 0 1 : Nat), .int .i64 (finM ns 0 2 : Nat), .int .i64 (finM ns 0 3 : Nat), .int .i64 (finM ns 1 0 : Nat), .int .i64 (finM ns 1 1 : Nat), .int .i64 (finM ns 1 2 : Nat), .int .i64 (finM ns 1 3 : Nat), .int .i64 (finM ns 2 0 : Nat), .int .i64 (finM ns 2 1 : Nat), .int .i64 (finM ns 2 2 : Nat), .int .i64 (finM ns 2 3 : Nat), .int .i64 (finM ns 3 0 : Nat), .int .i64 (finM ns 3 1 : Nat), .int .i64 (finM ns 3 2 : Nat), .int .i64 (finM ns 3 3 : Nat)] := hbx.out
      have hbz2 := hbz.out
      have y0 : wr.cell? ⟨w.heap.size + 1 + 1, 0, none⟩ = some (.int .i64 (finM ns 0 0 : Nat)) := hbx2.cell 0
      have y1 : wr.cell? ⟨w.heap.size + 1 + 1, 1, none⟩ = some (.int .i64 (finM ns 0 1 : Nat)) := hbx2.cell 1
      have y2 : wr.cell? ⟨w.heap.size + 1 + 1, 2, none⟩ = some (.int .i64 (finM ns 0 2 : Nat)) := hbx2.cell 2
      have y3 : wr.cell? ⟨w.heap.size + 1 + 1, 3, none⟩ = some (.int .i64 (finM ns 0 3 : Nat)) := hbx2.cell 3
      have y4 : wr.cell? ⟨w.heap.size + 1 + 1, 4, none⟩ = some (.int .i64 (finM ns 1 0 : Nat)) := hbx2.cell 4
      have y5 : wr.cell? ⟨w.heap.size + 1 + 1, 5, none⟩ = some (.int .i64 (finM ns 1 1 : Nat)) := hbx2.cell 5
      have y6 : wr.cell? ⟨w.heap.size + 1 + 1, 6, none⟩ = some (.int .i64 (finM ns 1 2 : Nat)) := hbx2.cell 6
      have y7 : wr.cell? ⟨w.heap.size + 1 + 1, 7, none⟩ = some (.int .i64 (finM ns 1 3 : Nat)) := hbx2.cell 7
      have y8 : wr.cell? ⟨w.heap.size + 1 + 1, 8, none⟩ = some (.int .i64 (finM ns 2 0 : Nat)) := hbx2.cell 8
      have y9 : wr.cell? ⟨w.heap.size + 1 + 1, 9, none⟩ = some (.int .i64 (finM ns 2 1 : Nat)) := hbx2.cell 9
      have y10 : wr.cell? ⟨w.heap.size + 1 + 1, 10, none⟩ = some (.int .i64 (finM ns 2 2 : Nat)) := hbx2.cell 10
      have y11 : wr.cell? ⟨w.heap.size + 1 + 1, 11, none⟩ = some (.int .i64 (finM ns 2 3 : Nat)) := hbx2.cell 11
      have y12 : wr.cell? ⟨w.heap.size + 1 + 1, 12, none⟩ = some (.int .i64 (finM ns 3 0 : Nat)) := hbx2.cell 12
      have y13 : wr.cell? ⟨w.heap.size + 1 + 1, 13, none⟩ = some (.int .i64 (finM ns 3 1 : Nat)) := hbx2.cell 13
      have y14 : wr.cell? ⟨w.heap.size + 1 + 1, 14, none⟩ = some (.int .i64 (finM ns 3 2 : Nat)) := hbx2.cell 14
      have y15 : wr.cell? ⟨w.heap.size + 1 + 1, 15, none⟩ = some (.int .i64 (finM ns 3 3 : Nat)) := hbx2.cell 15
      have z0 : wr.cell? ⟨w.heap.size + 1, 0, none⟩ = some (.int .i64 0) := hbz2.cell 0
      have f0 : wr.frozen? ⟨w.heap.size + 1, 0, none⟩ = false := hbz2.frozen 0
      have z1 : wr.cell? ⟨w.heap.size + 1, 1, none⟩ = some (.int .i64 0) := hbz2.cell 1
      have f1 : wr.frozen? ⟨w.heap.size + 1, 1, none⟩ = false := hbz2.frozen 1
      have z2 : wr.cell? ⟨w.heap.size + 1, 2, none⟩ = some (.int .i64 0) := hbz2.cell 2
      have f2 : wr.frozen? ⟨w.heap.size + 1, 2, none⟩ = false := hbz2.frozen 2
      have z3 : wr.cell? ⟨w.heap.size + 1, 3, none⟩ = some (.int .i64 0) := hbz2.cell 3
      have f3 : wr.frozen? ⟨w.heap.size + 1, 3, none⟩ = false := hbz2.frozen 3
      have z4 : wr.cell? ⟨w.heap.size + 1, 4, none⟩ = some (.int .i64 0) := hbz2.cell 4
      have f4 : wr.frozen? ⟨w.heap.size + 1, 4, none⟩ = false := hbz2.frozen 4
      have z5 : wr.cell? ⟨w.heap.size + 1, 5, none⟩ = some (.int .i64 0) := hbz2.cell 5
      have f5 : wr.frozen? ⟨w.heap.size + 1, 5, none⟩ = false := hbz2.frozen 5
      have z6 : wr.cell? ⟨w.heap.size + 1, 6, none⟩ = some (.int .i64 0) := hbz2.cell 6
      have f6 : wr.frozen? ⟨w.heap.size + 1, 6, none⟩ = false := hbz2.frozen 6
      have z7 : wr.cell? ⟨w.heap.size + 1, 7, none⟩ = some (.int .i64 0) := hbz2.cell 7
      have f7 : wr.frozen? ⟨w.heap.size + 1, 7, none⟩ = false := hbz2.frozen 7
      have z8 : wr.cell? ⟨w.heap.size + 1, 8, none⟩ = some (.int .i64 0) := hbz2.cell 8
      have f8 : wr.frozen? ⟨w.heap.size + 1, 8, none⟩ = false := hbz2.frozen 8
      have z9 : wr.cell? ⟨w.heap.size + 1, 9, none⟩ = some (.int .i64 0) := hbz2.cell 9
      have f9 : wr.frozen? ⟨w.heap.size + 1, 9, none⟩ = false := hbz2.frozen 9
      have z10 : wr.cell? ⟨w.heap.size + 1, 10, none⟩ = some (.int .i64 0) := hbz2.cell 10
      have f10 : wr.frozen? ⟨w.heap.size + 1, 10, none⟩ = false := hbz2.frozen 10
      have z11 : wr.cell? ⟨w.heap.size + 1, 11, none⟩ = some (.int .i64 0) := hbz2.cell 11
      have f11 : wr.frozen? ⟨w.heap.size + 1, 11, none⟩ = false := hbz2.frozen 11
      have z12 : wr.cell? ⟨w.heap.size + 1, 12, none⟩ = some (.int .i64 0) := hbz2.cell 12
      have f12 : wr.frozen? ⟨w.heap.size + 1, 12, none⟩ = false := hbz2.frozen 12
      have z13 : wr.cell? ⟨w.heap.size + 1, 13, none⟩ = some (.int .i64 0) := hbz2.cell 13
      have f13 : wr.frozen? ⟨w.heap.size + 1, 13, none⟩ = false := hbz2.frozen 13
      have z14 : wr.cell? ⟨w.heap.size + 1, 14, none⟩ = some (.int .i64 0) := hbz2.cell 14
      have f14 : wr.frozen? ⟨w.heap.size + 1, 14, none⟩ = false := hbz2.frozen 14
      have z15 : wr.cell? ⟨w.heap.size + 1, 15, none⟩ = some (.int .i64 0) := hbz2.cell 15
      have f15 : wr.frozen? ⟨w.heap.size + 1, 15, none⟩ = false := hbz2.frozen 15
      have HF := hidv ((((((((((((((((hbz2.set 0 (.int .i64 (finM ns 0 0 : Nat))).set 1 (.int .i64 (finM ns 0 1 : Nat))).set 2 (.int .i64 (finM ns 0 2 : Nat))).set 3 (.int .i64 (finM ns 0 3 : Nat))).set 4 (.int .i64 (finM ns 1 0 : Nat))).set 5 (.int .i64 (finM ns 1 1 : Nat))).set 6 (.int .i64 (finM ns 1 2 : Nat))).set 7 (.int .i64 (finM ns 1 3 : Nat))).set 8 (.int .i64 (finM ns 2 0 : Nat))).set 9 (.int .i64 (finM ns 2 1 : Nat))).set 10 (.int .i64 (finM ns 2 2 : Nat))).set 11 (.int .i64 (finM ns 2 3 : Nat))).set 12 (.int .i64 (finM ns 3 0 : Nat))).set 13 (.int .i64 (finM ns 3 1 : Nat))).set 14 (.int .i64 (finM ns 3 2 : Nat))).set 15 (.int .i64 (finM ns 3 3 : Nat)))
      have E0 := hidv (HF.out.cell 0)
      have E1 := hidv (HF.out.cell 1)
      have E2 := hidv (HF.out.cell 2)
      have E3 := hidv (HF.out.cell 3)
      have E4 := hidv (HF.out.cell 4)
      have E5 := hidv (HF.out.cell 5)
      have E6 := hidv (HF.out.cell 6)
      have E7 := hidv (HF.out.cell 7)
      have E8 := hidv (HF.out.cell 8)
      have E9 := hidv (HF.out.cell 9)
      have E10 := hidv (HF.out.cell 10)
      have E11 := hidv (HF.out.cell 11)
      have E12 := hidv (HF.out.cell 12)
      have E13 := hidv (HF.out.cell 13)
      have E14 := hidv (HF.out.cell 14)
      have E15 := hidv (HF.out.cell 15)
      clear hbx2
      go_wp2_with fail
      refine bodyPost_ret (v := .agg #[.int .i64 (finM ns 0 0 : Nat), .int .i64 (finM ns 0 1 : Nat), .int .i64 (finM ns 0 2 : Nat), .int .i64 (finM ns 0 3 : Nat), .int .i64 (finM ns 1 0 : Nat), .int .i64 (finM ns 1 1 : Nat), .int .i64 (finM ns 1 2 : Nat), .int .i64 (finM ns 1 3 : Nat), .int .i64 (finM ns 2 0 : Nat), .int .i64 (finM ns 2 1 : Nat), .int .i64 (finM ns 2 2 : Nat), .int .i64 (finM ns 2 3 : Nat), .int .i64 (finM ns 3 0 : Nat), .int .i64 (finM ns 3 1 : Nat), .int .i64 (finM ns 3 2 : Nat), .int .i64 (finM ns 3 3 : Nat)]) ?_ rfl ⟨rfl, ?_⟩
      · simp [results, Try.results51, go_sem, E0.out, E1.out, E2.out, E3.out, E4.out, E5.out, E6.out, E7.out, E8.out, E9.out, E10.out, E11.out, E12.out, E13.out, E14.out, E15.out]
      · exact ((((((((((((((((hbe.out.setCell (by simp <;> omega) _).setCell (by simp <;> omega) _).setCell (by simp <;> omega) _).setCell (by simp <;> omega) _).setCell (by simp <;> omega) _).setCell (by simp <;> omega) _).setCell (by simp <;> omega) _).setCell (by simp <;> omega) _).setCell (by simp <;> omega) _).setCell (by simp <;> omega) _).setCell (by simp <;> omega) _).setCell (by simp <;> omega) _).setCell (by simp <;> omega) _).setCell (by simp <;> omega) _).setCell (by simp <;> omega) _).setCell (by simp <;> omega) _)

end Go.Proofs.Ytjoleenehdfkkaa
