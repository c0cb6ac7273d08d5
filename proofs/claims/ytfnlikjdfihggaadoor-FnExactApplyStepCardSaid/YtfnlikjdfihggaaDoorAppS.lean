/-
  What a step leads to, as the model has it: contracts.
-/
import Derived.Test.YtfnlikjdfihggaaDoorApp
import Derived.Deep.QuietTactic
import Derived.BigQuiet
namespace Go.Proofs.YtfnlikjdfihggaaDoor
open Go.RowKit Go
set_option linter.unusedVariables false

theorem lo_name {k : Nat} (h : k < 4) : (nmB k).size = 1 ∧ ∀ hp : 0 < (nmB k).size, ((nmB k)[0].toNat : Int) = ((nmC k).toNat : Int) := by
  rcases nm_four h with rfl | rfl | rfl | rfl <;> exact ⟨rfl, fun _ => rfl⟩

/-- As the model answers it: the stripped equation behind, and whether it fits. -/
def laV (c : UInt8) (y l r : ByteArray) : Value :=
  if fitE (rpE c y (l, r)) then .tuple #[.agg #[.string ⟨⟨(strip2 (repL c y.data.toList l.data.toList) (repL c y.data.toList r.data.toList)).1⟩⟩, .string ⟨⟨(strip2 (repL c y.data.toList l.data.toList) (repL c y.data.toList r.data.toList)).2⟩⟩], .bool true]
  else .tuple #[.agg #[.string ⟨#[]⟩, .string ⟨#[]⟩], .bool false]

set_option maxHeartbeats 1600000 in
theorem specApplied_any (l r y : ByteArray) (k : Nat) (w : World) (h : eqnB l r = true) (hk : k < 4) (hys : y.size ≤ 24) :
    Calls Tryd.prog 46 #[.agg #[.string l, .string r], .agg #[.int .i64 (k : Int), .string y]] w fun e w' => e = .returned (laV (nmC k) y ⟨⟨(strip2 l.data.toList r.data.toList).1⟩⟩ ⟨⟨(strip2 l.data.toList r.data.toList).2⟩⟩) ∧ Below w.heap.size w w' := by
  have hst := strip_terms h
  have hlr := eqnB_24a h
  have hst24 := eqnB_24a hst
  have c1 := fun W => specStrip_any l r W (by omega) (by omega)
  have c2 := fun W => specName_any k hk W
  obtain ⟨P, hP⟩ : ∃ p : ByteArray, ⟨⟨(strip2 l.data.toList r.data.toList).1⟩⟩ = p := ⟨_, rfl⟩
  obtain ⟨Q, hQ⟩ : ∃ p : ByteArray, ⟨⟨(strip2 l.data.toList r.data.toList).2⟩⟩ = p := ⟨_, rfl⟩
  rw [hP, hQ] at c1 hst24 ⊢
  obtain ⟨hn1, hn2⟩ := lo_name hk
  have c3 := fun W => specReplace_any P y (nmC k) W hst24.1 hys
  have c4 := fun W => specReplace_any Q y (nmC k) W hst24.2 hys
  obtain ⟨n, hn⟩ : ∃ n, nmB k = n := ⟨_, rfl⟩
  rw [hn] at c2 hn1 hn2
  have hp : 0 < n.size := by omega
  have hn2' := hn2 hp
  rw [← hn2'] at c3 c4
  have C1 := hidv c1
  have C2 := hidv c2
  have C3 := hidv c3
  have C4 := hidv c4
  clear c1 c2 c3 c4 hst hP hQ hn hn2 hn2' h
  unfold laV
  rw [fitE_pair]
  have hLl := repL_bound (nmC k) y.data.toList P.data.toList
  have hRl := repL_bound (nmC k) y.data.toList Q.data.toList
  obtain ⟨lL, hlL⟩ : ∃ l, repL (nmC k) y.data.toList P.data.toList = l := ⟨_, rfl⟩
  obtain ⟨lR, hlR⟩ : ∃ l, repL (nmC k) y.data.toList Q.data.toList = l := ⟨_, rfl⟩
  rw [hlL] at C3 hLl
  rw [hlR] at C4 hRl
  rw [hlL, hlR]
  obtain ⟨L, hL⟩ : ∃ L : ByteArray, ⟨⟨lL⟩⟩ = L := ⟨_, rfl⟩
  obtain ⟨R, hR⟩ : ∃ L : ByteArray, ⟨⟨lR⟩⟩ = L := ⟨_, rfl⟩
  have eL : lL = L.data.toList := by rw [← hL]
  have eR : lR = R.data.toList := by rw [← hR]
  rw [hL] at C3
  rw [hR] at C4
  have zL : L.data.toList.length = L.size := by simp
  have zR : R.data.toList.length = R.size := by simp
  rw [eL, eR, zL, zR]
  rw [eL, zL] at hLl
  rw [eR, zR] at hRl
  have c5 := fun (hf : L.size ≤ 24 ∧ R.size ≤ 24) W => specStrip_any L R W (by omega) (by omega)
  obtain ⟨U, hU⟩ : ∃ p : ByteArray, ⟨⟨(strip2 L.data.toList R.data.toList).1⟩⟩ = p := ⟨_, rfl⟩
  obtain ⟨V, hV⟩ : ∃ p : ByteArray, ⟨⟨(strip2 L.data.toList R.data.toList).2⟩⟩ = p := ⟨_, rfl⟩
  rw [hU, hV] at c5 ⊢
  have C5 := hidv c5
  clear c5 hL hR eL eR hlL hlR zL zR hU hV
  have hLb : L.size ≤ 600 := by
    have h2 : y.data.toList.length = y.size := by simp
    have h3 : P.data.toList.length = P.size := by simp
    rw [h2, h3] at hLl
    have := Nat.mul_le_mul hst24.1 (show y.size + 1 ≤ 25 by omega)
    omega
  have hRb : R.size ≤ 600 := by
    have h2 : y.data.toList.length = y.size := by simp
    have h3 : Q.data.toList.length = Q.size := by simp
    rw [h2, h3] at hRl
    have := Nat.mul_le_mul hst24.2 (show y.size + 1 ≤ 25 by omega)
    omega
  clear hLl hRl
  obtain ⟨v, hv⟩ : ∃ v : Value, (if (decide (L.size ≤ 24) && decide (R.size ≤ 24)) = true then Value.tuple #[.agg #[.string U, .string V], .bool true] else .tuple #[.agg #[.string ⟨#[]⟩, .string ⟨#[]⟩], .bool false]) = v := ⟨_, rfl⟩
  rw [hv]
  have HVy := hidv (fun (hf : L.size ≤ 24 ∧ R.size ≤ 24) => (show v = .tuple #[.agg #[.string U, .string V], .bool true] by rw [← hv, decide_eq_true hf.1, decide_eq_true hf.2]; rfl))
  have HVn := hidv (fun (hf : ¬ (L.size ≤ 24 ∧ R.size ≤ 24)) => (show v = .tuple #[.agg #[.string ⟨#[]⟩, .string ⟨#[]⟩], .bool false] by
    rw [← hv, if_neg]
    rw [Bool.and_eq_true, decide_eq_true_eq, decide_eq_true_eq]
    exact hf))
  clear hv
  go_enter Tryd.func46, Tryd.ntmps46
  go_wp2_with fail
  obtain ⟨w0, hw0⟩ : ∃ w0, w0 = ((w.alloc (.cells #[.string l, .string r] 25)).alloc (.cells #[.int .i64 (k : Int), .string y] 33)).alloc (.cells #[.string ⟨#[]⟩, .string ⟨#[]⟩] 25) := ⟨_, rfl⟩
  rw [← hw0]
  have hE : Bx w0 w.heap.size 25 #[.string l, .string r] := by rw [hw0]; exact ((Bx.new _ _ _).alloc _).alloc _
  have hS : Bx w0 (w.heap.size + 1) 33 #[.int .i64 (k : Int), .string y] := by
    rw [hw0]
    have := (Bx.new (w.alloc (.cells #[.string l, .string r] 25)) 33 #[.int .i64 (k : Int), .string y]).alloc (.cells #[.string ⟨#[]⟩, .string ⟨#[]⟩] 25)
    rw [World.size_alloc] at this
    exact this
  have hR : Bx w0 (w.heap.size + 1 + 1) 25 #[.string ⟨#[]⟩, .string ⟨#[]⟩] := by
    rw [hw0]
    have := Bx.new ((w.alloc (.cells #[.string l, .string r] 25)).alloc (.cells #[.int .i64 (k : Int), .string y] 33)) 25 #[.string ⟨#[]⟩, .string ⟨#[]⟩]
    rw [World.size_alloc, World.size_alloc] at this
    exact this
  have hB0 : Below w.heap.size w w0 := by rw [hw0]; exact (((Below.refl _ _).alloc (Nat.le_refl _) _).alloc (by simp) _).alloc (by simp; omega) _
  clear hw0
  refine (C1.out _).mono ?_
  rintro e w1 ⟨rfl, hb1⟩
  have HB1 := hidv (below_on hB0 hb1)
  have hE1 := hE.below hb1
  have hS1 := hS.below hb1
  have hR1 := hR.below hb1
  obtain ⟨e0, e1⟩ := hE1.two
  have z0 := hE1.frozen 0
  have z1 := hE1.frozen 1
  have hE2 := (hE1.set 0 (.string P)).set 1 (.string Q)
  have hS2 := (hS1.far ⟨w.heap.size, 0, none⟩ (by simp) (.string P)).far ⟨w.heap.size, 1, none⟩ (by simp) (.string Q)
  have hR2 := (hR1.far ⟨w.heap.size, 0, none⟩ (by simp; omega) (.string P)).far ⟨w.heap.size, 1, none⟩ (by simp; omega) (.string Q)
  have hB2 := (HB1.out.setCell (p := ⟨w.heap.size, 0, none⟩) (Nat.le_refl _) (.string P)).setCell (p := ⟨w.heap.size, 1, none⟩) (Nat.le_refl _) (.string Q)
  have HE2 := hidv hE2
  have HST2 := hidv hS2
  have HR2 := hidv hR2
  have HB2 := hidv hB2
  clear hE hS hR hb1 hE1 hS1 hR1 hE2 hS2 hR2 hB2 hB0
  obtain ⟨s0, s1⟩ := HST2.out.two
  go_wp2_with fail
  generalize hw2 : ((w1.setCell ⟨w.heap.size, 0, none⟩ (.string P)).setCell ⟨w.heap.size, 1, none⟩ (.string Q)) = w2 at HE2 HST2 HR2 HB2 s0 s1 ⊢
  clear hw2 e0 e1 z0 z1
  obtain ⟨e0, e1⟩ := HE2.out.two
  refine (C2.out _).mono ?_
  rintro e wz ⟨rfl, rfl⟩
  have i0 : (0 : Int) < (n.size : Int) := by omega
  have HS := hidv (fun w' (hw : Below wz.heap.size wz w') => (show w'.cell? ⟨w.heap.size, 0, none⟩ = some (.string P) ∧ w'.cell? ⟨w.heap.size, 1, none⟩ = some (.string Q) ∧ w'.cell? ⟨w.heap.size + 1, 0, none⟩ = some (.int .i64 (k : Int)) ∧ w'.cell? ⟨w.heap.size + 1, 1, none⟩ = some (.string y) ∧ Below wz.heap.size wz w' from ⟨(HE2.out.below hw).two.1, (HE2.out.below hw).two.2, (HST2.out.below hw).two.1, (HST2.out.below hw).two.2, hw⟩))
  go_wp2_with fail
  go_region_held3 (fun w' => w'.cell? ⟨w.heap.size, 0, none⟩ = some (.string P) ∧ w'.cell? ⟨w.heap.size, 1, none⟩ = some (.string Q) ∧ w'.cell? ⟨w.heap.size + 1, 0, none⟩ = some (.int .i64 (k : Int)) ∧ w'.cell? ⟨w.heap.size + 1, 1, none⟩ = some (.string y) ∧ Below wz.heap.size wz w') (exact HS.out _ (by repeat (first | assumption | exact Below.refl _ _ | refine Below.drew ?_ | refine below_al ?_ _ | refine below_st0 ?_ (by first | assumption | exact Below.refl _ _) _ _))) (first | (go_at_call 85; (first | (with_reducible refine (C3.out _).mono ?_) | (with_reducible refine (C4.out _).mono ?_)); rintro e w3 ⟨rfl, rfl⟩))
  all_goals
    generalize hw4 : (wz.alloc (Obj.cells #[Value.string L, Value.string R] 25)).drew = w4
    have hbz : Below wz.heap.size wz w4 := by rw [← hw4]; exact Below.drew ((Below.refl _ _).alloc (Nat.le_refl _) _)
    have HO := hidv (show Bx w4 wz.heap.size 25 #[.string L, .string R] by rw [← hw4]; exact (Bx.new wz _ _).below (below_dr _))
    have HR4 := hidv (HR2.out.below hbz)
    have HB4 := hidv (below_on HB2.out hbz)
    clear hbz hw4
    obtain ⟨o0, o1⟩ := HO.out.two
    obtain ⟨x0, x1⟩ := HR4.out.two
    have z0 := HR4.out.frozen 0
    have z1 := HR4.out.frozen 1
    have F0 := hidv (((HR4.out.set 0 (.string ⟨#[]⟩)).set 1 (.string ⟨#[]⟩)).cell 0)
    have F1 := hidv (((HR4.out.set 0 (.string ⟨#[]⟩)).set 1 (.string ⟨#[]⟩)).cell 1)
    by_cases hfL : L.size ≤ 24
    · by_cases hfR : R.size ≤ 24
      · obtain rfl := HVy.out ⟨hfL, hfR⟩
        go_wp2_with fail
        refine (C5.out ⟨hfL, hfR⟩ _).mono ?_
        rintro e w5 ⟨rfl, hb5⟩
        have HB5 := hidv (below_on HB4.out hb5)
        have hR5 := HR4.out.below hb5
        clear hb5 x0 x1 z0 z1 F0 F1
        obtain ⟨x0, x1⟩ := hR5.two
        have z0 := hR5.frozen 0
        have z1 := hR5.frozen 1
        have F0 := hidv (((hR5.set 0 (.string U)).set 1 (.string V)).cell 0)
        have F1 := hidv (((hR5.set 0 (.string U)).set 1 (.string V)).cell 1)
        clear hR5
        go_wp2_with fail
        refine bodyPost_ret (v := .tuple #[.agg #[.string U, .string V], .bool true]) ?_ rfl ⟨rfl, ?_⟩
        · simp [results, Tryd.results46, go_sem, F0.out, F1.out]
        · exact (HB5.out.setCell (by simp; omega) _).setCell (by simp; omega) _
      · obtain rfl := HVn.out (fun h => hfR h.2)
        go_wp2_with fail
        refine bodyPost_ret (v := .tuple #[.agg #[.string ⟨#[]⟩, .string ⟨#[]⟩], .bool false]) ?_ rfl ⟨rfl, ?_⟩
        · simp [results, Tryd.results46, go_sem, F0.out, F1.out]
        · exact (HB4.out.setCell (by simp; omega) _).setCell (by simp; omega) _
    · obtain rfl := HVn.out (fun h => hfL h.1)
      go_wp2_with fail
      refine bodyPost_ret (v := .tuple #[.agg #[.string ⟨#[]⟩, .string ⟨#[]⟩], .bool false]) ?_ rfl ⟨rfl, ?_⟩
      · simp [results, Tryd.results46, go_sem, F0.out, F1.out]
      · exact (HB4.out.setCell (by simp; omega) _).setCell (by simp; omega) _

theorem laV_form (c : UInt8) (y l r : ByteArray) : ∃ (p q : ByteArray) (b : Bool), laV c y l r = .tuple #[.agg #[.string p, .string q], .bool b] ∧ apV c y l r = .tuple #[.agg #[.string p, .string q], .int .i64 (if b then 0 else 3)] ∧ (b = false → p = ⟨#[]⟩ ∧ q = ⟨#[]⟩) := by
  unfold laV apV
  split
  · exact ⟨_, _, true, rfl, rfl, fun h => by cases h⟩
  · exact ⟨_, _, false, rfl, rfl, fun _ => ⟨rfl, rfl⟩⟩

set_option maxHeartbeats 1600000 in
theorem specApply_any (l r : ByteArray) (x : Int) (y : ByteArray) (w : World) (hl : l.size ≤ maxLen) (hr : r.size ≤ maxLen) (hy : y.size ≤ maxLen) :
    Calls Tryd.prog 15 #[.agg #[.string l, .string r], .agg #[.int .i64 x, .string y]] w fun e w' => e = .returned (asV l r x y) ∧ Below w.heap.size w w' := by
  have c1 := fun W => specOk_any l r W hl hr
  have c2 := fun W => specStep_any x y W hy
  unfold asV
  cases hb : eqnB l r
  · rw [hb] at c1
    have C1 := hidv c1
    clear c1 c2 hb
    go_enter Tryd.func15, Tryd.ntmps15
    go_wp2_with fail
    obtain ⟨w0, hw0⟩ : ∃ w0, w0 = ((w.alloc (.cells #[.string l, .string r] 25)).alloc (.cells #[.int .i64 x, .string y] 33)).alloc (.cells #[.string ⟨#[]⟩, .string ⟨#[]⟩] 25) := ⟨_, rfl⟩
    rw [← hw0]
    have hE : Bx w0 w.heap.size 25 #[.string l, .string r] := by rw [hw0]; exact ((Bx.new _ _ _).alloc _).alloc _
    have hS : Bx w0 (w.heap.size + 1) 33 #[.int .i64 x, .string y] := by
      rw [hw0]
      have := (Bx.new (w.alloc (.cells #[.string l, .string r] 25)) 33 #[.int .i64 x, .string y]).alloc (.cells #[.string ⟨#[]⟩, .string ⟨#[]⟩] 25)
      rw [World.size_alloc] at this
      exact this
    have hR : Bx w0 (w.heap.size + 1 + 1) 25 #[.string ⟨#[]⟩, .string ⟨#[]⟩] := by
      rw [hw0]
      have := Bx.new ((w.alloc (.cells #[.string l, .string r] 25)).alloc (.cells #[.int .i64 x, .string y] 33)) 25 #[.string ⟨#[]⟩, .string ⟨#[]⟩]
      rw [World.size_alloc, World.size_alloc] at this
      exact this
    have hB0 : Below w.heap.size w w0 := by rw [hw0]; exact (((Below.refl _ _).alloc (Nat.le_refl _) _).alloc (by simp) _).alloc (by simp; omega) _
    clear hw0
    refine (C1.out _).mono ?_
    rintro e w1 ⟨rfl, hb1⟩
    have HE1 := hidv (hE.below hb1)
    have HST1 := hidv (hS.below hb1)
    have HR1 := hidv (hR.below hb1)
    have HB1 := hidv (below_on hB0 hb1)
    obtain ⟨e0, e1⟩ := HE1.out.two
    obtain ⟨s0, s1⟩ := HST1.out.two
    obtain ⟨x0, x1⟩ := HR1.out.two
    have z0 := HR1.out.frozen 0
    have z1 := HR1.out.frozen 1
    have F0 := hidv (((HR1.out.set 0 (.string ⟨#[]⟩)).set 1 (.string ⟨#[]⟩)).cell 0)
    have F1 := hidv (((HR1.out.set 0 (.string ⟨#[]⟩)).set 1 (.string ⟨#[]⟩)).cell 1)
    clear hE hS hR hB0 hb1
    go_wp2_with fail
    refine bodyPost_ret (v := .tuple #[.agg #[.string ⟨#[]⟩, .string ⟨#[]⟩], .int .i64 1]) ?_ rfl ⟨rfl, ?_⟩
    · simp [results, Tryd.results15, go_sem, F0.out, F1.out]
    · exact (HB1.out.setCell (by simp; omega) _).setCell (by simp; omega) _
  rw [hb] at c1
  cases hs : stepB x y.data.toList
  · rw [hs] at c2
    have C1 := hidv c1
    have C2 := hidv c2
    clear c1 c2 hb hs
    go_enter Tryd.func15, Tryd.ntmps15
    go_wp2_with fail
    obtain ⟨w0, hw0⟩ : ∃ w0, w0 = ((w.alloc (.cells #[.string l, .string r] 25)).alloc (.cells #[.int .i64 x, .string y] 33)).alloc (.cells #[.string ⟨#[]⟩, .string ⟨#[]⟩] 25) := ⟨_, rfl⟩
    rw [← hw0]
    have hE : Bx w0 w.heap.size 25 #[.string l, .string r] := by rw [hw0]; exact ((Bx.new _ _ _).alloc _).alloc _
    have hS : Bx w0 (w.heap.size + 1) 33 #[.int .i64 x, .string y] := by
      rw [hw0]
      have := (Bx.new (w.alloc (.cells #[.string l, .string r] 25)) 33 #[.int .i64 x, .string y]).alloc (.cells #[.string ⟨#[]⟩, .string ⟨#[]⟩] 25)
      rw [World.size_alloc] at this
      exact this
    have hR : Bx w0 (w.heap.size + 1 + 1) 25 #[.string ⟨#[]⟩, .string ⟨#[]⟩] := by
      rw [hw0]
      have := Bx.new ((w.alloc (.cells #[.string l, .string r] 25)).alloc (.cells #[.int .i64 x, .string y] 33)) 25 #[.string ⟨#[]⟩, .string ⟨#[]⟩]
      rw [World.size_alloc, World.size_alloc] at this
      exact this
    have hB0 : Below w.heap.size w w0 := by rw [hw0]; exact (((Below.refl _ _).alloc (Nat.le_refl _) _).alloc (by simp) _).alloc (by simp; omega) _
    clear hw0
    refine (C1.out _).mono ?_
    rintro e w1 ⟨rfl, hb1⟩
    have HE1 := hidv (hE.below hb1)
    have HST1 := hidv (hS.below hb1)
    have HR1 := hidv (hR.below hb1)
    have HB1 := hidv (below_on hB0 hb1)
    obtain ⟨e0, e1⟩ := HE1.out.two
    obtain ⟨s0, s1⟩ := HST1.out.two
    obtain ⟨x0, x1⟩ := HR1.out.two
    have z0 := HR1.out.frozen 0
    have z1 := HR1.out.frozen 1
    have F0 := hidv (((HR1.out.set 0 (.string ⟨#[]⟩)).set 1 (.string ⟨#[]⟩)).cell 0)
    have F1 := hidv (((HR1.out.set 0 (.string ⟨#[]⟩)).set 1 (.string ⟨#[]⟩)).cell 1)
    clear hE hS hR hB0 hb1
    go_wp2_with fail
    refine (C2.out _).mono ?_
    rintro e w2 ⟨rfl, hb2⟩
    have HB2 := hidv (below_on HB1.out hb2)
    have hR2 := HR1.out.below hb2
    clear hb2 x0 x1 z0 z1 F0 F1 e0 e1 s0 s1
    obtain ⟨x0, x1⟩ := hR2.two
    have z0 := hR2.frozen 0
    have z1 := hR2.frozen 1
    have F0 := hidv (((hR2.set 0 (.string ⟨#[]⟩)).set 1 (.string ⟨#[]⟩)).cell 0)
    have F1 := hidv (((hR2.set 0 (.string ⟨#[]⟩)).set 1 (.string ⟨#[]⟩)).cell 1)
    clear hR2
    go_wp2_with fail
    refine bodyPost_ret (v := .tuple #[.agg #[.string ⟨#[]⟩, .string ⟨#[]⟩], .int .i64 1]) ?_ rfl ⟨rfl, ?_⟩
    · simp [results, Tryd.results15, go_sem, F0.out, F1.out]
    · exact (HB2.out.setCell (by simp; omega) _).setCell (by simp; omega) _
  rw [hs] at c2
  have hxr : 0 ≤ x ∧ x < 4 := by
    unfold stepB at hs
    simp only [Bool.and_eq_true, decide_eq_true_eq] at hs
    exact hs.1
  obtain ⟨k, rfl⟩ : ∃ k : Nat, x = k := ⟨x.toNat, by omega⟩
  have hk : k < 4 := by omega
  have hby : byB k y.data.toList = true := by
    unfold stepB at hs
    rw [Bool.and_eq_true] at hs
    exact hs.2
  have hys : y.size ≤ 24 := termB_24 (byB_term hk hby)
  have c4 := fun W => specApplied_any l r y k W hb hk hys
  rw [show ((k : Int)).toNat = k by omega]
  obtain ⟨P, hP⟩ : ∃ p : ByteArray, ⟨⟨(strip2 l.data.toList r.data.toList).1⟩⟩ = p := ⟨_, rfl⟩
  obtain ⟨Q, hQ⟩ : ∃ p : ByteArray, ⟨⟨(strip2 l.data.toList r.data.toList).2⟩⟩ = p := ⟨_, rfl⟩
  rw [hP, hQ] at c4 ⊢
  obtain ⟨p, q, fb, hla, hap, hz⟩ := laV_form (nmC k) y P Q
  rw [hla] at c4
  rw [hap]
  obtain ⟨cd, hcd⟩ : ∃ cd : Int, (if fb = true then (0 : Int) else 3) = cd := ⟨_, rfl⟩
  rw [hcd]
  have HC0 := hidv (fun (h : fb = true) => (show cd = 0 by rw [← hcd, if_pos h]))
  have HC3 := hidv (fun (h : fb = false) => (show cd = 3 ∧ p = ⟨#[]⟩ ∧ q = ⟨#[]⟩ from ⟨by rw [← hcd, h]; rfl, hz h⟩))
  clear hcd hz
  have C1 := hidv c1
  have C2 := hidv c2
  have C4 := hidv c4
  clear c1 c2 c4 hb hs hP hQ hap hla hby hys
  simp only [Bool.and_self, reduceIte]
  go_enter Tryd.func15, Tryd.ntmps15
  go_wp2_with fail
  obtain ⟨w0, hw0⟩ : ∃ w0, w0 = ((w.alloc (.cells #[.string l, .string r] 25)).alloc (.cells #[.int .i64 (k : Int), .string y] 33)).alloc (.cells #[.string ⟨#[]⟩, .string ⟨#[]⟩] 25) := ⟨_, rfl⟩
  rw [← hw0]
  have hE : Bx w0 w.heap.size 25 #[.string l, .string r] := by rw [hw0]; exact ((Bx.new _ _ _).alloc _).alloc _
  have hS : Bx w0 (w.heap.size + 1) 33 #[.int .i64 (k : Int), .string y] := by
    rw [hw0]
    have := (Bx.new (w.alloc (.cells #[.string l, .string r] 25)) 33 #[.int .i64 (k : Int), .string y]).alloc (.cells #[.string ⟨#[]⟩, .string ⟨#[]⟩] 25)
    rw [World.size_alloc] at this
    exact this
  have hR : Bx w0 (w.heap.size + 1 + 1) 25 #[.string ⟨#[]⟩, .string ⟨#[]⟩] := by
    rw [hw0]
    have := Bx.new ((w.alloc (.cells #[.string l, .string r] 25)).alloc (.cells #[.int .i64 (k : Int), .string y] 33)) 25 #[.string ⟨#[]⟩, .string ⟨#[]⟩]
    rw [World.size_alloc, World.size_alloc] at this
    exact this
  have hB0 : Below w.heap.size w w0 := by rw [hw0]; exact (((Below.refl _ _).alloc (Nat.le_refl _) _).alloc (by simp) _).alloc (by simp; omega) _
  clear hw0
  refine (C1.out _).mono ?_
  rintro e w1 ⟨rfl, hb1⟩
  have HE1 := hidv (hE.below hb1)
  have HST1 := hidv (hS.below hb1)
  have HR1 := hidv (hR.below hb1)
  have HB1 := hidv (below_on hB0 hb1)
  obtain ⟨e0, e1⟩ := HE1.out.two
  obtain ⟨s0, s1⟩ := HST1.out.two
  obtain ⟨x0, x1⟩ := HR1.out.two
  have z0 := HR1.out.frozen 0
  have z1 := HR1.out.frozen 1
  have F0 := hidv (((HR1.out.set 0 (.string ⟨#[]⟩)).set 1 (.string ⟨#[]⟩)).cell 0)
  have F1 := hidv (((HR1.out.set 0 (.string ⟨#[]⟩)).set 1 (.string ⟨#[]⟩)).cell 1)
  clear hE hS hR hB0 hb1
  go_wp2_with fail
  refine (C2.out _).mono ?_
  rintro e w2 ⟨rfl, hb2⟩
  have HB2 := hidv (below_on HB1.out hb2)
  have HE2 := hidv (HE1.out.below hb2)
  have HST2 := hidv (HST1.out.below hb2)
  have HR2 := hidv (HR1.out.below hb2)
  clear hb2 x0 x1 z0 z1 F0 F1 e0 e1 s0 s1
  obtain ⟨e0, e1⟩ := HE2.out.two
  obtain ⟨s0, s1⟩ := HST2.out.two
  go_wp2_with fail
  refine (C4.out _).mono ?_
  rintro e w3 ⟨rfl, hb3⟩
  have HB3 := hidv (below_on HB2.out hb3)
  have hR3 := HR2.out.below hb3
  clear hb3 e0 e1 s0 s1
  obtain ⟨x0, x1⟩ := hR3.two
  have z0 := hR3.frozen 0
  have z1 := hR3.frozen 1
  have s3 := hR3.lt
  have F0 := hidv ((((hR3.set 0 (.string ⟨#[]⟩)).set 1 (.string ⟨#[]⟩)).alloc (.cells #[.string ⟨#[]⟩, .string ⟨#[]⟩] 25)).cell 0)
  have F1 := hidv ((((hR3.set 0 (.string ⟨#[]⟩)).set 1 (.string ⟨#[]⟩)).alloc (.cells #[.string ⟨#[]⟩, .string ⟨#[]⟩] 25)).cell 1)
  have G0 := hidv ((((hR3.set 0 (.string p)).set 1 (.string q)).alloc (.cells #[.string p, .string q] 25)).cell 0)
  have G1 := hidv ((((hR3.set 0 (.string p)).set 1 (.string q)).alloc (.cells #[.string p, .string q] 25)).cell 1)
  have HB4 := hidv (fun (a b : Value) (o : Obj) => below_al ((HB3.out.setCell (p := ⟨w.heap.size + 1 + 1, 0, none⟩) (by simp; omega) a).setCell (p := ⟨w.heap.size + 1 + 1, 1, none⟩) (by simp; omega) b) o)
  clear hR3
  cases fb
  · obtain ⟨rfl, rfl, rfl⟩ := HC3.out (by trivial)
    go_wp2_with fail
    refine bodyPost_ret (v := .tuple #[.agg #[.string ⟨#[]⟩, .string ⟨#[]⟩], .int .i64 3]) ?_ rfl ⟨rfl, ?_⟩
    · simp [results, Tryd.results15, go_sem, F0.out, F1.out]
    · exact HB4.out _ _ _
  · obtain rfl := HC0.out (by trivial)
    go_wp2_with fail
    refine bodyPost_ret (v := .tuple #[.agg #[.string p, .string q], .int .i64 0]) ?_ rfl ⟨rfl, ?_⟩
    · simp [results, Tryd.results15, go_sem, G0.out, G1.out]
    · exact HB4.out _ _ _

end Go.Proofs.YtfnlikjdfihggaaDoor
