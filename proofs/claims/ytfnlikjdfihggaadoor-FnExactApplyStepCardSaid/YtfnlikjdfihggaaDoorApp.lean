/-
  What a step leads to: contracts, of the program and of the model.
-/
import Derived.Test.YtfnlikjdfihggaaDoorRepS
import Derived.Test.YtfnlikjdfihggaaDoorStepT
import Derived.Test.YtfnlikjdfihggaaDoorStripI
import Derived.Deep.RegionHeld3
namespace Go.Proofs.YtfnlikjdfihggaaDoor
open Go.RowKit Go
set_option linter.unusedVariables false

theorem lB_isL {a : UInt8} : lB [a] = Wd.isL a := rfl
theorem uB_isU {a : UInt8} : uB [a] = Wd.isU a := rfl
theorem byB_term {k : Nat} (hk : k < 4) {l : List UInt8} (h : byB k l = true) : Wd.termB l = true := by
  obtain ⟨u, hu, hU, _⟩ := nmL_eq hk
  have one : ∀ a, (lB [a] || uB [a] && !([a] == nmL k)) = true → (Wd.isL a || Wd.isU a) = true := by
    intro a ha
    rw [Bool.or_eq_true] at ha
    rcases ha with ha | ha
    · rw [lB_isL] at ha; rw [ha]; rfl
    · rw [Bool.and_eq_true, uB_isU] at ha; rw [ha.1, Bool.or_true]
  match l, h with
  | [], _ => rfl
  | [a], h => have := one a h; simp [Wd.termB, this]
  | [a, b], h =>
    have h' : ((lB [a] || uB [a] && !([a] == nmL k)) && ([b] == nmL k)) = true := h
    rw [Bool.and_eq_true] at h'
    have h1 := one a h'.1
    have h2 : b = u := by have := h'.2; rw [hu] at this; simpa using this
    subst h2
    have h3 : (Wd.isL b || Wd.isU b) = true := by rw [hU, Bool.or_true]
    have h4 : decide (([a, b] : List UInt8).length ≤ 24) = true := rfl
    unfold Wd.termB
    rw [h4, List.all_cons, List.all_cons, h1, h3]
    rfl
  | _ :: _ :: _ :: _, h => cases h
theorem stripF_subA : ∀ u v : List UInt8, ((stripF u v).1.length ≤ u.length ∧ ∀ c ∈ (stripF u v).1, c ∈ u) ∧ ((stripF u v).2.length ≤ v.length ∧ ∀ c ∈ (stripF u v).2, c ∈ v)
  | [], v => by rw [stripF_nilL]; simp
  | a :: u, [] => by rw [stripF_nilR]; simp
  | a :: u, b :: v => by
    have ih := stripF_subA u v
    unfold stripF
    by_cases h : a = b
    · rw [if_pos h]
      exact ⟨⟨Nat.le_succ_of_le ih.1.1, fun c hc => List.mem_cons_of_mem _ (ih.1.2 c hc)⟩, ⟨Nat.le_succ_of_le ih.2.1, fun c hc => List.mem_cons_of_mem _ (ih.2.2 c hc)⟩⟩
    · rw [if_neg h]
      simp
theorem strip2_subA (u v : List UInt8) : ((strip2 u v).1.length ≤ u.length ∧ ∀ c ∈ (strip2 u v).1, c ∈ u) ∧ ((strip2 u v).2.length ≤ v.length ∧ ∀ c ∈ (strip2 u v).2, c ∈ v) := by
  have h1 := stripF_subA u v
  have h2 := stripF_subA (stripF u v).1.reverse (stripF u v).2.reverse
  unfold strip2 stripB
  simp only [List.length_reverse, List.mem_reverse] at h2 ⊢
  exact ⟨⟨by omega, fun c hc => h1.1.2 c (h2.1.2 c hc)⟩, ⟨by omega, fun c hc => h1.2.2 c (h2.2.2 c hc)⟩⟩
/-- The sign of an unknown. -/
def nmC (k : Nat) : UInt8 := (nmL k).headD 0
theorem nmB_eq {k : Nat} (h : k < 4) : nmB k = ⟨#[nmC k]⟩ ∧ Wd.isU (nmC k) = true := by
  rcases nm_four h with rfl | rfl | rfl | rfl <;> exact ⟨rfl, rfl⟩

/-- Where a step leads: stripped, or too long. -/
def apV (c : UInt8) (y l r : ByteArray) : Value :=
  if fitE (rpE c y (l, r)) then .tuple #[.agg #[.string ⟨⟨(strip2 (repL c y.data.toList l.data.toList) (repL c y.data.toList r.data.toList)).1⟩⟩, .string ⟨⟨(strip2 (repL c y.data.toList l.data.toList) (repL c y.data.toList r.data.toList)).2⟩⟩], .int .i64 0]
  else .tuple #[.agg #[.string ⟨#[]⟩, .string ⟨#[]⟩], .int .i64 3]

theorem one_erow {w : World} {g : Nat} {l r : ByteArray} {t : TypeId} (h : w.heap[g]? = some (.cells #[.string l, .string r] t (0, 0))) : ERow w (g + 1) (.slice (some ⟨g, 0, none⟩) 1 1) [(l, r)] :=
  ⟨some ⟨g, 0, none⟩, 1, rfl, fun _ => ⟨g, 0, rfl, Nat.lt_succ_self _, fun i hi => by
    have : i = 0 := by simpa using hi
    subst this
    exact ⟨cell_of_row _ _ _ _ _ _ h, cell_of_row _ _ 1 _ _ _ h⟩⟩⟩

theorem eqnB_24a {l r : ByteArray} (h : eqnB l r = true) : l.size ≤ 24 ∧ r.size ≤ 24 := by
  unfold eqnB at h
  rw [Bool.and_eq_true] at h
  exact ⟨termB_24 h.1, termB_24 h.2⟩
theorem replaceOne_any (l r y : ByteArray) (k : Nat) (h : eqnB l r = true) (hk : k < 4) (hb : byB k y.data.toList = true) (g : Nat) (W : World) (ml : ML W) (t : TypeId) (hg : Bx W g t #[.string l, .string r]) :
    Calls Tryd.prog 83 #[.slice (some ⟨g, 0, none⟩) 1 1, .string (nmB k), .string y] W fun e w' => ∃ (u : Value) (c : Int), e = .returned (.tuple #[u, .int .i64 c]) ∧ Below W.heap.size W w' ∧
      (fitE (rpE (nmC k) y (l, r)) = true → c = 0 ∧ Eqns w' W.heap.size u [rpE (nmC k) y (l, r)]) ∧ (fitE (rpE (nmC k) y (l, r)) = false → c = 3) := by
  obtain ⟨hn, hU⟩ := nmB_eq hk
  rw [hn]
  have hsys : sysB [(l, r)] = true := by unfold sysB; simp [h]
  refine (implReplaceIn_any _ [(l, r)] y (nmC k) (g + 1) W ml (one_erow hg) (by have := hg.lt; omega) hsys (byB_term hk hb) hU).mono ?_
  rintro e w' ⟨hbw, h1, h2⟩
  cases hf : fitE (rpE (nmC k) y (l, r))
  · exact ⟨_, _, h2 (by simp [hf]), hbw, And.intro (fun h => absurd h (by decide)) (fun _ => rfl)⟩
  · obtain ⟨u, h3, h4⟩ := h1 (by simp [hf])
    exact ⟨u, _, h3, hbw, And.intro (fun _ => ⟨rfl, h4⟩) (fun h => absurd h (by decide))⟩

set_option maxHeartbeats 1600000 in
theorem applied_any (l r y : ByteArray) (k : Nat) (w : World) (ml : ML w) (h : eqnB l r = true) (hk : k < 4) (hb : byB k y.data.toList = true) :
    Calls Tryd.prog 44 #[.agg #[.string l, .string r], .agg #[.int .i64 (k : Int), .string y]] w fun e w' => e = .returned (apV (nmC k) y l r) ∧ Below w.heap.size w w' := by
  have c1 := fun W => name_any k hk y W
  have c2 := fun g W hW t hg => replaceOne_any l r y k h hk hb g W hW t hg
  have hys := termB_24 (byB_term hk hb)
  have hlr := eqnB_24a h
  obtain ⟨n, hn⟩ : ∃ n, nmB k = n := ⟨_, rfl⟩
  rw [hn] at c1 c2
  have hap : ∀ b, fitE (rpE (nmC k) y (l, r)) = b → apV (nmC k) y l r = if b then .tuple #[.agg #[.string ⟨⟨(strip2 (rpE (nmC k) y (l, r)).1.data.toList (rpE (nmC k) y (l, r)).2.data.toList).1⟩⟩, .string ⟨⟨(strip2 (rpE (nmC k) y (l, r)).1.data.toList (rpE (nmC k) y (l, r)).2.data.toList).2⟩⟩], .int .i64 0] else .tuple #[.agg #[.string ⟨#[]⟩, .string ⟨#[]⟩], .int .i64 3] := by
    intro b hb; unfold apV; rw [hb]; rfl
  have hft : fitE (rpE (nmC k) y (l, r)) = true → (rpE (nmC k) y (l, r)).1.size ≤ 24 ∧ (rpE (nmC k) y (l, r)).2.size ≤ 24 := by
    intro hf
    unfold fitE at hf
    simpa using hf
  obtain ⟨⟨L, R⟩, hLR⟩ : ∃ p, rpE (nmC k) y (l, r) = p := ⟨_, rfl⟩
  rw [hLR] at c2 hap hft
  obtain ⟨b, hfb⟩ : ∃ b, fitE (L, R) = b := ⟨_, rfl⟩
  rw [hap b hfb]
  rw [hfb] at c2 hft
  dsimp only at hft ⊢
  have c3 := fun (hf : b = true) W => implStrip_any L R W (by have := (hft hf).1; omega) (by have := (hft hf).2; omega)
  obtain ⟨P, hP⟩ : ∃ p : ByteArray, ⟨⟨(strip2 L.data.toList R.data.toList).1⟩⟩ = p := ⟨_, rfl⟩
  obtain ⟨Q, hQ⟩ : ∃ p : ByteArray, ⟨⟨(strip2 L.data.toList R.data.toList).2⟩⟩ = p := ⟨_, rfl⟩
  rw [hP, hQ] at c3 ⊢
  have C1 := hidv c1
  have C2 := hidv c2
  have C3 := hidv c3
  clear c1 c2 c3 hap hft hfb hLR hP hQ hn h hb
  go_enter Tryd.func44, Tryd.ntmps44
  go_wp2_with fail
  obtain ⟨w0, hw0⟩ : ∃ w0, w0 = ((w.alloc (.cells #[.string l, .string r] 25)).alloc (.cells #[.int .i64 (k : Int), .string y] 33)).alloc (.cells #[.string ⟨#[]⟩, .string ⟨#[]⟩] 25) := ⟨_, rfl⟩
  rw [← hw0]
  have hE : Bx w0 w.heap.size 25 #[.string l, .string r] := by rw [hw0]; exact ((Bx.new _ _ _).alloc _).alloc _
  have hS : Bx w0 (w.heap.size + 1) 33 #[.int .i64 (k : Int), .string y] := by
    rw [hw0]
    have := (Bx.new (w.alloc (.cells #[.string l, .string r] 25)) 33 #[.int .i64 (k : Int), .string y]).alloc (.cells #[.string ⟨#[]⟩, .string ⟨#[]⟩] 25)
    rw [World.size_alloc] at this
    exact this
  have hR : Bx w0 (w.heap.size + 1 + 1) 25 #[.string ⟨#[]⟩, .string ⟨#[]⟩] := by
    rw [hw0]
    have := Bx.new ((w.alloc (.cells #[.string l, .string r] 25)).alloc (.cells #[.int .i64 (k : Int), .string y] 33)) 25 #[.string ⟨#[]⟩, .string ⟨#[]⟩]
    rw [World.size_alloc, World.size_alloc] at this
    exact this
  have hB0 : Below w.heap.size w w0 := by rw [hw0]; exact (((Below.refl _ _).alloc (Nat.le_refl _) _).alloc (by simp) _).alloc (by simp; omega) _
  have HE := hidv hE
  have HST := hidv hS
  have HR := hidv hR
  have HB0 := hidv hB0
  have ml0 := ml.below hB0
  have HS := hidv (fun w' (hw : Below w0.heap.size w0 w') => (show w'.cell? ⟨w.heap.size, 0, none⟩ = some (.string l) ∧ w'.cell? ⟨w.heap.size, 1, none⟩ = some (.string r) ∧ w'.cell? ⟨w.heap.size + 1, 0, none⟩ = some (.int .i64 (k : Int)) ∧ w'.cell? ⟨w.heap.size + 1, 1, none⟩ = some (.string y) ∧ Below w0.heap.size w0 w' from ⟨(HE.out.below hw).two.1, (HE.out.below hw).two.2, (HST.out.below hw).two.1, (HST.out.below hw).two.2, hw⟩))
  clear hw0 hE hS hR hB0
  go_region_held3 (fun w' => w'.cell? ⟨w.heap.size, 0, none⟩ = some (.string l) ∧ w'.cell? ⟨w.heap.size, 1, none⟩ = some (.string r) ∧ w'.cell? ⟨w.heap.size + 1, 0, none⟩ = some (.int .i64 (k : Int)) ∧ w'.cell? ⟨w.heap.size + 1, 1, none⟩ = some (.string y) ∧ Below w0.heap.size w0 w') (exact HS.out _ (by repeat (first | assumption | exact Below.refl _ _ | refine Below.drew ?_ | refine below_al ?_ _))) (first | (go_at_call 43; refine (C1.out _).mono ?_; rintro e w3 ⟨rfl, hbw⟩; (first | have hnw : Bx w3 w0.heap.size 25 #[.string l, .string r] := (Bx.new w0 _ _).below (below_on (below_dr _) hbw) | have hnw : Bx w3 w0.heap.size 25 #[.string l, .string r] := (Bx.new w0 _ _).below hbw | skip); replace hbw := below_on (show Below w0.heap.size w0 _ from by repeat (first | assumption | exact Below.refl _ _ | refine Below.drew ?_ | refine below_al ?_ _)) hbw) | (go_at_call 83; refine (C2.out _ _ (ml0.below (show Below w0.heap.size w0 _ from by repeat (first | assumption | exact Below.refl _ _ | refine Below.drew ?_ | refine below_al ?_ _))) 25 (by first | exact hnw | exact Bx.new _ _ _)).mono ?_; rintro e w4 ⟨u, cd, rfl, hbw4, hyes, hno⟩; replace hbw4 := below_on (show Below w0.heap.size w0 _ from by repeat (first | assumption | exact Below.refl _ _ | refine Below.drew ?_ | refine below_al ?_ _)) hbw4))
  all_goals
    have HB4 := hidv (below_on HB0.out hbw4)
    have HR4 := hidv (HR.out.below hbw4)
    obtain ⟨x0, x1⟩ := HR4.out.two
    have z0 := HR4.out.frozen 0
    have z1 := HR4.out.frozen 1
    cases b
    · obtain rfl := hno rfl
      have F0 := hidv (((HR4.out.set 0 (.string ⟨#[]⟩)).set 1 (.string ⟨#[]⟩)).cell 0)
      have F1 := hidv (((HR4.out.set 0 (.string ⟨#[]⟩)).set 1 (.string ⟨#[]⟩)).cell 1)
      clear hyes hno
      go_wp2_with fail
      refine bodyPost_ret (v := .tuple #[.agg #[.string ⟨#[]⟩, .string ⟨#[]⟩], .int .i64 3]) ?_ rfl ⟨rfl, ?_⟩
      · simp [results, Tryd.results44, go_sem, F0.out, F1.out]
      · exact (HB4.out.setCell (by simp; omega) _).setCell (by simp; omega) _
    · obtain ⟨rfl, hEq⟩ := hyes rfl
      obtain ⟨A, cp, hu, hrow⟩ := hEq.row
      obtain ⟨g, o, rfl, hg, hcc⟩ := hrow (Nat.zero_lt_one)
      subst hu
      obtain ⟨y0, y1⟩ := hcc 0 (Nat.zero_lt_one)
      have y0' : w4.cell? ⟨g, o, none⟩ = some (.string L) := y0
      have y1' : w4.cell? ⟨g, o + 1, none⟩ = some (.string R) := y1
      clear hyes hno hEq hrow hcc y0 y1
      go_wp2_with fail
      refine (C3.out (by trivial) _).mono ?_
      rintro e w5 ⟨rfl, hb5⟩
      have HB5 := hidv (below_on HB4.out hb5)
      have hR5 := HR4.out.below hb5
      clear hb5 x0 x1 z0 z1
      obtain ⟨x0, x1⟩ := hR5.two
      have z0 := hR5.frozen 0
      have z1 := hR5.frozen 1
      have F0 := hidv (((hR5.set 0 (.string P)).set 1 (.string Q)).cell 0)
      have F1 := hidv (((hR5.set 0 (.string P)).set 1 (.string Q)).cell 1)
      clear hR5
      go_wp2_with fail
      refine bodyPost_ret (v := .tuple #[.agg #[.string P, .string Q], .int .i64 0]) ?_ rfl ⟨rfl, ?_⟩
      · simp [results, Tryd.results44, go_sem, F0.out, F1.out]
      · exact (HB5.out.setCell (by simp; omega) _).setCell (by simp; omega) _

theorem strip_terms {l r : ByteArray} (h : eqnB l r = true) : eqnB ⟨⟨(strip2 l.data.toList r.data.toList).1⟩⟩ ⟨⟨(strip2 l.data.toList r.data.toList).2⟩⟩ = true := by
  have hs := strip2_subA l.data.toList r.data.toList
  unfold eqnB at h ⊢
  rw [Bool.and_eq_true] at h ⊢
  have key : ∀ {u v : List UInt8}, Wd.termB v = true → u.length ≤ v.length → (∀ c ∈ u, c ∈ v) → Wd.termB u = true := by
    intro u v hv hl hm
    unfold Wd.termB at hv ⊢
    rw [Bool.and_eq_true, decide_eq_true_eq, List.all_eq_true] at hv ⊢
    exact ⟨by omega, fun c hc => hv.2 c (hm c hc)⟩
  exact ⟨key h.1 hs.1.1 hs.1.2, key h.2 hs.2.1 hs.2.2⟩

/-- What ApplyStep answers. -/
def asV (l r : ByteArray) (x : Int) (y : ByteArray) : Value :=
  if eqnB l r && stepB x y.data.toList then apV (nmC x.toNat) y ⟨⟨(strip2 l.data.toList r.data.toList).1⟩⟩ ⟨⟨(strip2 l.data.toList r.data.toList).2⟩⟩
  else .tuple #[.agg #[.string ⟨#[]⟩, .string ⟨#[]⟩], .int .i64 1]
theorem apV_form (c : UInt8) (y l r : ByteArray) : ∃ (p q : ByteArray) (k : Int), apV c y l r = .tuple #[.agg #[.string p, .string q], .int .i64 k] := by
  unfold apV
  split
  · exact ⟨_, _, _, rfl⟩
  · exact ⟨_, _, _, rfl⟩
theorem asV_form (l r : ByteArray) (x : Int) (y : ByteArray) : ∃ (p q : ByteArray) (k : Int), asV l r x y = .tuple #[.agg #[.string p, .string q], .int .i64 k] := by
  unfold asV
  split
  · exact apV_form _ _ _ _
  · exact ⟨_, _, _, rfl⟩

set_option maxHeartbeats 1600000 in
theorem implApply_any (l r : ByteArray) (x : Int) (y : ByteArray) (w : World) (ml : ML w) (hl : l.size ≤ maxLen) (hr : r.size ≤ maxLen) (hy : y.size ≤ maxLen) :
    Calls Tryd.prog 14 #[.agg #[.string l, .string r], .agg #[.int .i64 x, .string y]] w fun e w' => e = .returned (asV l r x y) ∧ Below w.heap.size w w' := by
  have c1 := fun W => implOk_any l r W hl hr
  have c2 := fun W => isStep_any x y W hy
  unfold asV
  cases hb : eqnB l r
  · rw [hb] at c1
    have C1 := hidv c1
    clear c1 c2 hb
    go_enter Tryd.func14, Tryd.ntmps14
    go_wp2_with fail
    obtain ⟨w0, hw0⟩ : ∃ w0, w0 = ((w.alloc (.cells #[.string l, .string r] 25)).alloc (.cells #[.int .i64 x, .string y] 33)).alloc (.cells #[.string ⟨#[]⟩, .string ⟨#[]⟩] 25) := ⟨_, rfl⟩
    rw [← hw0]
    have hE : Bx w0 w.heap.size 25 #[.string l, .string r] := by rw [hw0]; exact ((Bx.new _ _ _).alloc _).alloc _
    have hS : Bx w0 (w.heap.size + 1) 33 #[.int .i64 x, .string y] := by
      rw [hw0]
      have := (Bx.new (w.alloc (.cells #[.string l, .string r] 25)) 33 #[.int .i64 x, .string y]).alloc (.cells #[.string ⟨#[]⟩, .string ⟨#[]⟩] 25)
      rw [World.size_alloc] at this
      exact this
    have hR : Bx w0 (w.heap.size + 1 + 1) 25 #[.string ⟨#[]⟩, .string ⟨#[]⟩] := by
      rw [hw0]
      have := Bx.new ((w.alloc (.cells #[.string l, .string r] 25)).alloc (.cells #[.int .i64 x, .string y] 33)) 25 #[.string ⟨#[]⟩, .string ⟨#[]⟩]
      rw [World.size_alloc, World.size_alloc] at this
      exact this
    have hB0 : Below w.heap.size w w0 := by rw [hw0]; exact (((Below.refl _ _).alloc (Nat.le_refl _) _).alloc (by simp) _).alloc (by simp; omega) _
    clear hw0
    refine (C1.out _).mono ?_
    rintro e w1 ⟨rfl, hb1⟩
    have HE1 := hidv (hE.below hb1)
    have HST1 := hidv (hS.below hb1)
    have HR1 := hidv (hR.below hb1)
    have HB1 := hidv (below_on hB0 hb1)
    have ml1 := ml.below HB1.out
    obtain ⟨e0, e1⟩ := HE1.out.two
    obtain ⟨s0, s1⟩ := HST1.out.two
    obtain ⟨x0, x1⟩ := HR1.out.two
    have z0 := HR1.out.frozen 0
    have z1 := HR1.out.frozen 1
    have F0 := hidv (((HR1.out.set 0 (.string ⟨#[]⟩)).set 1 (.string ⟨#[]⟩)).cell 0)
    have F1 := hidv (((HR1.out.set 0 (.string ⟨#[]⟩)).set 1 (.string ⟨#[]⟩)).cell 1)
    clear hE hS hR hB0 hb1
    go_wp2_with fail
    refine bodyPost_ret (v := .tuple #[.agg #[.string ⟨#[]⟩, .string ⟨#[]⟩], .int .i64 1]) ?_ rfl ⟨rfl, ?_⟩
    · simp [results, Tryd.results14, go_sem, F0.out, F1.out]
    · exact (HB1.out.setCell (by simp; omega) _).setCell (by simp; omega) _
  rw [hb] at c1
  cases hs : stepB x y.data.toList
  · rw [hs] at c2
    have C1 := hidv c1
    have C2 := hidv c2
    clear c1 c2 hb hs
    go_enter Tryd.func14, Tryd.ntmps14
    go_wp2_with fail
    obtain ⟨w0, hw0⟩ : ∃ w0, w0 = ((w.alloc (.cells #[.string l, .string r] 25)).alloc (.cells #[.int .i64 x, .string y] 33)).alloc (.cells #[.string ⟨#[]⟩, .string ⟨#[]⟩] 25) := ⟨_, rfl⟩
    rw [← hw0]
    have hE : Bx w0 w.heap.size 25 #[.string l, .string r] := by rw [hw0]; exact ((Bx.new _ _ _).alloc _).alloc _
    have hS : Bx w0 (w.heap.size + 1) 33 #[.int .i64 x, .string y] := by
      rw [hw0]
      have := (Bx.new (w.alloc (.cells #[.string l, .string r] 25)) 33 #[.int .i64 x, .string y]).alloc (.cells #[.string ⟨#[]⟩, .string ⟨#[]⟩] 25)
      rw [World.size_alloc] at this
      exact this
    have hR : Bx w0 (w.heap.size + 1 + 1) 25 #[.string ⟨#[]⟩, .string ⟨#[]⟩] := by
      rw [hw0]
      have := Bx.new ((w.alloc (.cells #[.string l, .string r] 25)).alloc (.cells #[.int .i64 x, .string y] 33)) 25 #[.string ⟨#[]⟩, .string ⟨#[]⟩]
      rw [World.size_alloc, World.size_alloc] at this
      exact this
    have hB0 : Below w.heap.size w w0 := by rw [hw0]; exact (((Below.refl _ _).alloc (Nat.le_refl _) _).alloc (by simp) _).alloc (by simp; omega) _
    clear hw0
    refine (C1.out _).mono ?_
    rintro e w1 ⟨rfl, hb1⟩
    have HE1 := hidv (hE.below hb1)
    have HST1 := hidv (hS.below hb1)
    have HR1 := hidv (hR.below hb1)
    have HB1 := hidv (below_on hB0 hb1)
    have ml1 := ml.below HB1.out
    obtain ⟨e0, e1⟩ := HE1.out.two
    obtain ⟨s0, s1⟩ := HST1.out.two
    obtain ⟨x0, x1⟩ := HR1.out.two
    have z0 := HR1.out.frozen 0
    have z1 := HR1.out.frozen 1
    have F0 := hidv (((HR1.out.set 0 (.string ⟨#[]⟩)).set 1 (.string ⟨#[]⟩)).cell 0)
    have F1 := hidv (((HR1.out.set 0 (.string ⟨#[]⟩)).set 1 (.string ⟨#[]⟩)).cell 1)
    clear hE hS hR hB0 hb1
    go_wp2_with fail
    refine (C2.out _).mono ?_
    rintro e w2 ⟨rfl, hb2⟩
    have HB2 := hidv (below_on HB1.out hb2)
    have hR2 := HR1.out.below hb2
    clear hb2 x0 x1 z0 z1 F0 F1 e0 e1 s0 s1
    obtain ⟨x0, x1⟩ := hR2.two
    have z0 := hR2.frozen 0
    have z1 := hR2.frozen 1
    have F0 := hidv (((hR2.set 0 (.string ⟨#[]⟩)).set 1 (.string ⟨#[]⟩)).cell 0)
    have F1 := hidv (((hR2.set 0 (.string ⟨#[]⟩)).set 1 (.string ⟨#[]⟩)).cell 1)
    clear hR2
    go_wp2_with fail
    refine bodyPost_ret (v := .tuple #[.agg #[.string ⟨#[]⟩, .string ⟨#[]⟩], .int .i64 1]) ?_ rfl ⟨rfl, ?_⟩
    · simp [results, Tryd.results14, go_sem, F0.out, F1.out]
    · exact (HB2.out.setCell (by simp; omega) _).setCell (by simp; omega) _
  rw [hs] at c2
  have hxr : 0 ≤ x ∧ x < 4 := by
    unfold stepB at hs
    simp only [Bool.and_eq_true, decide_eq_true_eq] at hs
    exact hs.1
  obtain ⟨k, rfl⟩ : ∃ k : Nat, x = k := ⟨x.toNat, by omega⟩
  have hk : k < 4 := by omega
  have hby : byB k y.data.toList = true := by
    unfold stepB at hs
    rw [Bool.and_eq_true] at hs
    exact hs.2
  have hst := strip_terms hb
  have hlr := eqnB_24a hb
  have c3 := fun W => implStrip_any l r W (by omega) (by omega)
  have c4 := fun W hW => applied_any ⟨⟨(strip2 l.data.toList r.data.toList).1⟩⟩ ⟨⟨(strip2 l.data.toList r.data.toList).2⟩⟩ y k W hW hst hk hby
  rw [show ((k : Int)).toNat = k by omega]
  obtain ⟨P, hP⟩ : ∃ p : ByteArray, ⟨⟨(strip2 l.data.toList r.data.toList).1⟩⟩ = p := ⟨_, rfl⟩
  obtain ⟨Q, hQ⟩ : ∃ p : ByteArray, ⟨⟨(strip2 l.data.toList r.data.toList).2⟩⟩ = p := ⟨_, rfl⟩
  rw [hP, hQ] at c3 c4 ⊢
  obtain ⟨p, q, cd, hap⟩ := apV_form (nmC k) y P Q
  rw [hap] at c4 ⊢
  have C1 := hidv c1
  have C2 := hidv c2
  have C3 := hidv c3
  have C4 := hidv c4
  clear c1 c2 c3 c4 hb hs hst hP hQ hap hby hlr
  simp only [Bool.and_self, reduceIte]
  go_enter Tryd.func14, Tryd.ntmps14
  go_wp2_with fail
  obtain ⟨w0, hw0⟩ : ∃ w0, w0 = ((w.alloc (.cells #[.string l, .string r] 25)).alloc (.cells #[.int .i64 (k : Int), .string y] 33)).alloc (.cells #[.string ⟨#[]⟩, .string ⟨#[]⟩] 25) := ⟨_, rfl⟩
  rw [← hw0]
  have hE : Bx w0 w.heap.size 25 #[.string l, .string r] := by rw [hw0]; exact ((Bx.new _ _ _).alloc _).alloc _
  have hS : Bx w0 (w.heap.size + 1) 33 #[.int .i64 (k : Int), .string y] := by
    rw [hw0]
    have := (Bx.new (w.alloc (.cells #[.string l, .string r] 25)) 33 #[.int .i64 (k : Int), .string y]).alloc (.cells #[.string ⟨#[]⟩, .string ⟨#[]⟩] 25)
    rw [World.size_alloc] at this
    exact this
  have hR : Bx w0 (w.heap.size + 1 + 1) 25 #[.string ⟨#[]⟩, .string ⟨#[]⟩] := by
    rw [hw0]
    have := Bx.new ((w.alloc (.cells #[.string l, .string r] 25)).alloc (.cells #[.int .i64 (k : Int), .string y] 33)) 25 #[.string ⟨#[]⟩, .string ⟨#[]⟩]
    rw [World.size_alloc, World.size_alloc] at this
    exact this
  have hB0 : Below w.heap.size w w0 := by rw [hw0]; exact (((Below.refl _ _).alloc (Nat.le_refl _) _).alloc (by simp) _).alloc (by simp; omega) _
  clear hw0
  refine (C1.out _).mono ?_
  rintro e w1 ⟨rfl, hb1⟩
  have HE1 := hidv (hE.below hb1)
  have HST1 := hidv (hS.below hb1)
  have HR1 := hidv (hR.below hb1)
  have HB1 := hidv (below_on hB0 hb1)
  have ml1 := ml.below HB1.out
  obtain ⟨e0, e1⟩ := HE1.out.two
  obtain ⟨s0, s1⟩ := HST1.out.two
  obtain ⟨x0, x1⟩ := HR1.out.two
  have z0 := HR1.out.frozen 0
  have z1 := HR1.out.frozen 1
  have F0 := hidv (((HR1.out.set 0 (.string ⟨#[]⟩)).set 1 (.string ⟨#[]⟩)).cell 0)
  have F1 := hidv (((HR1.out.set 0 (.string ⟨#[]⟩)).set 1 (.string ⟨#[]⟩)).cell 1)
  clear hE hS hR hB0 hb1
  go_wp2_with fail
  refine (C2.out _).mono ?_
  rintro e w2 ⟨rfl, hb2⟩
  have HB2 := hidv (below_on HB1.out hb2)
  have HE2 := hidv (HE1.out.below hb2)
  have HST2 := hidv (HST1.out.below hb2)
  have HR2 := hidv (HR1.out.below hb2)
  clear hb2 x0 x1 z0 z1 F0 F1 e0 e1 s0 s1
  have HS := hidv (fun w' (hw : Below w2.heap.size w2 w') => (show w'.cell? ⟨w.heap.size, 0, none⟩ = some (.string l) ∧ w'.cell? ⟨w.heap.size, 1, none⟩ = some (.string r) ∧ w'.cell? ⟨w.heap.size + 1, 0, none⟩ = some (.int .i64 (k : Int)) ∧ w'.cell? ⟨w.heap.size + 1, 1, none⟩ = some (.string y) ∧ Below w.heap.size w w' from ⟨(HE2.out.below hw).two.1, (HE2.out.below hw).two.2, (HST2.out.below hw).two.1, (HST2.out.below hw).two.2, below_on HB2.out hw⟩))
  have HSF := hidv (fun w' (hw : Below w2.heap.size w2 w') => (show ((w'.setCell ⟨w.heap.size + 1 + 1, 0, none⟩ (.string p)).setCell ⟨w.heap.size + 1 + 1, 1, none⟩ (.string q)).cell? ⟨w.heap.size, 0, none⟩ = some (.string l) ∧ ((w'.setCell ⟨w.heap.size + 1 + 1, 0, none⟩ (.string p)).setCell ⟨w.heap.size + 1 + 1, 1, none⟩ (.string q)).cell? ⟨w.heap.size, 1, none⟩ = some (.string r) ∧ ((w'.setCell ⟨w.heap.size + 1 + 1, 0, none⟩ (.string p)).setCell ⟨w.heap.size + 1 + 1, 1, none⟩ (.string q)).cell? ⟨w.heap.size + 1, 0, none⟩ = some (.int .i64 (k : Int)) ∧ ((w'.setCell ⟨w.heap.size + 1 + 1, 0, none⟩ (.string p)).setCell ⟨w.heap.size + 1 + 1, 1, none⟩ (.string q)).cell? ⟨w.heap.size + 1, 1, none⟩ = some (.string y) ∧ Below w.heap.size w ((w'.setCell ⟨w.heap.size + 1 + 1, 0, none⟩ (.string p)).setCell ⟨w.heap.size + 1 + 1, 1, none⟩ (.string q)) from
    ⟨(((HE2.out.below hw).far _ (by simp; try omega) _).far _ (by simp; try omega) _).two.1, (((HE2.out.below hw).far _ (by simp; try omega) _).far _ (by simp; try omega) _).two.2, (((HST2.out.below hw).far _ (by simp; try omega) _).far _ (by simp; try omega) _).two.1, (((HST2.out.below hw).far _ (by simp; try omega) _).far _ (by simp; try omega) _).two.2, ((below_on HB2.out hw).setCell (by simp; omega) _).setCell (by simp; omega) _⟩))
  have ml2 := ml.below HB2.out
  go_wp2_with fail
  go_region_held3 (fun w' => w'.cell? ⟨w.heap.size, 0, none⟩ = some (.string l) ∧ w'.cell? ⟨w.heap.size, 1, none⟩ = some (.string r) ∧ w'.cell? ⟨w.heap.size + 1, 0, none⟩ = some (.int .i64 (k : Int)) ∧ w'.cell? ⟨w.heap.size + 1, 1, none⟩ = some (.string y) ∧ Below w.heap.size w w') (first | exact HSF.out _ (by assumption) | exact HS.out _ (by repeat (first | assumption | exact Below.refl _ _ | refine Below.drew ?_ | refine below_al ?_ _))) (first | (go_at_call 35; refine (C3.out _).mono ?_; rintro e w3 ⟨rfl, hbw⟩; replace hbw := below_on (show Below w2.heap.size w2 _ from by repeat (first | assumption | exact Below.refl _ _ | refine Below.drew ?_ | refine below_al ?_ _)) hbw) | (go_at_call 44; refine (C4.out _ (ml2.below (show Below w2.heap.size w2 _ from by repeat (first | assumption | exact Below.refl _ _ | refine Below.drew ?_ | refine below_al ?_ _)))).mono ?_; rintro e w4 ⟨rfl, hbw4⟩; replace hbw4 := below_on (show Below w2.heap.size w2 _ from by repeat (first | assumption | exact Below.refl _ _ | refine Below.drew ?_ | refine below_al ?_ _)) hbw4; have hr4 := HR2.out.below hbw4; obtain ⟨n0, n1⟩ := hr4.two; have m0 := hr4.frozen 0; have m1 := hr4.frozen 1))
  all_goals
    have F0 := hidv (((hr4.set 0 (.string p)).set 1 (.string q)).cell 0)
    have F1 := hidv (((hr4.set 0 (.string p)).set 1 (.string q)).cell 1)
    have HB4 := hidv (below_on HB2.out hbw4)
    go_wp2_with fail
    refine bodyPost_ret (v := .tuple #[.agg #[.string p, .string q], .int .i64 cd]) ?_ rfl ⟨rfl, ?_⟩
    · simp [results, Tryd.results14, go_sem, F0.out, F1.out]
    · exact (HB4.out.setCell (by simp; omega) _).setCell (by simp; omega) _

end Go.Proofs.YtfnlikjdfihggaaDoor
