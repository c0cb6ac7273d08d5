/-
  Allows, of the model and of the program: contracts.
-/
import Derived.Test.YtncjfafailefoaaAl
import Derived.Test.YtncjfafailefoaaEw
namespace Go.Proofs.Ytncjfafailefoaa
open Go.RowKit Go
set_option linter.unusedVariables false

/-- What Allows tells: a bool and a code. -/
def AllowsR (s : Int) (ns es : List (List Int)) (k : Int) (x : ByteArray) (d : Bool) (c : Int) : Prop :=
  (¬ (BndOk s ns es ∧ Wd.wordB x.data.toList = true) → d = false ∧ c = 1) ∧
  ((BndOk s ns es ∧ Wd.wordB x.data.toList = true) → ¬ (0 ≤ k ∧ k ≤ 3) → d = false ∧ c = 2) ∧
  ((BndOk s ns es ∧ Wd.wordB x.data.toList = true) → (0 ≤ k ∧ k ≤ 3) → c = 0 ∧ (d = true ↔ Allow5 s ns es k.toNat x))
theorem allowsR_ex (s : Int) (ns es : List (List Int)) (k : Int) (x : ByteArray) : ∃ d c, AllowsR s ns es k x d c := by
  by_cases h1 : BndOk s ns es ∧ Wd.wordB x.data.toList = true
  · by_cases h2 : 0 ≤ k ∧ k ≤ 3
    · obtain ⟨d, hd⟩ := iffB (Allow5 s ns es k.toNat x)
      exact ⟨d, 0, fun h => absurd h1 h, fun _ h => absurd h2 h, fun _ _ => ⟨rfl, hd⟩⟩
    · exact ⟨false, 2, fun h => absurd h1 h, fun _ _ => ⟨rfl, rfl⟩, fun _ h => absurd h h2⟩
  · exact ⟨false, 1, fun _ => ⟨rfl, rfl⟩, fun h => absurd h h1, fun h => absurd h h1⟩

set_option maxRecDepth 100000 in
set_option maxHeartbeats 3200000 in
theorem specAllows_any (v : Value) (s : Int) (ns es : List (List Int)) (B : Nat) (k : Int) (x : ByteArray) (w : World) (hv : Bnd w B v s ns es) (hB : B ≤ w.heap.size) (hn : RowsMax maxLen ns) (hp : RowsMax maxLen es) (hxl : x.size ≤ maxLen) (d : Bool) (c : Int) (hR : AllowsR s ns es k x d c) :
    Calls Try.prog 22 #[v, .int .i64 k, .string x] w fun e w' => e = .returned (.tuple #[.bool d, .int .i64 c]) ∧ Below w.heap.size w w' := by
  obtain ⟨va, vb, rfl, hv1, hu1⟩ := hv.more hB
  obtain ⟨A, ca, rfl, _⟩ := hv1.at
  obtain ⟨P, cp, rfl, _⟩ := hu1.at
  have hb : Below w.heap.size w (w.alloc (.cells #[.int .i64 s, .slice A ns.length ca, .slice P es.length cp] 27)) := (Below.refl _ _).alloc (by simp) _
  have hbx := (Bx.new w 27 #[.int .i64 s, .slice A ns.length ca, .slice P es.length cp]).three
  obtain ⟨d1, hd1⟩ := iffB (BndOk s ns es)
  have HD1 := hidv hd1
  have HR := hidv hR
  have C1 := hidv (l05Ok_any w.heap.size s ns es A P ca cp w.heap.size _ hbx.1 hbx.2.1 hbx.2.2 (hv1.below hb) (hu1.below hb) hn hp d1 hd1)
  have C2 := hidv (fun W => specWord_any x W hxl)
  have HB := hidv hb
  obtain ⟨d2, hd2⟩ : ∃ d2, Wd.wordB x.data.toList = d2 := ⟨_, rfl⟩
  obtain ⟨W, hW⟩ : ∃ W, w.alloc (.cells #[.int .i64 s, .slice A ns.length ca, .slice P es.length cp] 27) = W := ⟨_, rfl⟩
  have hWs : w.heap.size < W.heap.size := by rw [← hW]; simp
  have hBq : w.heap.size ≤ W.heap.size := by omega
  have CA := hidv (fun (hok : BndOk s ns es) (hx : Wd.wordB x.data.toList = true) (k' : Nat) (hk : k' < 4) (e : Bool) (he : e = true ↔ Allow5 s ns es k' x) (m : Nat) =>
    (show Calls Try.prog 44 #[.pointer (some ⟨w.heap.size, 0, none⟩), .int .i64 (k' : Int), .string x] (W.drewN m) fun e1 w' => e1 = .returned (.bool e) ∧ Below (W.drewN m).heap.size (W.drewN m) w' from by
      rw [hW] at hb hbx
      exact l05Allows_any w.heap.size s ns es A P ca cp w.heap.size k' x (W.drewN m) hbx.1 hbx.2.1 hbx.2.2 (hv1.below (below_drewN hb m)) (hu1.below (below_drewN hb m)) hp hBq hWs hok hx hk e he))
  rw [hW] at C1 HB
  rw [hd2] at C2
  have HW2 := hidv hd2
  have HWW := hidv hW
  clear hv hv1 hu1 hn hp hR hd1 hbx hb hd2 hW
  go_enter Try.func22, Try.ntmps22
  go_wp2_with fail
  rw [HWW.out]
  refine C1.out.mono ?_
  rintro e w1 ⟨rfl, q, rfl⟩
  cases d1
  · obtain ⟨rfl, rfl⟩ := HR.out.1 (fun h => absurd (HD1.out.mpr h.1) (by simp))
    go_wp2_with fail
    go_ret2
    exact ⟨rfl, below_drewN HB.out _⟩
  go_wp2_with fail
  refine (C2.out _).mono ?_
  rintro e w1 ⟨rfl, rfl⟩
  cases d2
  · obtain ⟨rfl, rfl⟩ := HR.out.1 (fun h => absurd (HW2.out.symm.trans h.2) (by simp))
    go_wp2_with fail
    go_ret2
    exact ⟨rfl, below_drewN HB.out _⟩
  have HOK := hidv (show BndOk s ns es ∧ Wd.wordB x.data.toList = true from ⟨HD1.out.mp (by trivial), HW2.out⟩)
  obtain ⟨d3, hd3⟩ := iffB ((0 : Int) ≤ k ∧ k ≤ 3)
  have HD3 := hidv hd3
  clear hd3
  go_wp2_with fail
  refine (l00In2_any k 0 3 _ d3 HD3.out).mono ?_
  rintro e w1 ⟨rfl, hw1⟩
  subst hw1
  cases d3
  · obtain ⟨rfl, rfl⟩ := HR.out.2.1 HOK.out (fun h => absurd (HD3.out.mpr h) (by simp))
    go_wp2_with fail
    go_ret2
    exact ⟨rfl, below_drewN HB.out _⟩
  have hk3 := HD3.out.mp rfl
  obtain ⟨k', rfl⟩ : ∃ k' : Nat, k = (k' : Int) := ⟨k.toNat, by omega⟩
  obtain ⟨rfl, hd⟩ := HR.out.2.2 HOK.out hk3
  rw [Int.toNat_natCast] at hd
  have CF := hidv (CA.out HOK.out.1 HOK.out.2 k' (by omega) d hd q)
  clear hd
  go_wp2_with fail
  refine CF.out.mono ?_
  rintro e w2 ⟨rfl, hb2⟩
  have HBF := hidv (below_on (below_drewN HB.out q) hb2)
  clear hb2
  go_wp2_with fail
  go_ret2
  exact ⟨rfl, HBF.out⟩

set_option maxRecDepth 100000 in
set_option maxHeartbeats 3200000 in
theorem implAllows_any (v : Value) (s : Int) (ns es : List (List Int)) (B : Nat) (k : Int) (x : ByteArray) (w : World) (hv : Bnd w B v s ns es) (hB : B ≤ w.heap.size) (hn : RowsMax maxLen ns) (hp : RowsMax maxLen es) (hxl : x.size ≤ maxLen) (d : Bool) (c : Int) (hR : AllowsR s ns es k x d c) :
    Calls Try.prog 23 #[v, .int .i64 k, .string x] w fun e w' => e = .returned (.tuple #[.bool d, .int .i64 c]) ∧ Below w.heap.size w w' := by
  obtain ⟨A, ca, P, cp, rfl⟩ := (hv.more hB).form
  have hv2 := hv.more hB
  obtain ⟨d1, hd1⟩ := iffB (BndOk s ns es)
  have HD1 := hidv hd1
  have HR := hidv hR
  have C1 := hidv (fun W (hW : Below w.heap.size w W) => implVB_any _ s ns es w.heap.size W (hv2.below hW) hW.size hn hp d1 hd1)
  have C2 := hidv (fun W => implValidWord_any x W hxl)
  obtain ⟨d2, hd2⟩ : ∃ d2, Wd.wordB x.data.toList = d2 := ⟨_, rfl⟩
  rw [hd2] at C2
  have HW2 := hidv hd2
  have HV := hidv hv2
  have HP := hidv hp
  obtain ⟨n, hnn⟩ : ∃ n, ns.length = n := ⟨_, rfl⟩
  obtain ⟨m, hmm⟩ : ∃ m, es.length = m := ⟨_, rfl⟩
  rw [hnn, hmm] at C1 HV ⊢
  have HNN := hidv hnn
  have HMM := hidv hmm
  have hbx := Bx.new w 27 #[.int .i64 s, .slice A n ca, .slice P m cp]
  have hb : Below w.heap.size w (w.alloc (.cells #[.int .i64 s, .slice A n ca, .slice P m cp] 27)) := (Below.refl _ _).alloc (by simp) _
  obtain ⟨W, hW⟩ : ∃ W, w.alloc (.cells #[.int .i64 s, .slice A n ca, .slice P m cp] 27) = W := ⟨_, rfl⟩
  rw [hW] at hbx hb
  have HB := hidv hb
  have HBX := hidv hbx
  have HWW := hidv hW
  clear hv hv2 hn hp hR hd1 hbx hb hd2 hW hnn hmm
  go_enter Try.func23, Try.ntmps23
  go_wp2_with fail
  rw [HWW.out]
  refine (C1.out _ HB.out).mono ?_
  rintro e w1 ⟨rfl, hb1⟩
  have HB1 := hidv (below_on HB.out hb1)
  have HBX1 := hidv (HBX.out.below hb1)
  clear hb1
  cases d1
  · obtain ⟨rfl, rfl⟩ := HR.out.1 (fun h => absurd (HD1.out.mpr h.1) (by simp))
    go_wp2_with fail
    go_ret2
    exact ⟨rfl, HB1.out⟩
  go_wp2_with fail
  refine (C2.out _).mono ?_
  rintro e w2 ⟨rfl, hw2⟩
  obtain rfl : w1 = w2 := hw2
  cases d2
  · obtain ⟨rfl, rfl⟩ := HR.out.1 (fun h => absurd (HW2.out.symm.trans h.2) (by simp))
    go_wp2_with fail
    go_ret2
    exact ⟨rfl, HB1.out⟩
  have HOK := hidv (show BndOk s ns es ∧ Wd.wordB x.data.toList = true from ⟨HD1.out.mp (by trivial), HW2.out⟩)
  obtain ⟨d3, hd3⟩ := iffB (InN 4 [k])
  have HD3 := hidv hd3
  clear hd3
  go_wp2_with fail
  have hrs : Row (w1.alloc (.cells #[.int .i64 k] 2)) (w1.heap.size + 1) (.slice (some ⟨w1.heap.size, 0, none⟩) 1 1) (ints [k]) := ⟨_, 1, rfl, fun _ => ⟨_, 0, rfl, by omega, fun i x hi => by
    rcases i with _ | i
    · have h := (Bx.new w1 2 #[.int .i64 k]).cell 0
      simp [ints] at hi
      subst hi
      exact h
    · simp [ints] at hi⟩⟩
  refine (areBelow_any _ [k] _ 4 _ hrs (by simp [maxLen]) d3 HD3.out).mono ?_
  rintro e w2 ⟨rfl, rfl⟩
  have HB2 := hidv (HB1.out.alloc HB1.out.size (.cells #[.int .i64 k] 2))
  have HBX2 := hidv (HBX1.out.alloc (.cells #[.int .i64 k] 2))
  clear hrs
  cases d3
  · obtain ⟨rfl, rfl⟩ := HR.out.2.1 HOK.out (fun h => absurd (HD3.out.mpr (fun j hj => by simp at hj; subst hj; show 0 ≤ k ∧ k < 4; omega)) (by simp))
    go_wp2_with fail
    go_ret2
    exact ⟨rfl, HB2.out⟩
  have hk3 := HD3.out.mp rfl 0 (by simp)
  have hk3 : 0 ≤ k ∧ k < 4 := hk3
  obtain ⟨k', rfl⟩ : ∃ k' : Nat, k = (k' : Int) := ⟨k.toNat, by omega⟩
  obtain ⟨rfl, hd⟩ := HR.out.2.2 HOK.out (by omega)
  rw [Int.toNat_natCast] at hd
  have hk4 : k' < 4 := by omega
  obtain ⟨st, hst⟩ : ∃ st : Nat, s = (st : Int) := ⟨s.toNat, by have := HOK.out.1.2.1; omega⟩
  have hstn : st < ns.length := by have := HOK.out.1.2.1; omega
  have hst4 : st < 4 := by have := HOK.out.1.1.2; omega
  obtain ⟨W3, hW3⟩ : ∃ W, w1.alloc (.cells #[.int .i64 (k' : Int)] 2) = W := ⟨_, rfl⟩
  rw [hW3] at HB2 HBX2 ⊢
  clear hW3
  have hml := mapM_lt HOK.out.1 x.data.toList [0, 1, 2, 3] (wordOk_of HOK.out.2) rfl (by decide)
  obtain ⟨x0, x1, x2, x3, hm⟩ := four_of hml.1
  have hT : [x0, x1, x2, x3][st]? = some (runM ns x.data.toList st) := by
    have h1 := mapM_run HOK.out.1 x.data.toList [0, 1, 2, 3] (wordOk_of HOK.out.2) st hst4
    have h2 : ([0, 1, 2, 3] : List Nat).getD st 0 = st := by
      have h : st = 0 ∨ st = 1 ∨ st = 2 ∨ st = 3 := by omega
      rcases h with rfl | rfl | rfl | rfl <;> rfl
    rw [h2] at h1
    have h3 := h1 hstn
    rw [hm] at h3
    rw [← h3, List.getD_eq_getElem?_getD, List.getElem?_eq_getElem (show st < [x0, x1, x2, x3].length from hst4)]
    rfl
  have hd2 : d = true ↔ ((runM ns x.data.toList st : Nat) : Int) ∈ es.getD k' [] := by
    unfold Allow5 ends5 at hd
    rw [hst, Int.toNat_natCast] at hd
    exact hd
  have CM := hidv (fun W (hW : Below w.heap.size w W) => mapOfWord_any _ s ns es w.heap.size x W (HV.out.below hW) hW.size HOK.out.1 HOK.out.2 x0 x1 x2 x3 hm)
  have CE := hidv (fun W (hW : Below w.heap.size w W) => endsWith_any (.agg #[.int .i64 s, .slice A n ca, .slice P m cp]) st ns es w.heap.size k' x0 x1 x2 x3 _ W (by have h := HV.out.below hW; rw [hst] at h ⊢; exact h) hW.size HP.out HOK.out.1.2.2.1 hst4 hk4 hT d hd2)
  have HS := hidv (fun W (hW : Below W3.heap.size W3 W) => (show W.cell? ⟨w.heap.size, 0, none⟩ = some (.int .i64 s) ∧ W.cell? ⟨w.heap.size, 1, none⟩ = some (.slice A n ca) ∧ W.cell? ⟨w.heap.size, 2, none⟩ = some (.slice P m cp) ∧ Below W3.heap.size W3 W from
    ⟨(HBX2.out.below hW).cell 0, (HBX2.out.below hW).cell 1, (HBX2.out.below hW).cell 2, hW⟩))
  have HBT := hidv (fun W (hW : Below W3.heap.size W3 W) => below_on HB2.out hW)
  clear hml hm hT hd2 hd hst hstn hk3
  go_wp2_with fail
  have rf1 : Below W3.heap.size W3 W3 := Below.refl _ _
  go_region_held3 (fun W => W.cell? ⟨w.heap.size, 0, none⟩ = some (.int .i64 s) ∧ W.cell? ⟨w.heap.size, 1, none⟩ = some (.slice A n ca) ∧ W.cell? ⟨w.heap.size, 2, none⟩ = some (.slice P m cp) ∧ Below W3.heap.size W3 W) (exact HS.out _ (by repeat (first | with_reducible assumption | with_reducible exact Below.refl _ _ | with_reducible refine Below.drew ?_ | with_reducible refine below_al ?_ _))) (first | (go_at_call 40; refine (CM.out _ (HBT.out _ (by repeat (first | with_reducible assumption | with_reducible exact Below.refl _ _ | with_reducible refine Below.drew ?_ | with_reducible refine below_al ?_ _)))).mono ?_; rintro e w5 ⟨rfl, hb5⟩; have BL5 := below_on (show Below W3.heap.size W3 _ from (by repeat (first | with_reducible assumption | with_reducible exact Below.refl _ _ | with_reducible refine Below.drew ?_ | with_reducible refine below_al ?_ _))) hb5) | (go_at_call 45; refine (CE.out _ (HBT.out _ (by repeat (first | with_reducible assumption | with_reducible exact Below.refl _ _ | with_reducible refine Below.drew ?_ | with_reducible refine below_al ?_ _)))).mono ?_; rintro e w6 ⟨rfl, hb6⟩; have BL6 := below_on (show Below W3.heap.size W3 _ from (by repeat (first | with_reducible assumption | with_reducible exact Below.refl _ _ | with_reducible refine Below.drew ?_ | with_reducible refine below_al ?_ _))) hb6))
  go_wp2_with fail
  go_ret2
  exact ⟨rfl, below_on HB2.out (by repeat (first | with_reducible assumption | with_reducible exact Below.refl _ _ | with_reducible refine Below.drew ?_ | with_reducible refine below_al ?_ _))⟩

end Go.Proofs.Ytncjfafailefoaa
