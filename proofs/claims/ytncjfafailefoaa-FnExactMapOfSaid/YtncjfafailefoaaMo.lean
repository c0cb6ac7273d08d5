/-
  MapOf, of the model and of the program: contracts.
-/
import Derived.Test.YtncjfafailefoaaMk
import Derived.Test.YtncjfafailefoaaL6
import Derived.Laws.AppendOwnNone
namespace Go.Proofs.Ytncjfafailefoaa
open Go.RowKit Go
set_option linter.unusedVariables false

theorem Row.cells5 {w : World} {B : Nat} {v : Value} {xs : List Value} (h : Row w B v xs) : ∃ A c, v = .slice A xs.length c ∧ (A = none → xs = []) ∧ ∀ ad, A = some ad → 0 < xs.length → ad.block < B ∧ ∀ j u, xs[j]? = some u → w.cell? (ad.add j) = some u := by
  obtain ⟨A, c, hv, hc⟩ := h
  refine ⟨A, c, hv, ?_, ?_⟩
  · rintro rfl
    rcases Nat.eq_zero_or_pos xs.length with h0 | h0
    · exact List.eq_nil_of_length_eq_zero h0
    · obtain ⟨g, o, hA, _⟩ := hc h0
      cases hA
  · rintro ad rfl h0
    obtain ⟨g, o, hA, hg, hcell⟩ := hc h0
    injection hA with hA
    subst hA
    exact ⟨hg, fun j u hu => by rw [show (⟨g, o, none⟩ : Addr).add j = ⟨g, o + j, none⟩ by unfold Addr.add; split <;> simp_all]; exact hcell j u hu⟩

set_option maxRecDepth 100000 in
set_option maxHeartbeats 800000 in
theorem clone5_any (ad : Addr) (c : Nat) (xs : List Int) (B n : Nat) (w : World) (hv : Row w B (.slice (some ad) n c) (xs.map (Value.int .i64))) (hB : B ≤ w.heap.size) (hl : xs.length = n) (hn : n ≤ 1000000) :
    Calls Try.prog 41 #[.slice (some ad) n c] w fun e w' => ∃ u, e = .returned u ∧ Ints w' w.heap.size u xs ∧ Below w.heap.size w w' := by
  obtain ⟨i0, hi, hz0, hz1, hz2⟩ := info_parts Try.infoI5
  obtain ⟨A, c', hve, hA0, hA⟩ := hv.cells5
  simp only [Value.slice.injEq] at hve
  obtain ⟨rfl, -, rfl⟩ := hve
  have hlit := World.ownsRow_lit (e := 2) (size := 1) (base := w.heap.size) w #[] 0 (Nat.le_refl _) (Nat.zero_le _) rfl
  have HLIT := hidv hlit
  have HA := hidv hA
  have hnews : ∀ j u, (xs.map (Value.int .i64))[j]? = some u → (w.alloc (.cells #[] 2)).cell? (ad.add j) = some u := by
    intro j u hu
    have h0 : 0 < xs.length := by
      rcases Nat.eq_zero_or_pos xs.length with h1 | h1
      · rw [List.eq_nil_of_length_eq_zero h1] at hu; simp at hu
      · exact h1
    obtain ⟨hb, hc⟩ := HA.out ad rfl (by simpa using h0)
    rw [World.cell?_alloc_lt w _ _ (by rw [show (ad.add j).block = ad.block by unfold Addr.add; split <;> rfl]; omega)]
    exact hc j u hu
  have HN := hidv hnews
  have HL := hidv hl
  have q22 := fun (w : World) => Lib.run_eql_slice_nil (P := Try.prog) w 32 2 (some ad) n c 0 0 Try.underlying32
  clear hnews hA0 hlit hA hv hl
  go_enter Try.func41, Try.ntmps41
  go_wp2_with (at_builtin; refine wpList_append_own _ rfl (.tmp 5) (.tmp 6) 32 rfl w.heap.size 2 i0 (.int .i64 0) 1 8 Try.underlying32 hi hz0 hz1 hz2 rfl (by decide) _ 0 [] rfl HLIT.out ad n c (xs.map (Value.int .i64)) rfl (by simp [HL.out]) HN.out (by intro u hu; simp at hu; obtain ⟨x, _, rfl⟩ := hu; rfl) ?_ ?_ ?_ ?_; (unfold maxLen; omega); omega; simp; intro v1 w1 hown1 hgr1 _)
  have HO := hidv hown1
  have HB1 := hidv (((Below.refl w.heap.size w).alloc (Nat.le_refl _) (.cells #[] 2)).grown hgr1 (by simp) (fun k hk => by have h1 : some w.heap.size = some k := hk; injection h1 with h1; omega))
  clear hown1 hgr1
  go_wp2_with fail
  go_ret
  refine ⟨_, rfl, ?_, HB1.out⟩
  have := HO.out
  simp only [Nat.zero_add, List.nil_append] at this
  unfold Ints
  rw [HL.out]
  exact this

/-- What MapOf tells: numbers and a code. -/
def MapR (s : Int) (ns es : List (List Int)) (x : ByteArray) (L : List Int) (c : Int) : Prop :=
  (¬ (BndOk s ns es ∧ Wd.wordB x.data.toList = true) → L = [] ∧ c = 1) ∧ ((BndOk s ns es ∧ Wd.wordB x.data.toList = true) → L = mapI ns x.data.toList ns.length ∧ c = 0)
theorem mapR_ex (s : Int) (ns es : List (List Int)) (x : ByteArray) : ∃ L c, MapR s ns es x L c ∧ L.length ≤ 4 := by
  by_cases h1 : BndOk s ns es ∧ Wd.wordB x.data.toList = true
  · exact ⟨mapI ns x.data.toList ns.length, 0, ⟨fun h => absurd h1 h, fun _ => ⟨rfl, rfl⟩⟩, by rw [mapI_len]; exact h1.1.1.2⟩
  · exact ⟨[], 1, ⟨fun _ => ⟨rfl, rfl⟩, fun h => absurd h h1⟩, by simp⟩

set_option maxRecDepth 100000 in
set_option maxHeartbeats 3200000 in
theorem specMapOf_any (v : Value) (s : Int) (ns es : List (List Int)) (B : Nat) (x : ByteArray) (w : World) (hv : Bnd w B v s ns es) (hB : B ≤ w.heap.size) (hn : RowsMax maxLen ns) (hp : RowsMax maxLen es) (hxl : x.size ≤ maxLen) (L : List Int) (c : Int) (hR : MapR s ns es x L c) :
    Calls Try.prog 16 #[v, .string x] w fun e w' => ∃ u, e = .returned (.tuple #[u, .int .i64 c]) ∧ Ints w' w.heap.size u L ∧ Below w.heap.size w w' := by
  obtain ⟨va, vb, rfl, hv1, hu1⟩ := hv.more hB
  obtain ⟨A, ca, rfl, _⟩ := hv1.at
  obtain ⟨P, cp, rfl, _⟩ := hu1.at
  have hb : Below w.heap.size w (w.alloc (.cells #[.int .i64 s, .slice A ns.length ca, .slice P es.length cp] 27)) := (Below.refl _ _).alloc (by simp) _
  have hbx := (Bx.new w 27 #[.int .i64 s, .slice A ns.length ca, .slice P es.length cp]).three
  obtain ⟨d1, hd1⟩ := iffB (BndOk s ns es)
  have HD1 := hidv hd1
  have HR := hidv hR
  have C1 := hidv (l05Ok_any w.heap.size s ns es A P ca cp w.heap.size _ hbx.1 hbx.2.1 hbx.2.2 (hv1.below hb) (hu1.below hb) hn hp d1 hd1)
  have C2 := hidv (fun W => specWord_any x W hxl)
  have HB := hidv hb
  obtain ⟨d2, hd2⟩ : ∃ d2, Wd.wordB x.data.toList = d2 := ⟨_, rfl⟩
  obtain ⟨W, hW⟩ : ∃ W, w.alloc (.cells #[.int .i64 s, .slice A ns.length ca, .slice P es.length cp] 27) = W := ⟨_, rfl⟩
  have hWs : w.heap.size < W.heap.size := by rw [← hW]; simp
  have hBq : w.heap.size ≤ W.heap.size := by omega
  have CA := hidv (fun (hok : BndOk s ns es) (hx : Wd.wordB x.data.toList = true) (m : Nat) =>
    (show Calls Try.prog 38 #[.pointer (some ⟨w.heap.size, 0, none⟩), .string x] (W.drewN m) fun e1 w' => ∃ u, e1 = .returned u ∧ Ints w' (W.drewN m).heap.size u (mapI ns x.data.toList ns.length) ∧ Below (W.drewN m).heap.size (W.drewN m) w' from by
      rw [hW] at hb hbx
      exact l05Map_any w.heap.size s ns es A P ca cp w.heap.size x (W.drewN m) hbx.1 hbx.2.1 hbx.2.2 (hv1.below (below_drewN hb m)) hBq hWs hok hx))
  rw [hW] at C1 HB
  rw [hd2] at C2
  have HW2 := hidv hd2
  have HWW := hidv hW
  clear hv hv1 hu1 hn hp hR hd1 hbx hb hd2 hW
  go_enter Try.func16, Try.ntmps16
  go_wp2_with fail
  rw [HWW.out]
  refine C1.out.mono ?_
  rintro e w1 ⟨rfl, q, rfl⟩
  have hlit := World.ownsRow_lit (e := 2) (size := 1) (base := w.heap.size) (W.drewN q) #[] 0 hBq (Nat.zero_le _) rfl
  have HLIT := hidv hlit
  clear hlit
  cases d1
  · obtain ⟨rfl, rfl⟩ := HR.out.1 (fun h => absurd (HD1.out.mpr h.1) (by simp))
    go_wp2_with fail
    go_ret2
    exact ⟨_, rfl, HLIT.out, (below_drewN HB.out _).alloc hBq _⟩
  go_wp2_with fail
  refine (C2.out _).mono ?_
  rintro e w1 ⟨rfl, rfl⟩
  cases d2
  · obtain ⟨rfl, rfl⟩ := HR.out.1 (fun h => absurd (HW2.out.symm.trans h.2) (by simp))
    go_wp2_with fail
    go_ret2
    exact ⟨_, rfl, HLIT.out, (below_drewN HB.out _).alloc hBq _⟩
  have HOK := hidv (show BndOk s ns es ∧ Wd.wordB x.data.toList = true from ⟨HD1.out.mp (by trivial), HW2.out⟩)
  obtain ⟨hL, rfl⟩ := HR.out.2 HOK.out
  have HL := hidv hL
  have CF := hidv (CA.out HOK.out.1 HOK.out.2 q)
  clear hL
  go_wp2_with fail
  refine CF.out.mono ?_
  rintro e w2 ⟨u, rfl, hu, hb2⟩
  have HBF := hidv (below_on (below_drewN HB.out q) hb2)
  have HU := hidv hu
  clear hb2 hu
  go_wp2_with fail
  go_ret2
  refine ⟨_, rfl, ?_, HBF.out⟩
  rw [HL.out]
  exact own_wider HU.out hBq

set_option maxRecDepth 100000 in
set_option maxHeartbeats 3200000 in
theorem implMapOf_any (v : Value) (s : Int) (ns es : List (List Int)) (B : Nat) (x : ByteArray) (w : World) (hv : Bnd w B v s ns es) (hB : B ≤ w.heap.size) (hn : RowsMax maxLen ns) (hp : RowsMax maxLen es) (hxl : x.size ≤ maxLen) (L : List Int) (c : Int) (hR : MapR s ns es x L c) :
    Calls Try.prog 17 #[v, .string x] w fun e w' => ∃ u, e = .returned (.tuple #[u, .int .i64 c]) ∧ Ints w' w.heap.size u L ∧ Below w.heap.size w w' := by
  obtain ⟨A, ca, P, cp, rfl⟩ := (hv.more hB).form
  have hv2 := hv.more hB
  obtain ⟨d1, hd1⟩ := iffB (BndOk s ns es)
  have HD1 := hidv hd1
  have HR := hidv hR
  have C1 := hidv (fun W (hW : Below w.heap.size w W) => implVB_any _ s ns es w.heap.size W (hv2.below hW) hW.size hn hp d1 hd1)
  have C2 := hidv (fun W => implValidWord_any x W hxl)
  obtain ⟨d2, hd2⟩ : ∃ d2, Wd.wordB x.data.toList = d2 := ⟨_, rfl⟩
  rw [hd2] at C2
  have HW2 := hidv hd2
  have HV := hidv hv2
  obtain ⟨n, hnn⟩ : ∃ n, ns.length = n := ⟨_, rfl⟩
  obtain ⟨m, hmm⟩ : ∃ m, es.length = m := ⟨_, rfl⟩
  rw [hnn, hmm] at C1 HV ⊢
  have HNN := hidv hnn
  have hbx := Bx.new w 27 #[.int .i64 s, .slice A n ca, .slice P m cp]
  have hb : Below w.heap.size w (w.alloc (.cells #[.int .i64 s, .slice A n ca, .slice P m cp] 27)) := (Below.refl _ _).alloc (by simp) _
  obtain ⟨W, hW⟩ : ∃ W, w.alloc (.cells #[.int .i64 s, .slice A n ca, .slice P m cp] 27) = W := ⟨_, rfl⟩
  rw [hW] at hbx hb
  have HB := hidv hb
  have HBX := hidv hbx
  have HWW := hidv hW
  clear hv hv2 hn hp hR hd1 hbx hb hd2 hW hnn hmm
  go_enter Try.func17, Try.ntmps17
  go_wp2_with fail
  rw [HWW.out]
  refine (C1.out _ HB.out).mono ?_
  rintro e w1 ⟨rfl, hb1⟩
  have HB1 := hidv (below_on HB.out hb1)
  have HBX1 := hidv (HBX.out.below hb1)
  clear hb1
  cases d1
  · obtain ⟨rfl, rfl⟩ := HR.out.1 (fun h => absurd (HD1.out.mpr h.1) (by simp))
    go_wp2_with fail
    go_ret2
    exact ⟨_, rfl, Ints.nil _ _, HB1.out⟩
  obtain ⟨z0, z1, z2⟩ := HBX1.out.three
  go_wp2_with fail
  refine (C2.out _).mono ?_
  rintro e w2 ⟨rfl, hw2⟩
  obtain rfl : w1 = w2 := hw2
  cases d2
  · obtain ⟨rfl, rfl⟩ := HR.out.1 (fun h => absurd (HW2.out.symm.trans h.2) (by simp))
    go_wp2_with fail
    go_ret2
    exact ⟨_, rfl, Ints.nil _ _, HB1.out⟩
  have HOK := hidv (show BndOk s ns es ∧ Wd.wordB x.data.toList = true from ⟨HD1.out.mp (by trivial), HW2.out⟩)
  obtain ⟨hL, rfl⟩ := HR.out.2 HOK.out
  have HL := hidv hL
  have hml := mapM_lt HOK.out.1 x.data.toList [0, 1, 2, 3] (wordOk_of HOK.out.2) rfl (by decide)
  obtain ⟨x0, x1, x2, x3, hm⟩ := four_of hml.1
  have hn4 : n ≤ 4 := by have := HOK.out.1.1.2; have := HNN.out; omega
  have hn1 : 1 ≤ n := by have := HOK.out.1.1.1; have := HNN.out; omega
  have HT := hidv (show ∀ st, st < n → [x0, x1, x2, x3][st]? = some (runM ns x.data.toList st) from fun st hst => by
    have hstn : st < ns.length := by have := HNN.out; omega
    have hst4 : st < 4 := by omega
    have h1 := mapM_run HOK.out.1 x.data.toList [0, 1, 2, 3] (wordOk_of HOK.out.2) st hst4
    have h2 : ([0, 1, 2, 3] : List Nat).getD st 0 = st := by
      have h : st = 0 ∨ st = 1 ∨ st = 2 ∨ st = 3 := by omega
      rcases h with rfl | rfl | rfl | rfl <;> rfl
    rw [h2] at h1
    have h3 := h1 hstn
    rw [hm] at h3
    rw [← h3, List.getD_eq_getElem?_getD, List.getElem?_eq_getElem (show st < [x0, x1, x2, x3].length from hst4)]
    rfl)
  have CM := hidv (fun W (hW : Below w.heap.size w W) => mapOfWord_any _ s ns es w.heap.size x W (HV.out.below hW) hW.size HOK.out.1 HOK.out.2 x0 x1 x2 x3 hm)
  clear hml hm hL
  go_wp2_with fail
  refine (CM.out _ HB1.out).mono ?_
  rintro e w2 ⟨rfl, hb2⟩
  have HB2 := hidv (below_on HB1.out hb2)
  have HBX2 := hidv ((HBX1.out.below hb2).alloc (.cells #[.int .i64 (x0 : Int), .int .i64 (x1 : Int), .int .i64 (x2 : Int), .int .i64 (x3 : Int)] 59))
  have hmx := Bx.new w2 59 #[.int .i64 (x0 : Int), .int .i64 (x1 : Int), .int .i64 (x2 : Int), .int .i64 (x3 : Int)]
  have HMX := hidv hmx
  have HB3 := hidv (HB2.out.alloc HB2.out.size (.cells #[.int .i64 (x0 : Int), .int .i64 (x1 : Int), .int .i64 (x2 : Int), .int .i64 (x3 : Int)] 59))
  obtain ⟨W3, hW3⟩ : ∃ W, w2.alloc (.cells #[.int .i64 (x0 : Int), .int .i64 (x1 : Int), .int .i64 (x2 : Int), .int .i64 (x3 : Int)] 59) = W := ⟨_, rfl⟩
  have hlt2 : w2.heap.size < W3.heap.size := by rw [← hW3]; simp
  rw [hW3] at HBX2 HMX HB3
  clear hb2 hmx z0 z1 z2
  obtain ⟨z0, z1, z2⟩ := HBX2.out.three
  have i1 : (n : Int) ≤ 4 := by omega
  have i2 : (0 : Int) ≤ (n : Int) := by omega
  have hrow : Row W3 (w2.heap.size + 1) (.slice (some ⟨w2.heap.size, 0, none⟩) n 4) ((mapI ns x.data.toList n).map (Value.int .i64)) := ⟨some ⟨w2.heap.size, 0, none⟩, 4, by rw [List.length_map, mapI_len], fun _ => ⟨_, 0, rfl, by omega, fun i y hy => by
    have hin : i < n := by
      rcases Nat.lt_or_ge i n with h | h
      · exact h
      · rw [List.getElem?_eq_none (by rw [List.length_map, mapI_len]; exact h)] at hy; cases hy
    rw [List.getElem?_map, show (mapI ns x.data.toList n)[i]? = some (runM ns x.data.toList i : Int) from by simp [mapI, hin]] at hy
    simp only [Option.map_some, Option.some.injEq] at hy
    rw [HMX.out.cell]
    have h := HT.out i hin
    have h4 : i = 0 ∨ i = 1 ∨ i = 2 ∨ i = 3 := by omega
    rcases h4 with rfl | rfl | rfl | rfl <;> simp at h <;> rw [← h] at hy <;> rw [← hy] <;> rfl⟩⟩
  have CC := hidv (clone5_any ⟨w2.heap.size, 0, none⟩ 4 (mapI ns x.data.toList n) _ n W3 hrow (by omega) (mapI_len _ _ _) (by omega))
  clear hrow
  go_wp2_with fail
  refine CC.out.mono ?_
  rintro e w4 ⟨u, rfl, hu, hb4⟩
  have HU := hidv hu
  have HBF := hidv (below_on HB3.out hb4)
  have hsz := HB3.out.size
  clear hu hb4
  go_wp2_with fail
  go_ret2
  refine ⟨_, rfl, ?_, HBF.out⟩
  rw [HL.out, HNN.out]
  exact own_wider HU.out hsz

end Go.Proofs.Ytncjfafailefoaa
