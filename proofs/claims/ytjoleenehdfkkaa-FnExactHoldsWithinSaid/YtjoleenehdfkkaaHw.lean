/-
  HoldsWithin: what the model looks for within bounds, and the program: contracts.
-/
import Derived.Test.YtjoleenehdfkkaaOu
import Derived.Test.YtjoleenehdfkkaaAl
import Derived.Test.YtjoleenehdfkkaaEw
import Derived.Test.YtjoleenehdfkkaaHa
namespace Go.Proofs.Ytjoleenehdfkkaa
open Go.RowKit Go
set_option linter.unusedVariables false

/-- The value of each unknown that occurs is allowed. -/
def WithinP (es : List Eqn) (s : Int) (ns ps : List (List Int)) (xs : List ByteArray) : Prop := ∀ k, k < 4 → occ es k = true → Allow5 s ns ps k (xs.getD k ⟨#[]⟩)
theorem vals_at {xs : List ByteArray} (h : valsB xs = true) (k : Nat) (hk : k < 4) : ∃ hk' : k < xs.length, Wd.wordB xs[k].data.toList = true ∧ xs.getD k ⟨#[]⟩ = xs[k] := by
  unfold valsB at h
  rw [Bool.and_eq_true, decide_eq_true_eq, List.all_eq_true] at h
  have hk' : k < xs.length := by omega
  exact ⟨hk', h.2 _ (List.getElem_mem _), by rw [List.getD_eq_getElem?_getD, List.getElem?_eq_getElem hk']; rfl⟩
theorem occL_at (es : List Eqn) (k : Nat) (hk : k < 4) : (occL es)[k]? = some (occ es k) := by simp [occL, hk]

set_option maxRecDepth 100000 in
set_option maxHeartbeats 3200000 in
theorem goodWithin_any (b gb gu : Nat) (v u : Value) (es : List Eqn) (s : Int) (ns ps : List (List Int)) (A P : Option Addr) (ca cp : Nat) (xs : List ByteArray) (w : World) (c0 : w.cell? ⟨b, 0, none⟩ = some v) (c1 : w.cell? ⟨b, 1, none⟩ = some (.slice none 0 0)) (c2 : w.cell? ⟨b, 2, none⟩ = some (.pointer (some ⟨gb, 0, none⟩)))
    (c3 : w.cell? ⟨b, 3, none⟩ = some (.bool true)) (c4 : w.cell? ⟨b, 4, none⟩ = some (.slice (some ⟨gu, 0, none⟩) 4 4)) (hu4 : ∀ k, k < 4 → w.cell? ⟨gu, k, none⟩ = some (.bool (occ es k)))
    (d0 : w.cell? ⟨gb, 0, none⟩ = some (.int .i64 s)) (d1 : w.cell? ⟨gb, 1, none⟩ = some (.slice A ns.length ca)) (d2 : w.cell? ⟨gb, 2, none⟩ = some (.slice P ps.length cp))
    (hn : IRows w w.heap.size (.slice A ns.length ca) ns) (hp : IRows w w.heap.size (.slice P ps.length cp) ps) (hpm : RowsMax maxLen ps) (hok : BndOk s ns ps)
    (hv : ERow w w.heap.size v es) (h : sysB es = true) (hr : Row w w.heap.size u (xs.map Value.string)) (hx : valsB xs = true) (d : Bool) (hd : d = true ↔ (holdsB es xs = true ∧ WithinP es s ns ps xs)) :
    Calls Try.prog 23 #[.pointer (some ⟨b, 0, none⟩), u] w fun e w' => e = .returned (.bool d) ∧ Below w.heap.size w w' := by
  have hbl : b < w.heap.size := World.block_lt_of_cell? _ _ c0
  have hgb : gb < w.heap.size := World.block_lt_of_cell? _ _ d0
  have hgu : gu < w.heap.size := World.block_lt_of_cell? _ _ (hu4 0 (by omega))
  have C0 := hidv (specHolds_any v u es xs _ _ w hv h hr hx)
  obtain ⟨Av, cv, rfl, _⟩ := hv
  obtain ⟨Ax, cx, rfl, hXA⟩ := strRow_at hr
  have hxl : xs.length = 4 := by unfold valsB at hx; rw [Bool.and_eq_true, decide_eq_true_eq] at hx; exact hx.1
  obtain ⟨gx, ox, rfl, hgx, hcx⟩ := hXA (by omega)
  rw [hxl] at C0 ⊢
  have HV := hidv (fun k hk => vals_at hx k hk)
  have HCX := hidv hcx
  have HD := hidv hd
  have HU := hidv hu4
  have CA := hidv (fun W (hW : Below w.heap.size w W) k (hk : k < 4) x (hxw : Wd.wordB x.data.toList = true) (e : Bool) (he : e = true ↔ Allow5 s ns ps k x) => l05Allows_any gb s ns ps A P ca cp w.heap.size k x W ((hW.cell (p := ⟨gb, 0, none⟩) hgb).trans d0) ((hW.cell (p := ⟨gb, 1, none⟩) hgb).trans d1) ((hW.cell (p := ⟨gb, 2, none⟩) hgb).trans d2) (hn.below hW) (hp.below hW) hpm hW.size (Nat.lt_of_lt_of_le hgb hW.size) hok hxw hk e he)
  have HC := hidv (fun W (hW : Below w.heap.size w W) => (show W.cell? ⟨b, 1, none⟩ = some (.slice none 0 0) ∧ W.cell? ⟨b, 2, none⟩ = some (.pointer (some ⟨gb, 0, none⟩)) ∧ W.cell? ⟨b, 3, none⟩ = some (.bool true) ∧ W.cell? ⟨b, 4, none⟩ = some (.slice (some ⟨gu, 0, none⟩) 4 4) from
    ⟨(hW.cell (p := ⟨b, 1, none⟩) hbl).trans c1, (hW.cell (p := ⟨b, 2, none⟩) hbl).trans c2, (hW.cell (p := ⟨b, 3, none⟩) hbl).trans c3, (hW.cell (p := ⟨b, 4, none⟩) hbl).trans c4⟩))
  obtain ⟨hb, hhb⟩ : ∃ hb, holdsB es xs = hb := ⟨_, rfl⟩
  rw [hhb] at C0
  have HHB := hidv hhb
  obtain ⟨m, hm⟩ : ∃ m, es.length = m := ⟨_, rfl⟩
  rw [hm] at c0 C0
  clear h hx hr hd hhb hm c1 c2 c3 c4 d0 d1 d2 hn hp hpm hok hu4 hXA hcx
  go_enter Try.func23, Try.ntmps23
  go_wp2_with fail
  refine C0.out.mono ?_
  rintro e w1 ⟨rfl, hb1⟩
  have HB1 := hidv hb1
  clear hb1 c0
  cases hb
  · obtain rfl : d = false := iff_no HD.out (fun h => by rw [HHB.out] at h; cases h.1)
    go_wp2_with fail
    go_ret
    exact ⟨rfl, HB1.out⟩
  obtain ⟨y1, y2, y3, y4⟩ := HC.out w1 HB1.out
  go_wp2_with fail
  go_loopw [5] (fun i wr => i = .int .i64 0 ∧ w1 = wr) (fun _ _ => 0)
  case atStart => exact ⟨rfl, rfl⟩
  case round =>
    obtain ⟨rfl, rfl⟩ := hrel
    go_wp2_with fail
    go_loopw [6] (fun i wr => ∃ k : Nat, k ≤ 4 ∧ i = .int .i64 (k : Int) ∧ Hid (∀ j, j < k → occ es j = true → Allow5 s ns ps j (xs.getD j ⟨#[]⟩)) ∧ Hid (Below w.heap.size w wr)) (fun i _ => 4 - (intOf i).toNat)
    case atStart => exact ⟨0, by omega, rfl, hidv (fun j hj => by omega), HB1⟩
    case round =>
      obtain ⟨k, hk, rfl, hall, hbe⟩ := hrel
      by_cases hlt : k < 4
      · obtain ⟨hkx, hword, hget⟩ := HV.out k hlt
        obtain ⟨o, ho⟩ : ∃ o, occ es k = o := ⟨_, rfl⟩
        have hS := hidv (fun W (hW : Below w.heap.size w W) => (show W.cell? ⟨b, 2, none⟩ = some (.pointer (some ⟨gb, 0, none⟩)) ∧ W.cell? ⟨b, 4, none⟩ = some (.slice (some ⟨gu, 0, none⟩) 4 4) ∧ W.cell? ⟨gu, k, none⟩ = some (.bool o) ∧ W.cell? ⟨gx, ox + k, none⟩ = some (.string xs[k]) ∧ Below w.heap.size w W from
          ⟨(HC.out W hW).2.1, (HC.out W hW).2.2.2, by rw [← ho]; exact (hW.cell (p := ⟨gu, k, none⟩) hgu).trans (HU.out k hlt), (hW.cell (p := ⟨gx, ox + k, none⟩) hgx).trans (HCX.out k hkx), hW⟩))
        obtain ⟨a, ha⟩ := iffB (Allow5 s ns ps k xs[k])
        have CK := hidv (fun W (hW : Below w.heap.size w W) => CA.out W hW k hlt xs[k] hword a ha)
        have HAA := hidv ha
        have HOO := hidv ho
        have HGG := hidv hget
        have i1 : (0 : Int) ≤ (k : Int) := by omega
        have i2 : (k : Int) < 4 := by omega
        obtain ⟨x, hxk⟩ : ∃ x, xs[k] = x := ⟨_, rfl⟩
        rw [hxk] at hS CK HAA HGG
        have rf1 := hbe.out
        clear hword hget ho ha hxk
        cases o
        · have hall2 := hidv (show ∀ j, j < k + 1 → occ es j = true → Allow5 s ns ps j (xs.getD j ⟨#[]⟩) from fun j hj ho => by
            rcases Nat.lt_or_ge j k with h2 | h2
            · exact hall.out j h2 ho
            · obtain rfl : j = k := by omega
              rw [HOO.out] at ho; cases ho)
          obtain ⟨q2, q4, q5, q6, _⟩ := hS.out wr rf1
          go_wp2_with fail
          go_quiet (fail)
          go_wp2_with fail
          go_roundw
          case rel => exact ⟨k + 1, by omega, by go_num, hall2, hidv (below_drewN hbe.out _)⟩
          case measure => simp [intOf]; omega
        · go_wp2_with fail
          go_region_held3 (fun W => W.cell? ⟨b, 2, none⟩ = some (.pointer (some ⟨gb, 0, none⟩)) ∧ W.cell? ⟨b, 4, none⟩ = some (.slice (some ⟨gu, 0, none⟩) 4 4) ∧ W.cell? ⟨gu, k, none⟩ = some (.bool true) ∧ W.cell? ⟨gx, ox + k, none⟩ = some (.string x) ∧ Below w.heap.size w W) (exact hS.out _ (by repeat (first | with_reducible assumption | with_reducible exact Below.refl _ _ | with_reducible refine Below.drew ?_ | with_reducible refine below_al ?_ _))) (first | (go_at_call 42; refine (CK.out _ (by repeat (first | with_reducible assumption | with_reducible exact Below.refl _ _ | with_reducible refine Below.drew ?_ | with_reducible refine below_al ?_ _))).mono ?_; rintro e w5 ⟨rfl, hb5⟩; have BL5 := below_on (show Below w.heap.size w _ from (by repeat (first | with_reducible assumption | with_reducible exact Below.refl _ _ | with_reducible refine Below.drew ?_ | with_reducible refine below_al ?_ _))) hb5))
          cases a
          · obtain rfl : d = false := iff_no HD.out (fun h => by
              have h2 := h.2 k hlt HOO.out
              rw [HGG.out] at h2
              exact absurd (HAA.out.mpr h2) (by simp))
            go_wp2_with fail
            go_ret
            exact ⟨rfl, (by repeat (first | with_reducible assumption | with_reducible exact Below.refl _ _ | with_reducible refine Below.drew ?_ | with_reducible refine below_al ?_ _))⟩
          · have hall2 := hidv (show ∀ j, j < k + 1 → occ es j = true → Allow5 s ns ps j (xs.getD j ⟨#[]⟩) from fun j hj ho => by
              rcases Nat.lt_or_ge j k with h2 | h2
              · exact hall.out j h2 ho
              · obtain rfl : j = k := by omega
                rw [HGG.out]; exact HAA.out.mp rfl)
            go_wp2_with fail
            go_roundw
            case rel => exact ⟨k + 1, by omega, by go_num, hall2, hidv (by repeat (first | with_reducible assumption | with_reducible exact Below.refl _ _ | with_reducible refine Below.drew ?_ | with_reducible refine below_al ?_ _))⟩
            case measure => simp [intOf]; omega
      · obtain rfl : d = true := iff_yes HD.out ⟨HHB.out, fun j hj ho => hall.out j (by omega) ho⟩
        go_wp2_with fail
        go_ret
        exact ⟨rfl, hbe.out⟩

/-- What HoldsWithin tells: a bool and a code. -/
def WithinR (es : List Eqn) (s : Int) (ns ps : List (List Int)) (xs : List ByteArray) (d : Bool) (c : Int) : Prop :=
  (¬ (sysB es = true ∧ BndOk s ns ps ∧ valsB xs = true) → d = false ∧ c = 1) ∧ ((sysB es = true ∧ BndOk s ns ps ∧ valsB xs = true) → c = 0 ∧ (d = true ↔ (holdsB es xs = true ∧ WithinP es s ns ps xs)))
theorem withinR_ex (es : List Eqn) (s : Int) (ns ps : List (List Int)) (xs : List ByteArray) : ∃ d c, WithinR es s ns ps xs d c := by
  by_cases h1 : sysB es = true ∧ BndOk s ns ps ∧ valsB xs = true
  · obtain ⟨d, hd⟩ := iffB (holdsB es xs = true ∧ WithinP es s ns ps xs)
    exact ⟨d, 0, fun h => absurd h1 h, fun _ => ⟨rfl, hd⟩⟩
  · exact ⟨false, 1, fun _ => ⟨rfl, rfl⟩, fun h => absurd h h1⟩

theorem l05Within_any (gb : Nat) (v : Value) (es : List Eqn) (s : Int) (ns ps : List (List Int)) (A P : Option Addr) (ca cp B C : Nat) (w : World) (d0 : w.cell? ⟨gb, 0, none⟩ = some (.int .i64 s)) (d1 : w.cell? ⟨gb, 1, none⟩ = some (.slice A ns.length ca)) (d2 : w.cell? ⟨gb, 2, none⟩ = some (.slice P ps.length cp))
    (hn : IRows w B (.slice A ns.length ca) ns) (hp : IRows w B (.slice P ps.length cp) ps) (hnm : RowsMax maxLen ns) (hpm : RowsMax maxLen ps) (hB : B ≤ w.heap.size)
    (hv : ERow w C v es) (hC : C ≤ w.heap.size) (hx : es.length ≤ 1048576) (hs : ∀ e ∈ es, e.1.size ≤ maxLen ∧ e.2.size ≤ maxLen) (c : Int) (h1 : (sysB es = true ∧ BndOk s ns ps) → c = 0) (h2 : ¬ (sysB es = true ∧ BndOk s ns ps) → c = 1) :
    Calls Try.prog 20 #[v, .pointer (some ⟨gb, 0, none⟩)] w fun e w' => e = .returned (.int .i64 c) ∧ Below w.heap.size w w' := by
  have hgb : gb < w.heap.size := World.block_lt_of_cell? _ _ d0
  have C1 := hidv (specSys_any v es C w hv hC hx hs)
  obtain ⟨d, hd⟩ := iffB (BndOk s ns ps)
  have C2 := hidv (fun W (hW : Below w.heap.size w W) => l05Ok_any gb s ns ps A P ca cp B W ((hW.cell (p := ⟨gb, 0, none⟩) hgb).trans d0) ((hW.cell (p := ⟨gb, 1, none⟩) hgb).trans d1) ((hW.cell (p := ⟨gb, 2, none⟩) hgb).trans d2) (hn.below (hW.mono hB)) (hp.below (hW.mono hB)) hnm hpm d hd)
  have HD := hidv hd
  obtain ⟨Av, cv, rfl, _⟩ := hv
  obtain ⟨a, ha⟩ : ∃ a, sysB es = a := ⟨_, rfl⟩
  rw [ha] at C1 h1 h2
  obtain ⟨m, hm⟩ : ∃ m, es.length = m := ⟨_, rfl⟩
  rw [hm] at C1 ⊢
  clear ha hm hd hs hx d0 d1 d2 hn hp
  cases a
  · obtain rfl : c = 1 := h2 (fun h => by cases h.1)
    clear h1 h2
    go_enter Try.func20, Try.ntmps20
    go_wp2_with fail
    refine C1.out.mono ?_
    rintro e w1 ⟨rfl, hb1⟩
    go_wp2_with fail
    go_ret
    exact ⟨rfl, hb1⟩
  cases d
  · obtain rfl : c = 1 := h2 (fun h => absurd (HD.out.mpr h.2) (by simp))
    clear h1 h2
    go_enter Try.func20, Try.ntmps20
    go_wp2_with fail
    refine C1.out.mono ?_
    rintro e w1 ⟨rfl, hb1⟩
    go_wp2_with fail
    refine (C2.out _ hb1).mono ?_
    rintro e w2 ⟨rfl, q, rfl⟩
    go_wp2_with fail
    go_ret
    exact ⟨rfl, below_drewN hb1 _⟩
  · obtain rfl : c = 0 := h1 ⟨rfl, HD.out.mp rfl⟩
    clear h1 h2
    go_enter Try.func20, Try.ntmps20
    go_wp2_with fail
    refine C1.out.mono ?_
    rintro e w1 ⟨rfl, hb1⟩
    go_wp2_with fail
    refine (C2.out _ hb1).mono ?_
    rintro e w2 ⟨rfl, q, rfl⟩
    go_wp2_with fail
    go_ret
    exact ⟨rfl, below_drewN hb1 _⟩

set_option maxRecDepth 100000 in
set_option maxHeartbeats 3200000 in
theorem specWithin_any (v u y : Value) (es : List Eqn) (s : Int) (ns ps : List (List Int)) (xs : List ByteArray) (B C D : Nat) (w : World) (hv : ERow w C v es) (hC : C ≤ w.heap.size) (hx : es.length ≤ 1048576) (hs : ∀ e ∈ es, e.1.size ≤ maxLen ∧ e.2.size ≤ maxLen)
    (hy : Bnd w B y s ns ps) (hB : B ≤ w.heap.size) (hn : RowsMax maxLen ns) (hp : RowsMax maxLen ps) (hr : Row w D u (xs.map Value.string)) (hD : D ≤ w.heap.size) (hxl : xs.length ≤ 1048576) (hxs : ∀ s ∈ xs, s.size ≤ maxLen) (d : Bool) (c : Int) (hR : WithinR es s ns ps xs d c) :
    Calls Try.prog 8 #[v, y, u] w fun e w' => e = .returned (.tuple #[.bool d, .int .i64 c]) ∧ Below w.heap.size w w' := by
  obtain ⟨va, vb, rfl, hv1, hu1⟩ := hy.more hB
  obtain ⟨A, ca, rfl, _⟩ := hv1.at
  obtain ⟨P, cp, rfl, _⟩ := hu1.at
  have hb : Below w.heap.size w (w.alloc (.cells #[.int .i64 s, .slice A ns.length ca, .slice P ps.length cp] 34)) := (Below.refl _ _).alloc (by simp) _
  have hbx := Bx.new w 34 #[.int .i64 s, .slice A ns.length ca, .slice P ps.length cp]
  obtain ⟨e1, he1⟩ : ∃ e1 : Int, ((sysB es = true ∧ BndOk s ns ps) → e1 = 0) ∧ (¬ (sysB es = true ∧ BndOk s ns ps) → e1 = 1) := by
    by_cases h : sysB es = true ∧ BndOk s ns ps
    · exact ⟨0, fun _ => rfl, fun h2 => absurd h h2⟩
    · exact ⟨1, fun h2 => absurd h2 h, fun _ => rfl⟩
  have HR := hidv hR
  have hs0 : w.heap.size < (w.alloc (.cells #[.int .i64 s, .slice A ns.length ca, .slice P ps.length cp] 34)).heap.size := by simp
  obtain ⟨W, hW⟩ : ∃ W, w.alloc (.cells #[.int .i64 s, .slice A ns.length ca, .slice P ps.length cp] 34) = W := ⟨_, rfl⟩
  rw [hW] at hb hbx hs0
  have C1 := hidv (l05Within_any w.heap.size v es s ns ps A P ca cp w.heap.size C W hbx.three.1 hbx.three.2.1 hbx.three.2.2 (hv1.below hb) (hu1.below hb) hn hp (by omega) (hv.below (hb.mono hC)) (by omega) hx hs e1 he1.1 he1.2)
  have C2 := hidv (fun W' (hb : Below w.heap.size w W') => specVals_any u xs D W' (hr.below (hb.mono hD)) hxl hxs)
  have C3 := hidv (fun W' (hb : Below w.heap.size w W') (h : sysB es = true) => used_any v es C W' (hv.below (hb.mono hC)) (Nat.le_trans hC hb.size) h)
  have HB := hidv hb
  have HBX := hidv hbx
  have HWW := hidv hW
  have HE := hidv he1
  have HV := hidv hv
  have HRR := hidv hr
  have HNS := hidv hv1
  have HPS := hidv hu1
  have HPM := hidv hp
  obtain ⟨n, hnn⟩ : ∃ n, ns.length = n := ⟨_, rfl⟩
  obtain ⟨m, hmm⟩ : ∃ n, ps.length = n := ⟨_, rfl⟩
  have hvf : ∃ Av cv, v = .slice Av es.length cv := by obtain ⟨Av, cv, h, _⟩ := hv; exact ⟨Av, cv, h⟩
  have huf : ∃ Au cu, u = .slice Au xs.length cu := by obtain ⟨Au, cu, h, _⟩ := strRow_at hr; exact ⟨Au, cu, h⟩
  have HNN := hidv hnn
  have HMM := hidv hmm
  obtain ⟨f, hf⟩ : ∃ b, valsB xs = b := ⟨_, rfl⟩
  have HF := hidv hf
  rw [hf] at C2
  rw [hnn, hmm] at HWW HBX ⊢
  clear hy hv1 hu1 hb hbx hW hv hr he1 hs hxs hn hp hR hnn hmm hf
  obtain ⟨Av, cv, rfl⟩ := hvf
  obtain ⟨Au, cu, rfl⟩ := huf
  obtain ⟨N, hN⟩ : ∃ n, es.length = n := ⟨_, rfl⟩
  obtain ⟨M, hM⟩ : ∃ n, xs.length = n := ⟨_, rfl⟩
  rw [hN] at C1 C3 HV ⊢
  rw [hM] at C2 HRR ⊢
  clear hN hM
  go_enter Try.func8, Try.ntmps8
  go_wp2_with fail
  rw [HWW.out]
  refine C1.out.mono ?_
  rintro e w1 ⟨rfl, hb1⟩
  have HB1 := hidv (below_on HB.out hb1)
  have HX1 := hidv (HBX.out.below hb1)
  clear hb1
  by_cases hbad : ¬ (sysB es = true ∧ BndOk s ns ps)
  · obtain rfl : e1 = 1 := HE.out.2 hbad
    obtain ⟨rfl, rfl⟩ := HR.out.1 (fun h => hbad ⟨h.1, h.2.1⟩)
    go_wp2_with fail
    go_ret2
    exact ⟨rfl, HB1.out⟩
  have HG := hidv (Classical.byContradiction hbad)
  obtain rfl : e1 = 0 := HE.out.1 HG.out
  clear hbad
  go_wp2_with fail
  refine (C2.out _ HB1.out).mono ?_
  rintro e w2 ⟨rfl, hw2⟩
  obtain rfl : w1 = w2 := hw2
  cases f
  · obtain ⟨rfl, rfl⟩ := HR.out.1 (fun h => by have := HF.out.symm.trans h.2.2; cases this)
    go_wp2_with fail
    go_ret2
    exact ⟨rfl, HB1.out⟩
  obtain ⟨rfl, hd⟩ := HR.out.2 ⟨HG.out.1, HG.out.2, HF.out⟩
  have HDD := hidv hd
  clear hd
  go_wp2_with fail
  refine (C3.out _ HB1.out HG.out.1).mono ?_
  rintro e w3 ⟨gu, rfl, hou, hb3⟩
  have HB3 := hidv (below_on HB1.out hb3)
  have HX3 := hidv (HX1.out.below hb3)
  have HOU := hidv hou
  clear hb3 hou
  go_wp2_with fail
  have hb5 : Below w.heap.size w (w3.alloc (.cells #[.slice Av N cv, .slice none 0 0, .pointer (some ⟨w.heap.size, 0, none⟩), .bool true, .slice (some ⟨gu, 0, none⟩) 4 4, .int .i64 0, .slice none 0 0, .bool false] 54)) := HB3.out.alloc HB3.out.size _
  have hx5 := Bx.new w3 54 #[.slice Av N cv, .slice none 0 0, .pointer (some ⟨w.heap.size, 0, none⟩), .bool true, .slice (some ⟨gu, 0, none⟩) 4 4, .int .i64 0, .slice none 0 0, .bool false]
  have hz5 := HX3.out.alloc (.cells #[.slice Av N cv, .slice none 0 0, .pointer (some ⟨w.heap.size, 0, none⟩), .bool true, .slice (some ⟨gu, 0, none⟩) 4 4, .int .i64 0, .slice none 0 0, .bool false] 54)
  have ho5 := own_below HOU.out (below_al (Below.refl w3.heap.size w3) (.cells #[.slice Av N cv, .slice none 0 0, .pointer (some ⟨w.heap.size, 0, none⟩), .bool true, .slice (some ⟨gu, 0, none⟩) 4 4, .int .i64 0, .slice none 0 0, .bool false] 54))
  obtain ⟨W5, hW5⟩ : ∃ W, w3.alloc (.cells #[.slice Av N cv, .slice none 0 0, .pointer (some ⟨w.heap.size, 0, none⟩), .bool true, .slice (some ⟨gu, 0, none⟩) 4 4, .int .i64 0, .slice none 0 0, .bool false] 54) = W := ⟨_, rfl⟩
  rw [hW5] at hb5 hx5 hz5 ho5 ⊢
  clear hW5
  refine (goodWithin_any w3.heap.size w.heap.size gu _ _ es s ns ps A P ca cp xs W5 (hx5.cell 0) (hx5.cell 1) (hx5.cell 2) (hx5.cell 3) (hx5.cell 4) (fun k hk => by
      rw [ho5.cellAt k (by omega), List.getElem?_map, occL_at es k hk]; rfl) (hz5.cell 0) (by rw [HNN.out]; exact hz5.cell 1) (by rw [HMM.out]; exact hz5.cell 2)
    ((HNS.out.below hb5).more hb5.size) ((HPS.out.below hb5).more hb5.size) HPM.out HG.out.2 ((HV.out.below (hb5.mono hC)).more (Nat.le_trans hC hb5.size)) HG.out.1 ((HRR.out.below (hb5.mono hD)).more (Nat.le_trans hD hb5.size)) HF.out d HDD.out).mono ?_
  rintro e w6 ⟨rfl, hb6⟩
  have HBF := hidv (below_on hb5 hb6)
  clear hb6 hb5 hx5 hz5 ho5
  go_wp2_with fail
  go_ret2
  exact ⟨rfl, HBF.out⟩

end Go.Proofs.Ytjoleenehdfkkaa
