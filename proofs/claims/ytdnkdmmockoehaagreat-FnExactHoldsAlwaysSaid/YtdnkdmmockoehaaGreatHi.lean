/-
  Whether a family holds at a number, in the program: contracts.
-/
import Derived.Test.YtdnkdmmockoehaaGreatHl
import Derived.Test.YtdnkdmmockoehaaGreatHoldsI
import Derived.Test.YtdnkdmmockoehaaGreatSu
namespace Go.Proofs.YtdnkdmmockoehaaGreat
open Go.RowKit Go
set_option linter.unusedVariables false

set_option maxHeartbeats 400000 in
theorem closH_any (a : Int) (w : World) (ha : 0 ≤ a ∧ a ≤ 10000000000000) :
    Calls Tryz.prog 42 #[.int .i64 a] w fun e w' => e = .returned (.bool (decide (200000 < a))) ∧ w = w' := by
  obtain ⟨h0, h1⟩ := ha
  by_cases h : 200000 < a
  · rw [decide_eq_true h]
    go_enter Tryz.func42, Tryz.ntmps42
    go_wp2_with fail
    go_ret
    exact ⟨by simp, rfl⟩
  · rw [decide_eq_false h]
    go_enter Tryz.func42, Tryz.ntmps42
    go_wp2_with fail
    go_ret
    exact ⟨by simp, rfl⟩

set_option maxRecDepth 100000 in
set_option maxHeartbeats 800000 in
theorem indexH_any (L : List Int) (v : Value) (B : Nat) (w : World) (hv : Row w B v (ints L)) (hl : L.length ≤ 1048576) (hx : ∀ x ∈ L, 0 ≤ x ∧ x ≤ (10000000000000 : Nat)) :
    Calls Tryz.prog 62 #[v, .func (.func 42) #[] #[]] w fun e w' => ∃ i : Int, e = .returned (.int .i64 i) ∧ (0 ≤ i ↔ ∃ z ∈ L, 200000 < z) ∧ -1 ≤ i ∧ i ≤ 1048576 ∧ w = w' := by
  obtain ⟨A, c, rfl, hA⟩ := hv
  rw [show (ints L).length = L.length by simp [ints]] at hA ⊢
  obtain ⟨n, hn⟩ : ∃ n, L.length = n := ⟨_, rfl⟩
  have HA := hidv hA
  have HX := hidv hx
  rw [hn] at hl ⊢
  have HN := hidv hn
  clear hA hx hn
  go_enter Tryz.func62, Tryz.ntmps62
  go_wp2
  go_loop [8] (fun i => ∃ k : Nat, k ≤ n ∧ i = .int .i64 k ∧ Hid (∀ j (h : j < L.length), j < k → L[j] ≤ 200000)) (fun i => n - (intOf i).toNat)
  case atStart => exact ⟨0, Nat.zero_le _, rfl, hidv (fun j h hj => by omega)⟩
  case round =>
    obtain ⟨k, hk, rfl, hall⟩ := hrel
    by_cases hlt : k < n
    · have hkx : k < L.length := by have := HN.out; omega
      obtain ⟨g, o, rfl, hg, hce⟩ := HA.out (by have := HN.out; omega)
      have c1 := hce k _ (map_int_at hkx)
      have hb := HX.out L[k] (List.getElem_mem _)
      have hmem := List.getElem_mem hkx
      obtain ⟨y, hy⟩ : ∃ a, L[k] = a := ⟨_, rfl⟩
      rw [hy] at c1 hb hmem
      have HC := hidv (fun W => closH_any y W ⟨hb.1, by have := hb.2; omega⟩)
      obtain ⟨q, hq⟩ : ∃ q, decide (200000 < y) = q := ⟨_, rfl⟩
      rw [hq] at HC
      have HQ := hidv hq
      have HME := hidv hmem
      have HYX := hidv hy
      clear hq hy hmem hce hb
      go_wp2_with fail
      refine (HC.out _).mono ?_
      rintro e w2 ⟨rfl, rfl⟩
      cases q
      · have hne : y ≤ 200000 := by have := of_decide_eq_false HQ.out; omega
        have hall2 : ∀ j (h : j < L.length), j < k + 1 → L[j] ≤ 200000 := fun j h hj => by
          rcases Nat.lt_or_ge j k with h2 | h2
          · exact hall.out j h h2
          · obtain rfl : j = k := by omega
            rw [HYX.out]
            exact hne
        have HALL := hidv hall2
        clear hall2 hne
        go_wp2_with fail
        go_round
        case rel => exact ⟨k + 1, by omega, by go_num, HALL⟩
        case measure => simp [intOf]; omega
      · have HBIG := hidv (show 200000 < y from of_decide_eq_true HQ.out)
        go_wp2_with fail
        go_ret
        exact ⟨_, rfl, ⟨fun _ => ⟨y, HME.out, HBIG.out⟩, fun _ => by omega⟩, by omega, by omega, rfl⟩
    · obtain rfl : k = n := by omega
      have hno : ¬ ∃ z ∈ L, 200000 < z := fun ⟨z, hz, h⟩ => by
        obtain ⟨j, hj, rfl⟩ := List.getElem_of_mem hz
        have := hall.out j hj (by have := HN.out; omega); omega
      have HNO := hidv hno
      clear hno
      go_wp2
      go_ret
      exact ⟨_, rfl, ⟨fun h => by omega, fun h => absurd h HNO.out⟩, by omega, by omega, rfl⟩

set_option maxHeartbeats 800000 in
theorem containsH_any (L : List Int) (v : Value) (B : Nat) (w : World) (hv : Row w B v (ints L)) (hl : L.length ≤ 1048576) (hx : ∀ x ∈ L, 0 ≤ x ∧ x ≤ (10000000000000 : Nat)) (d : Bool) (hd : d = true ↔ ∃ z ∈ L, 200000 < z) :
    Calls Tryz.prog 39 #[v, .func (.func 42) #[] #[]] w fun e w' => e = .returned (.bool d) ∧ w = w' := by
  have C := hidv (fun W (hW : w = W) => (show Calls Tryz.prog 62 #[v, .func (.func 42) #[] #[]] W fun e w' => ∃ i : Int, e = .returned (.int .i64 i) ∧ (0 ≤ i ↔ ∃ z ∈ L, 200000 < z) ∧ -1 ≤ i ∧ i ≤ 1048576 ∧ W = w' from by subst hW; exact indexH_any L v B w hv hl hx))
  obtain ⟨A, c, rfl, _⟩ := id hv
  have HD := hidv hd
  clear hv hx hd
  go_enter Tryz.func39, Tryz.ntmps39
  go_wp2_with fail
  refine (C.out _ rfl).mono ?_
  rintro e w2 ⟨i, rfl, hi, hm, hM, rfl⟩
  have HI := hidv hi
  clear hi
  by_cases h : 0 ≤ i
  · obtain rfl : d = true := HD.out.mpr (HI.out.mp h)
    go_wp2_with fail
    go_ret
    exact ⟨by simp, rfl⟩
  · obtain rfl : d = false := iff_no HD.out (fun hh => h (HI.out.mpr hh))
    go_wp2_with fail
    go_ret
    exact ⟨by simp [h], rfl⟩

theorem tLensK_bound {es : List Eqn} {rs : List (List Pc)} {k : Int} (hs : sysB es = true) (hok : FamOk rs) (hk : 0 ≤ k ∧ k ≤ 1000000) : ∀ z ∈ tLens es (rs.map (gsum (pcLen k))), 0 ≤ z ∧ z ≤ (10000000000000 : Nat) := tLens_bound hs (lensL hok hk)

set_option maxRecDepth 100000 in
set_option maxHeartbeats 1600000 in
theorem canBe_any (v p : Value) (es : List Eqn) (rs : List (List Pc)) (B C : Nat) (k : Int) (w : World) (hv : ERow w B v es) (hB : B ≤ w.heap.size) (hs : sysB es = true) (hp : QRows w C p rs) (hC : C ≤ w.heap.size) (hok : FamOk rs) (hk : 0 ≤ k ∧ k ≤ 1000000) (d : Bool) (hd : d = true ↔ ∃ z ∈ tLens es (rs.map (gsum (pcLen k))), 200000 < z) :
    Calls Tryz.prog 22 #[.agg #[v, p], .int .i64 k] w fun e w' => e = .returned (.bool (!d)) ∧ Below w.heap.size w w' := by
  obtain ⟨Ap, cp, rfl, _⟩ := hp.at
  obtain ⟨A, c, rfl, _⟩ := id hv
  obtain ⟨n, hn⟩ : ∃ n, es.length = n := ⟨_, rfl⟩
  have h4 := hok.1
  have hes := sysB_len hs
  have hbl : Below w.heap.size w (w.alloc (.cells #[.slice A es.length c, .slice Ap rs.length cp] 52)) := (Below.refl _ _).alloc (Nat.le_refl _) _
  have hbx := Bx.new w 52 #[.slice A es.length c, .slice Ap rs.length cp]
  have C1 := hidv (fun W (hW : Below w.heap.size w W) => lengthsAt_any (.agg #[.slice Ap rs.length cp]) rs C k W ⟨_, rfl, hp.below (hW.mono hC)⟩ (Nat.le_trans hC hW.size) hok hk)
  have C2 := hidv (fun u W D (hW : Below w.heap.size w W) (hD : D ≤ W.heap.size) (hr : Row W D u ((rs.map (gsum (pcLen k))).map (Value.int .i64))) => termLengths_any (.slice A es.length c) (.slice Ap rs.length cp) u es (rs.map (gsum (pcLen k))) B D W (hv.below (hW.mono hB)) (Nat.le_trans hB hW.size) hs ⟨_, _, _, rfl⟩ hr hD (lensL hok hk))
  have hbd := tLensK_bound hs hok hk
  have hlen := tLens_length es (rs.map (gsum (pcLen k)))
  obtain ⟨L, hL⟩ : ∃ L, tLens es (rs.map (gsum (pcLen k))) = L := ⟨_, rfl⟩
  rw [hL] at C2 hbd hlen hd
  have C3 := hidv (fun u W D (hr : Row W D u (ints L)) => containsH_any L u D W hr (by omega) hbd d hd)
  rw [hn] at hbl hbx C2 hes hlen
  rw [h4] at hbl hbx C1 C2
  rw [hn, h4]
  have HL := hidv hlen
  clear hv hs hp hok hn h4 hbd hL hlen hd
  go_enter Tryz.func22, Tryz.ntmps22
  obtain ⟨W, hW⟩ : ∃ W, w.alloc (.cells #[.slice A n c, .slice Ap 4 cp] 52) = W := ⟨_, rfl⟩
  rw [hW] at hbl hbx
  have HS := hidv (fun w' (hw : Below W.heap.size W w') => (show w'.cell? ⟨w.heap.size, 0, none⟩ = some (.slice A n c) ∧ w'.cell? ⟨w.heap.size, 1, none⟩ = some (.slice Ap 4 cp) ∧ Below W.heap.size W w' from ⟨(hbx.below hw).two.1, (hbx.below hw).two.2, hw⟩))
  have HK := hidv (fun w' (hw : Below W.heap.size W w') => below_on hbl hw)
  have HB := hidv hbl
  clear hbl hbx
  go_wp2_with fail
  clear hW
  have rf : Below W.heap.size W W := Below.refl _ _
  go_region_held3 (fun w' => w'.cell? ⟨w.heap.size, 0, none⟩ = some (.slice A n c) ∧ w'.cell? ⟨w.heap.size, 1, none⟩ = some (.slice Ap 4 cp) ∧ Below W.heap.size W w') (exact HS.out _ (by repeat (first | with_reducible assumption | with_reducible exact Below.refl _ _ | with_reducible refine Below.drew ?_ | with_reducible refine below_al ?_ _))) (first | (go_at_call 41; refine (C1.out _ (HK.out _ (by repeat (first | with_reducible assumption | with_reducible exact Below.refl _ _ | with_reducible refine Below.drew ?_ | with_reducible refine below_al ?_ _)))).mono ?_; rintro e w5 ⟨u5, rfl, hu5, hbw⟩; have hbw1 := below_on (show Below W.heap.size W _ from (by repeat (first | with_reducible assumption | with_reducible exact Below.refl _ _ | with_reducible refine Below.drew ?_ | with_reducible refine below_al ?_ _))) hbw; have hu5r := hu5.row) | (go_at_call 40; refine (C2.out u5 _ _ (HK.out _ (by repeat (first | with_reducible assumption | with_reducible exact Below.refl _ _ | with_reducible refine Below.drew ?_ | with_reducible refine below_al ?_ _))) (Nat.le_refl _) hu5r).mono ?_; rintro e w6 ⟨u6, rfl, hu6, hbz⟩; have hbw2 := below_on (show Below W.heap.size W _ from (by repeat (first | with_reducible assumption | with_reducible exact Below.refl _ _ | with_reducible refine Below.drew ?_ | with_reducible refine below_al ?_ _))) hbz; have hu6r := hu6.row) | (go_at_call 39; refine (C3.out u6 _ _ hu6r).mono ?_; rintro e w7 ⟨rfl, rfl⟩))
  have HB6 := hidv (HK.out _ hbw2)
  clear hu6 hu6r hbw2 hu5 hu5r hbw1 hbw hbz
  go_wp2_with fail
  go_ret
  exact ⟨rfl, HB6.out⟩

end Go.Proofs.YtdnkdmmockoehaaGreat
