/-
  Which unknowns occur in a system, in the program and in the model: contracts.
-/
import Derived.Test.YtdnkdmmockoehaaGreatHoldsI
import Derived.Test.YtdnkdmmockoehaaGreatCounts
import Derived.Deep.RegionHeld3
import Derived.BigRegion
namespace Go.Proofs.YtdnkdmmockoehaaGreat
open Go.RowKit Go
set_option linter.unusedVariables false

def ukB (k : Nat) : UInt8 := ([88, 89, 90, 87] : List UInt8).getD k 0
def inE (e : Eqn) (k : Nat) : Bool := e.1.data.toList.contains (ukB k) || e.2.data.toList.contains (ukB k)
def occ (es : List Eqn) (k : Nat) : Bool := es.any fun e => inE e k
def occL (es : List Eqn) : List Bool := (List.range 4).map (occ es)
def ocS (P : List Eqn) (e : Eqn) (x : Nat) : List Bool := (List.range 4).map fun k => occ P k || (decide (k < x) && inE e k)
theorem range_setB {N i : Nat} {x : Bool} {f g : Nat → Bool} (hi : i < N) (hx : g i = x) (h : ∀ j, j < N → j ≠ i → g j = f j) : ((List.range N).map f).set i x = (List.range N).map g := by
  apply List.ext_getElem
  · simp
  · intro j h1 h2
    simp only [List.length_map, List.length_range] at h2
    rw [List.getElem_set]
    split
    · rename_i he; subst he; simp [hx]
    · rename_i he; simp; exact (h j h2 (fun e => he e.symm)).symm
theorem ocS_zero (P : List Eqn) (e : Eqn) : ocS P e 0 = occL P := by
  unfold ocS occL; congr 1; funext k; simp
theorem ocS_four (P : List Eqn) (e : Eqn) : ocS P e 4 = occL (P ++ [e]) := by
  unfold ocS occL
  refine List.map_congr_left fun k hk => ?_
  have hk4 : k < 4 := by simpa using hk
  simp [occ, hk4]
theorem ocS_set (P : List Eqn) (e : Eqn) (x : Nat) (hx : x < 4) : (ocS P e x).set x (occ P x || inE e x) = ocS P e (x + 1) := by
  refine range_setB hx (by simp) ?_
  intro j hj hne
  have h : decide (j < x + 1) = decide (j < x) := by
    rw [Bool.eq_iff_iff, decide_eq_true_iff, decide_eq_true_iff]; omega
  rw [h]
theorem ocS_at (P : List Eqn) (e : Eqn) (x : Nat) (hx : x < 4) : (ocS P e x)[x]? = some (occ P x) := by
  simp [ocS, hx]
def arrB (L : List Bool) : Array Value := (L.map Value.bool).toArray
theorem arrB_get (xs : List Bool) (k : Nat) {x : Bool} (h : xs[k]? = some x) : (arrB xs)[k]? = some (.bool x) := by simp [arrB, h]
theorem arrB_set (xs : List Bool) (k : Nat) (x : Bool) : (arrB xs).setIfInBounds k (.bool x) = arrB (xs.set k x) := by simp [arrB]
theorem uk_four {k : Nat} (h : k < 4) : k = 0 ∨ k = 1 ∨ k = 2 ∨ k = 3 := by omega
theorem unkText5_any (k : Nat) (h : k < 4) (w : World) :
    Calls Tryz.prog 68 #[.int .i64 (k : Int)] w fun e w' => e = .returned (.string ⟨#[ukB k]⟩) ∧ w' = w := by
  rcases uk_four h with rfl | rfl | rfl | rfl
  all_goals
    go_enter Tryz.func68, Tryz.ntmps68
    go_wp2
    go_ret
    exact ⟨rfl, rfl⟩
theorem contains_in (l r : ByteArray) (k : Nat) : decide (0 ≤ Lib.indexByte (l ++ r).data.toList (ukB k)) = inE (l, r) k := by
  have h := Wd.indexByte_neg (l ++ r).data.toList (ukB k)
  have h2 : (l ++ r).data.toList.contains (ukB k) = inE (l, r) k := by
    unfold inE
    rw [ByteArray.data_append, Array.toList_append, List.contains_append]
  rw [h2] at h
  by_cases h3 : Lib.indexByte (l ++ r).data.toList (ukB k) < 0
  · rw [decide_eq_true h3] at h
    rw [decide_eq_false (by omega)]
    cases h4 : inE (l, r) k
    · rfl
    · rw [h4] at h; cases h
  · rw [decide_eq_false h3] at h
    rw [decide_eq_true (by omega)]
    cases h4 : inE (l, r) k
    · rw [h4] at h; cases h
    · rfl

set_option maxRecDepth 100000 in
set_option maxHeartbeats 1600000 in
theorem occurring_any (v : Value) (es : List Eqn) (B : Nat) (w : World) (hv : ERow w B v es) (hB : B ≤ w.heap.size) (hs : ∀ e ∈ es, e.1.size ≤ 1000000 ∧ e.2.size ≤ 1000000) (hl : es.length ≤ 1048576) :
    Calls Tryz.prog 43 #[v] w fun e w' => e = .returned (.agg #[.bool (occ es 0), .bool (occ es 1), .bool (occ es 2), .bool (occ es 3)]) ∧ Below w.heap.size w w' := by
  obtain ⟨A, c, rfl, hA⟩ := hv
  obtain ⟨n, hn⟩ : ∃ n, es.length = n := ⟨_, rfl⟩
  have HA := hidv hA
  have HS := hidv hs
  rw [hn] at hl ⊢
  have HN := hidv hn
  clear hA hn hs
  have hz0 := (Bx.new w 78 #[.bool false, .bool false, .bool false, .bool false]).alloc (.cells #[.bool false, .bool false, .bool false, .bool false] 78)
  have hx0 := Bx.new (w.alloc (.cells #[.bool false, .bool false, .bool false, .bool false] 78)) 78 #[.bool false, .bool false, .bool false, .bool false]
  rw [World.size_alloc] at hx0
  have HB0 := hidv (show Below w.heap.size w ((w.alloc (.cells #[.bool false, .bool false, .bool false, .bool false] 78)).alloc (.cells #[.bool false, .bool false, .bool false, .bool false] 78)) from ((Below.refl _ _).alloc (by simp) _).alloc (by simp) _)
  have HZ0 := hidv hz0
  have HX0 := hidv hx0
  clear hz0 hx0
  go_enter Tryz.func43, Tryz.ntmps43
  go_wp2_with fail
  obtain ⟨W, hW⟩ : ∃ W, ((w.alloc (.cells #[.bool false, .bool false, .bool false, .bool false] 78)).alloc (.cells #[.bool false, .bool false, .bool false, .bool false] 78)) = W := ⟨_, rfl⟩
  rw [hW] at HB0 HZ0 HX0 ⊢
  clear hW
  go_loopw [9] (fun i wr => ∃ k : Nat, k ≤ n ∧ i = .int .i64 (k : Int) ∧ Hid (Bx wr (w.heap.size + 1) 78 (arrB (occL (es.take k)))) ∧ Hid (Bx wr w.heap.size 78 #[.bool false, .bool false, .bool false, .bool false]) ∧ Hid (Below w.heap.size w wr)) (fun i _ => n - (intOf i).toNat)
  case atStart => exact ⟨0, by omega, rfl, HX0, HZ0, HB0⟩
  case round =>
    obtain ⟨k, hk, rfl, hx, hz, hbe⟩ := hrel
    by_cases hlt : k < n
    · have hkx : k < es.length := by have := HN.out; omega
      obtain ⟨g, o, rfl, hg, hce⟩ := HA.out (by omega)
      have c1 : wr.cell? ⟨g, o + k * 2, none⟩ = some (.string es[k].1) := (hbe.out.cell (p := ⟨g, _, none⟩) (by show g < _; omega)).trans (hce k hkx).1
      have c2 : wr.cell? ⟨g, o + k * 2 + 1, none⟩ = some (.string es[k].2) := (hbe.out.cell (p := ⟨g, _, none⟩) (by show g < _; omega)).trans (hce k hkx).2
      have hsz := HS.out es[k] (List.getElem_mem _)
      have htk := List.take_succ_eq_append_getElem hkx
      obtain ⟨⟨l, r⟩, hlr⟩ : ∃ x, es[k] = x := ⟨_, rfl⟩
      rw [hlr] at c1 c2 hsz htk
      dsimp only at c1 c2 hsz
      have HTK := hidv htk
      obtain ⟨WO, hWO⟩ : ∃ W, wr = W := ⟨_, rfl⟩
      rw [hWO] at hx hz hbe c1 c2 ⊢
      have HE1 := hidv (Bx.new WO 48 #[.string l, .string r])
      have HX1 := hidv (show Bx (WO.alloc (.cells #[.string l, .string r] 48)) (w.heap.size + 1) 78 (arrB (ocS (es.take k) (l, r) 0)) from by rw [ocS_zero]; exact hx.out.alloc _)
      have HZ1 := hidv (hz.out.alloc (.cells #[.string l, .string r] 48))
      have HB1 := hidv (hbe.out.alloc hbe.out.size (.cells #[.string l, .string r] 48))
      have hgx := hx.out.lt
      obtain ⟨gE, hgE⟩ : ∃ g, WO.heap.size = g := ⟨_, rfl⟩
      obtain ⟨W1, hW1⟩ : ∃ W, WO.alloc (.cells #[.string l, .string r] 48) = W := ⟨_, rfl⟩
      rw [hW1] at HE1 HX1 HZ1 HB1
      rw [hgE] at HE1 hgx
      have hcat : ¬ (9223372036854775807 < l.size + r.size) := by omega
      clear hWO hce hlr htk hx hz hbe hsz
      go_wp2_with fail
      clear hW1
      go_loopw [13] (fun i wr => ∃ x : Nat, x ≤ 4 ∧ i = .int .i64 (x : Int) ∧ Hid (Bx wr (w.heap.size + 1) 78 (arrB (ocS (es.take k) (l, r) x))) ∧ Hid (Bx wr gE 48 #[.string l, .string r]) ∧ Hid (Bx wr w.heap.size 78 #[.bool false, .bool false, .bool false, .bool false]) ∧ Hid (Below w.heap.size w wr)) (fun i _ => 4 - (intOf i).toNat)
      case atStart => exact ⟨0, by omega, rfl, HX1, HE1, HZ1, HB1⟩
      case round =>
        obtain ⟨x, hx4, rfl, hx, he, hz, hbe⟩ := hrel
        by_cases hxl : x < 4
        · have hst := ocS_set (es.take k) (l, r) x hxl
          obtain ⟨o1, ho1⟩ : ∃ b, occ (es.take k) x = b := ⟨_, rfl⟩
          have cx : wr.cell? ⟨w.heap.size + 1, x, none⟩ = some (.bool o1) := by
            rw [hx.out.cell x, ← ho1]
            exact arrB_get _ _ (ocS_at _ _ x hxl)
          have fx : wr.frozen? ⟨w.heap.size + 1, x, none⟩ = false := hx.out.frozen x
          obtain ⟨e0, e1⟩ := he.out.two
          obtain ⟨b, hb⟩ : ∃ b, inE (l, r) x = b := ⟨_, rfl⟩
          have CT := hidv (fun W => unkText5_any x hxl W)
          have CC := hidv (show ∀ W, Calls Tryz.prog 67 #[.string (l ++ r), .string ⟨#[ukB x]⟩] W fun e w' => e = .returned (.bool b) ∧ w' = W from fun W => by
            have h := Tryz.strings_Contains_one (l ++ r) (ukB x) W
            rw [contains_in, hb] at h
            exact h)
          rw [ho1, hb] at hst
          have HST := hidv hst
          have i1 : (0 : Int) ≤ (x : Int) := by omega
          have i2 : (x : Int) < 4 := by omega
          obtain ⟨u, hu⟩ : ∃ u : ByteArray, ⟨#[ukB x]⟩ = u := ⟨_, rfl⟩
          rw [hu] at CT CC
          clear hst ho1 hb hu
          cases o1
          · have hst2 : (ocS (es.take k) (l, r) x).set x b = ocS (es.take k) (l, r) (x + 1) := by have h := HST.out; rwa [Bool.false_or] at h
            have HS2 := hidv hst2
            clear hst2
            go_wp2_with fail
            go_region_with (first | (go_at_call 68; refine (CT.out _).mono ?_; rintro e w5 ⟨rfl, rfl⟩) | (go_at_call 67; refine (CC.out _).mono ?_; rintro e w6 ⟨rfl, rfl⟩))
            all_goals (
              go_wp2_with fail
              go_roundw
              case rel =>
                refine ⟨x + 1, by omega, by go_num, hidv ?_, hidv (show Bx (wr.setCell _ _) gE 48 _ from he.out.far _ (by simp <;> omega) _), hidv (show Bx (wr.setCell _ _) w.heap.size 78 _ from hz.out.far _ (by simp <;> omega) _), hidv (Below.drew (hbe.out.setCell (by simp <;> omega) _))⟩
                rw [← HS2.out, ← arrB_set]
                exact (show Bx (wr.setCell _ _) (w.heap.size + 1) 78 _ from hx.out.set _ _)
              case measure => simp [intOf]; omega)
          · have hst2 : (ocS (es.take k) (l, r) x).set x true = ocS (es.take k) (l, r) (x + 1) := by have h := HST.out; rwa [Bool.true_or] at h
            have HS2 := hidv hst2
            clear hst2
            go_wp2_with fail
            go_region
            go_wp2_with fail
            go_roundw
            case rel =>
              refine ⟨x + 1, by omega, by go_num, hidv ?_, hidv (show Bx (wr.setCell _ _) gE 48 _ from he.out.far _ (by simp <;> omega) _), hidv (show Bx (wr.setCell _ _) w.heap.size 78 _ from hz.out.far _ (by simp <;> omega) _), hidv (Below.drew (hbe.out.setCell (by simp <;> omega) _))⟩
              rw [← HS2.out, ← arrB_set]
              exact (show Bx (wr.setCell _ _) (w.heap.size + 1) 78 _ from hx.out.set _ _)
            case measure => simp [intOf]; omega
        · obtain rfl : x = 4 := by omega
          rw [ocS_four, ← HTK.out] at hx
          go_wp2_with fail
          go_roundw
          case rel => exact ⟨k + 1, by omega, by go_num, hx, hz, hbe⟩
          case measure => simp [intOf]; omega
    · rw [List.take_of_length_le (by have := HN.out; omega)] at hx
      have hx2 : Bx wr (w.heap.size + 1) 78 #[.bool (occ es 0), .bool (occ es 1), .bool (occ es 2), .bool (occ es 3)] := hx.out
      obtain ⟨b0, hb0⟩ : ∃ b, occ es 0 = b := ⟨_, rfl⟩
      obtain ⟨b1, hb1⟩ : ∃ b, occ es 1 = b := ⟨_, rfl⟩
      obtain ⟨b2, hb2⟩ : ∃ b, occ es 2 = b := ⟨_, rfl⟩
      obtain ⟨b3, hb3⟩ : ∃ b, occ es 3 = b := ⟨_, rfl⟩
      rw [hb0, hb1, hb2, hb3] at hx2
      have HBS := hidv (show occ es 0 = b0 ∧ occ es 1 = b1 ∧ occ es 2 = b2 ∧ occ es 3 = b3 from ⟨hb0, hb1, hb2, hb3⟩)
      have y0 : wr.cell? ⟨w.heap.size + 1, 0, none⟩ = some (.bool b0) := hx2.cell 0
      have y1 : wr.cell? ⟨w.heap.size + 1, 1, none⟩ = some (.bool b1) := hx2.cell 1
      have y2 : wr.cell? ⟨w.heap.size + 1, 2, none⟩ = some (.bool b2) := hx2.cell 2
      have y3 : wr.cell? ⟨w.heap.size + 1, 3, none⟩ = some (.bool b3) := hx2.cell 3
      have z0 : wr.cell? ⟨w.heap.size, 0, none⟩ = some (.bool false) := hz.out.cell 0
      have f0 : wr.frozen? ⟨w.heap.size, 0, none⟩ = false := hz.out.frozen 0
      have z1 : wr.cell? ⟨w.heap.size, 1, none⟩ = some (.bool false) := hz.out.cell 1
      have f1 : wr.frozen? ⟨w.heap.size, 1, none⟩ = false := hz.out.frozen 1
      have z2 : wr.cell? ⟨w.heap.size, 2, none⟩ = some (.bool false) := hz.out.cell 2
      have f2 : wr.frozen? ⟨w.heap.size, 2, none⟩ = false := hz.out.frozen 2
      have z3 : wr.cell? ⟨w.heap.size, 3, none⟩ = some (.bool false) := hz.out.cell 3
      have f3 : wr.frozen? ⟨w.heap.size, 3, none⟩ = false := hz.out.frozen 3
      have HF := hidv ((((hz.out.set 0 (.bool b0)).set 1 (.bool b1)).set 2 (.bool b2)).set 3 (.bool b3))
      have E0 := hidv (HF.out.cell 0)
      have E1 := hidv (HF.out.cell 1)
      have E2 := hidv (HF.out.cell 2)
      have E3 := hidv (HF.out.cell 3)
      clear hx2 hb0 hb1 hb2 hb3
      go_wp2_with fail
      refine bodyPost_ret (v := .agg #[.bool b0, .bool b1, .bool b2, .bool b3]) ?_ rfl ⟨?_, ?_⟩
      · simp [results, Tryz.results43, go_sem, E0.out, E1.out, E2.out, E3.out]
      · rw [HBS.out.1, HBS.out.2.1, HBS.out.2.2.1, HBS.out.2.2.2]
      · exact ((((hbe.out.setCell (by simp) _).setCell (by simp) _).setCell (by simp) _).setCell (by simp) _)

end Go.Proofs.YtdnkdmmockoehaaGreat
