/-
  The test number of a system and a family, in the program: contracts.
-/
import Derived.Test.YtdnkdmmockoehaaGreatWt
import Derived.Test.YtdnkdmmockoehaaGreatWalkT
import Derived.Test.YtdnkdmmockoehaaGreatHolds
import Derived.Deep.RegionHeld3
import Derived.Deep.AppendLies
import Derived.Lib.OwnKind
namespace Go.Proofs.YtdnkdmmockoehaaGreat
open Go.RowKit Go
set_option linter.unusedVariables false

/-- The lengths of all terms by such lengths of values. -/
def tLens (es : List Eqn) (xs : List Int) : List Int := es.flatMap fun e => [termLen e.1.data.toList xs, termLen e.2.data.toList xs]
theorem tLens_succ (es : List Eqn) (xs : List Int) (k : Nat) (h : k < es.length) : tLens (es.take (k + 1)) xs = tLens (es.take k) xs ++ [termLen es[k].1.data.toList xs, termLen es[k].2.data.toList xs] := by
  unfold tLens
  rw [List.take_succ_eq_append_getElem h, List.flatMap_append]
  simp
theorem tLens_length (es : List Eqn) (xs : List Int) : (tLens es xs).length = 2 * es.length := by
  induction es with
  | nil => rfl
  | cons e es ih => simp only [tLens, List.flatMap_cons, List.length_append, List.length_cons, List.length_nil] at ih ⊢; omega
theorem two_newT (w : World) (x y : Value) (t : TypeId) : ∀ (j : Nat) (u : Value), [x, y][j]? = some u → (w.alloc (.cells #[x, y] t)).cell? ((⟨w.heap.size, 0, none⟩ : Addr).add j) = some u := by
  intro j u hu
  match j, hu with
  | 0, hu =>
    obtain rfl : x = u := by simpa using hu
    exact (Bx.new w t #[x, y]).cell 0
  | 1, hu =>
    obtain rfl : y = u := by simpa using hu
    exact (Bx.new w t #[x, y]).cell 1
theorem two_cellT (a b : Int) : ∀ u : Value, u ∈ [Value.int .i64 a, .int .i64 b] → u.oneCell' = true := by
  intro u hu
  simp only [List.mem_cons, List.not_mem_nil, or_false] at hu
  rcases hu with rfl | rfl <;> rfl

set_option maxRecDepth 100000 in
set_option maxHeartbeats 3200000 in
theorem termLengths_any (v p u : Value) (es : List Eqn) (xs : List Int) (B C : Nat) (w : World) (hv : ERow w B v es) (hB : B ≤ w.heap.size) (hs : sysB es = true) (hp : ∃ A n c, p = .slice A n c) (hr : Row w C u (xs.map (Value.int .i64))) (hC : C ≤ w.heap.size) (hx : LensM 100000000000 xs) :
    Calls Tryz.prog 40 #[.agg #[v, p], u] w fun e w' => ∃ z, e = .returned z ∧ Ints w' w.heap.size z (tLens es xs) ∧ Below w.heap.size w w' := by
  obtain ⟨i0, hi, hz0, hz1, hz2⟩ := info_parts Tryz.infoN
  obtain ⟨Ap, np, cp, rfl⟩ := hp
  obtain ⟨Au, cu, hue, _⟩ := id hr
  have HR := hidv (fun W (hW : Below w.heap.size w W) => (hr.below (hW.mono hC)))
  have hx4 : xs.length = 4 := hx.1
  rw [List.length_map, hx4] at hue
  subst hue
  obtain ⟨A, c, rfl, hA⟩ := hv
  obtain ⟨n, hn⟩ : ∃ n, es.length = n := ⟨_, rfl⟩
  have h4 : es.length ≤ 4 := sysB_len hs
  have HA := hidv hA
  have HS := hidv hs
  have HX := hidv hx
  rw [hn] at h4 ⊢
  have HN := hidv hn
  have hbl : Below w.heap.size w (w.alloc (.cells #[.slice A n c, .slice Ap np cp] 52)) := (Below.refl _ _).alloc (Nat.le_refl _) _
  clear hA hs hx hr hn hx4
  go_enter Tryz.func40, Tryz.ntmps40
  go_wp2_with fail
  obtain ⟨W0, hW0⟩ : ∃ W, w.alloc (.cells #[.slice A n c, .slice Ap np cp] 52) = W := ⟨_, rfl⟩
  rw [hW0] at hbl ⊢
  clear hW0
  have HBL := hidv hbl
  clear hbl
  go_loopw [5, 11] (fun v i wr => ∃ k : Nat, k ≤ n ∧ i = .int .i64 k ∧ Hid (World.ownsRow wr w.heap.size 2 1 v (2 * k) ((tLens (es.take k) xs).map (Value.int .i64))) ∧ Hid (Below w.heap.size w wr)) (fun _ i _ => n - (intOf i).toNat)
  case atStart => exact ⟨0, Nat.zero_le _, rfl, hidv (World.ownsRow_nil _ _ _ _), HBL⟩
  case round =>
    obtain ⟨k, hk, rfl, hown, hbe⟩ := hrel
    have hzr := hbe.out.size
    by_cases hlt : k < n
    · have hkx : k < es.length := by have := HN.out; omega
      obtain ⟨g, o, rfl, hg, hce⟩ := HA.out (by have := HN.out; omega)
      have c1 : wr.cell? ⟨g, o + k * 2, none⟩ = some (.string es[k].1) := (hbe.out.cell (p := ⟨g, _, none⟩) (by show g < _; omega)).trans (hce k hkx).1
      have c2 : wr.cell? ⟨g, o + k * 2 + 1, none⟩ = some (.string es[k].2) := (hbe.out.cell (p := ⟨g, _, none⟩) (by show g < _; omega)).trans (hce k hkx).2
      have hsz := sysB_szAt HS.out k hkx
      have htm := eqnB_terms (sysB_at HS.out k hkx)
      have hsu := tLens_succ es xs k hkx
      obtain ⟨⟨x, y⟩, hxy⟩ : ∃ x, es[k] = x := ⟨_, rfl⟩
      rw [hxy] at c1 c2 hsz htm hsu
      dsimp only at c1 c2 hsz htm hsu
      obtain ⟨W1, hW1⟩ : ∃ W1, wr.alloc (.cells #[.string x, .string y] 48) = W1 := ⟨_, rfl⟩
      have hbx : Bx W1 wr.heap.size 48 #[.string x, .string y] := by rw [← hW1]; exact Bx.new _ _ _
      have hb1 : Below w.heap.size w W1 := by rw [← hW1]; exact below_al hbe.out _
      have ho1 := hidv (show World.ownsRow W1 w.heap.size 2 1 _ (2 * k) ((tLens (es.take k) xs).map (Value.int .i64)) from by rw [← hW1]; exact hown.out.alloc _)
      have C3 := fun W (hb : Below w.heap.size w W) => lengthBy_any x _ xs C W hsz.1 htm.1 (HR.out W hb) (by have := hb.size; omega) HX.out
      have C4 := fun W (hb : Below w.heap.size w W) => lengthBy_any y _ xs C W hsz.2 htm.2 (HR.out W hb) (by have := hb.size; omega) HX.out
      obtain ⟨a, ha⟩ : ∃ a, termLen x.data.toList xs = a := ⟨_, rfl⟩
      obtain ⟨b, hb⟩ : ∃ b, termLen y.data.toList xs = b := ⟨_, rfl⟩
      rw [ha] at C3 hsu
      rw [hb] at C4 hsu
      have HC3 := hidv C3
      have HC4 := hidv C4
      have HSU := hidv hsu
      have HS1 := hidv (fun w' (hw : Below W1.heap.size W1 w') => (show w'.cell? ⟨wr.heap.size, 0, none⟩ = some (.string x) ∧ w'.cell? ⟨wr.heap.size, 1, none⟩ = some (.string y) ∧ Below W1.heap.size W1 w' from
        ⟨(hbx.below hw).two.1, (hbx.below hw).two.2, hw⟩))
      have HK := hidv (fun w' (hw : Below W1.heap.size W1 w') => below_on hb1 hw)
      have HO := hidv (fun w' (hw : Below W1.heap.size W1 w') => own_below ho1.out hw)
      have HBX := hidv (fun w' (hw : Below W1.heap.size W1 w') w4 (o : Obj) {v : Value} {nn : Nat} {zs : List Value} (ho : World.ownsRow w' w.heap.size 2 1 v nn zs) (hg : (w'.alloc o).grownBy w4 v.ownBlock) => (show Bx w4 wr.heap.size 48 #[.string x, .string y] from ((hbx.below hw).alloc o).grown hg (fun he => by
        obtain ⟨_, _, e1⟩ := Go.Lib.ownsRow_kind ho _ he.symm
        have e2 : w'.heap[wr.heap.size]? = some (.cells #[.string x, .string y] 48 (0, 0)) := hbx.below hw
        rw [e1] at e2
        simp at e2)))
      have hs1 := hb1.size
      clear hce hxy hsz htm hsu ha hb C3 C4 hbx hb1 ho1
      go_wp2_with fail
      clear hW1
      have rf : Below W1.heap.size W1 W1 := Below.refl _ _
      go_region_held3 (fun w' => w'.cell? ⟨wr.heap.size, 0, none⟩ = some (.string x) ∧ w'.cell? ⟨wr.heap.size, 1, none⟩ = some (.string y) ∧ Below w.heap.size w w') (first | with_reducible exact hS4 | exact ⟨(HS1.out _ (by repeat (first | with_reducible assumption | with_reducible exact Below.refl _ _ | with_reducible refine Below.drew ?_ | with_reducible refine below_al ?_ _))).1, (HS1.out _ (by repeat (first | with_reducible assumption | with_reducible exact Below.refl _ _ | with_reducible refine Below.drew ?_ | with_reducible refine below_al ?_ _))).2.1, HK.out _ (by repeat (first | with_reducible assumption | with_reducible exact Below.refl _ _ | with_reducible refine Below.drew ?_ | with_reducible refine below_al ?_ _))⟩) (first | (go_at_call 63; (first | (with_reducible refine (HC3.out _ (HK.out _ (by repeat (first | with_reducible assumption | with_reducible exact Below.refl _ _ | with_reducible refine Below.drew ?_ | with_reducible refine below_al ?_ _)))).mono ?_; rintro e w5 ⟨rfl, hbw⟩; have hbw1 := below_on (show Below W1.heap.size W1 _ from (by repeat (first | with_reducible assumption | with_reducible exact Below.refl _ _ | with_reducible refine Below.drew ?_ | with_reducible refine below_al ?_ _))) hbw) | (with_reducible refine (HC4.out _ (HK.out _ (by repeat (first | with_reducible assumption | with_reducible exact Below.refl _ _ | with_reducible refine Below.drew ?_ | with_reducible refine below_al ?_ _)))).mono ?_; rintro e w6 ⟨rfl, hbz⟩; have hbw2 := below_on (show Below W1.heap.size W1 _ from (by repeat (first | with_reducible assumption | with_reducible exact Below.refl _ _ | with_reducible refine Below.drew ?_ | with_reducible refine below_al ?_ _))) hbz))) | (refine step_append_lies (o := ⟨some 25, _, _, _, _, _⟩) _ (by rfl) (.tmp 15) (.tmp 24) 75 (by rfl) w.heap.size 2 i0 (.int .i64 0) 1 8 Tryz.underlying75 hi hz0 hz1 hz2 rfl (by decide) _ _ _ (by rfl) ((HO.out _ hbw2).alloc _) ⟨w6.heap.size, 0, none⟩ 2 2 [.int .i64 a, .int .i64 b] (by rfl) rfl (two_newT w6 _ _ _) (two_cellT _ _) (by decide) (by unfold maxLen; omega) (by omega) (by have := hbw2.size; simp; omega) (w6.heap.size + 1) (by simp) ?_; intro v4 cap4 w4 hown4 hgr4 hat4 hlt4; have hb4 : Below w.heap.size w w4 := (below_al (HK.out _ hbw2) _).grown hgr4 (by have := hbw2.size; simp; omega) (fun j hj => (World.ownsRow.lt (HO.out _ hbw2) j hj).1); have hS4 : w4.cell? ⟨wr.heap.size, 0, none⟩ = some (.string x) ∧ w4.cell? ⟨wr.heap.size, 1, none⟩ = some (.string y) ∧ Below w.heap.size w w4 := ⟨(HBX.out _ hbw2 _ _ (HO.out _ hbw2) hgr4).two.1, (HBX.out _ hbw2 _ _ (HO.out _ hbw2) hgr4).two.2, hb4⟩))
      all_goals
        have HO4 := hidv hown4
        have HB4 := hidv hb4
        clear hown4 hb4 hgr4 hat4 hlt4 hS4
        go_wp2_with fail
        go_roundw
        case rel => exact ⟨k + 1, by omega, by go_num, hidv (by rw [HSU.out, List.map_append]; exact HO4.out), HB4⟩
        case measure => simp [intOf]; omega
    · obtain rfl : k = n := by omega
      have he : es.take k = es := List.take_of_length_le (by have := HN.out; omega)
      rw [he] at hown
      go_wp2_with fail
      go_ret
      refine ⟨_, rfl, ?_, hbe.out⟩
      unfold Ints
      rw [tLens_length, HN.out]
      exact hown.out

set_option maxHeartbeats 400000 in
theorem closTn_any (a b : Int) (w : World) (ha : 0 ≤ a ∧ a ≤ 100000000000000) (hb : 0 ≤ b ∧ b ≤ 10000000000000) :
    Calls Tryz.prog 77 #[.int .i64 a, .int .i64 b] w fun e w' => e = .returned (.int .i64 (a + b)) ∧ w = w' := by
  obtain ⟨a0, a1⟩ := ha
  obtain ⟨b0, b1⟩ := hb
  go_enter Tryz.func77, Tryz.ntmps77
  go_wp2
  go_ret
  exact ⟨rfl, rfl⟩

theorem isum_succ (xs : List Int) (k : Nat) (h : k < xs.length) : (xs.take (k + 1)).sum = (xs.take k).sum + xs[k] := by
  rw [List.take_succ_eq_append_getElem h, List.sum_append]
  simp
theorem isum_bound (M : Nat) : ∀ (xs : List Int), (∀ x ∈ xs, 0 ≤ x ∧ x ≤ M) → 0 ≤ xs.sum ∧ xs.sum ≤ M * xs.length
  | [], _ => by simp
  | x :: xs, h => by
    have h1 := h x (by simp)
    have h2 := isum_bound M xs (fun q hq => h q (by simp [hq]))
    have e2 : (M : Int) * ((x :: xs).length : Int) = M * (xs.length : Int) + M := by rw [List.length_cons]; push_cast; rw [Int.mul_add, Int.mul_one]
    rw [List.sum_cons, e2]
    omega

set_option maxRecDepth 100000 in
set_option maxHeartbeats 800000 in
theorem foldI_any (xs : List Int) (v : Value) (B : Nat) (w : World) (hv : Row w B v (ints xs)) (hl : xs.length ≤ 8) (hx : ∀ x ∈ xs, 0 ≤ x ∧ x ≤ (10000000000000 : Nat)) :
    Calls Tryz.prog 76 #[v, .int .i64 0, .func (.func 77) #[] #[]] w fun e w' => e = .returned (.int .i64 xs.sum) ∧ w = w' := by
  obtain ⟨A, c, rfl, hA⟩ := hv
  rw [show (ints xs).length = xs.length by simp [ints]] at hA ⊢
  obtain ⟨n, hn⟩ : ∃ n, xs.length = n := ⟨_, rfl⟩
  have HA := hidv hA
  have HX := hidv hx
  rw [hn] at hl ⊢
  have HN := hidv hn
  clear hA hx hn
  go_enter Tryz.func76, Tryz.ntmps76
  go_wp2
  go_loop [1, 11] (fun q i => ∃ k : Nat, k ≤ n ∧ i = .int .i64 k ∧ q = .int .i64 (xs.take k).sum) (fun _ i => n - (intOf i).toNat)
  case atStart => exact ⟨0, Nat.zero_le _, rfl, by simp⟩
  case round =>
    obtain ⟨k, hk, rfl, rfl⟩ := hrel
    by_cases hlt : k < n
    · have hkx : k < xs.length := by have := HN.out; omega
      obtain ⟨g, o, rfl, hg, hce⟩ := HA.out (by have := HN.out; omega)
      have c1 := hce k _ (map_int_at hkx)
      have hsu := isum_succ xs k hkx
      have hb := HX.out xs[k] (List.getElem_mem _)
      have hbs := isum_bound 10000000000000 (xs.take k) (fun x hx => HX.out x (List.mem_of_mem_take hx))
      have hlk : (xs.take k).length ≤ 8 := by rw [List.length_take]; omega
      obtain ⟨x, hx1⟩ : ∃ x, xs[k] = x := ⟨_, rfl⟩
      rw [hx1] at c1 hsu hb
      obtain ⟨t, ht⟩ : ∃ t, (xs.take k).sum = t := ⟨_, rfl⟩
      rw [ht] at hsu hbs ⊢
      have HSU := hidv hsu
      have HC := hidv (fun W => closTn_any t x W ⟨hbs.1, by omega⟩ ⟨hb.1, by have := hb.2; omega⟩)
      clear hx1 hce hsu hb hbs ht
      go_wp2_with fail
      refine (HC.out _).mono ?_
      rintro e w2 ⟨rfl, rfl⟩
      go_wp2_with fail
      go_round
      case rel => exact ⟨k + 1, by omega, by go_num, by rw [HSU.out]⟩
      case measure => simp [intOf]; omega
    · obtain rfl : k = n := by omega
      have he : xs.take k = xs := List.take_of_length_le (by have := HN.out; omega)
      rw [he]
      go_wp2
      go_ret
      exact ⟨rfl, rfl⟩

/-- The test number. -/
def tnum (es : List Eqn) (rs : List (List Pc)) : Int := 4 + 2 * (tLens es (rs.map (gsum pcW))).sum
theorem lensW {rs : List (List Pc)} (hok : FamOk rs) : LensM 100000000000 (rs.map (gsum pcW)) := by
  refine ⟨by rw [List.length_map]; exact hok.1, fun x hx => ?_⟩
  obtain ⟨r, hr, rfl⟩ := List.mem_map.1 hx
  have h1 := hok.2 r hr
  have := gsum_bound pcW 3660 r (fun p hp => pcW_bound (h1.2 p hp))
  have h2 := h1.1
  omega
theorem tLens_bound {es : List Eqn} {xs : List Int} (hs : sysB es = true) (hx : LensM 100000000000 xs) : ∀ z ∈ tLens es xs, 0 ≤ z ∧ z ≤ (10000000000000 : Nat) := by
  intro z hz
  unfold tLens at hz
  rw [List.mem_flatMap] at hz
  obtain ⟨e, he, hz⟩ := hz
  obtain ⟨k, hk, rfl⟩ := List.getElem_of_mem he
  have hsz := sysB_szAt hs k hk
  have htm := eqnB_terms (sysB_at hs k hk)
  have b1 := termLen_uptoM hsz.1 htm.1 hx es[k].1.size
  have b2 := termLen_uptoM hsz.2 htm.2 hx es[k].2.size
  rw [List.take_of_length_le (by simp)] at b1 b2
  simp only [List.mem_cons, List.not_mem_nil, or_false] at hz
  rcases hz with rfl | rfl <;> omega

set_option maxRecDepth 100000 in
set_option maxHeartbeats 1600000 in
theorem testNumber_any (v p : Value) (es : List Eqn) (rs : List (List Pc)) (B C : Nat) (w : World) (hv : ERow w B v es) (hB : B ≤ w.heap.size) (hs : sysB es = true) (hp : QRows w C p rs) (hC : C ≤ w.heap.size) (hok : FamOk rs) :
    Calls Tryz.prog 48 #[.agg #[v, p]] w fun e w' => e = .returned (.int .i64 (tnum es rs)) ∧ Below w.heap.size w w' := by
  obtain ⟨Ap, cp, rfl, _⟩ := hp.at
  obtain ⟨A, c, rfl, _⟩ := id hv
  obtain ⟨n, hn⟩ : ∃ n, es.length = n := ⟨_, rfl⟩
  have h4 := hok.1
  have hes := sysB_len hs
  have hbl : Below w.heap.size w (w.alloc (.cells #[.slice A es.length c, .slice Ap rs.length cp] 52)) := (Below.refl _ _).alloc (Nat.le_refl _) _
  have hbx := Bx.new w 52 #[.slice A es.length c, .slice Ap rs.length cp]
  have C1 := hidv (fun W (hW : Below w.heap.size w W) => sumsW_any (.agg #[.slice Ap rs.length cp]) rs C W ⟨_, rfl, hp.below (hW.mono hC)⟩ (Nat.le_trans hC hW.size) hok)
  have C2 := hidv (fun u W D (hW : Below w.heap.size w W) (hD : D ≤ W.heap.size) (hr : Row W D u ((rs.map (gsum pcW)).map (Value.int .i64))) => termLengths_any (.slice A es.length c) (.slice Ap rs.length cp) u es (rs.map (gsum pcW)) B D W (hv.below (hW.mono hB)) (Nat.le_trans hB hW.size) hs ⟨_, _, _, rfl⟩ hr hD (lensW hok))
  have hbd := tLens_bound hs (lensW hok)
  have hlen := tLens_length es (rs.map (gsum pcW))
  have hsm := isum_bound 10000000000000 _ hbd
  unfold tnum
  obtain ⟨L, hL⟩ : ∃ L, tLens es (rs.map (gsum pcW)) = L := ⟨_, rfl⟩
  rw [hL] at C2 hbd hlen hsm ⊢
  have C3 := hidv (fun u W D (hr : Row W D u (ints L)) => foldI_any L u D W hr (by omega) hbd)
  rw [hn] at hbl hbx C2 hes hlen ⊢
  rw [h4] at hbl hbx C1 C2 ⊢
  obtain ⟨s, hsq⟩ : ∃ s, L.sum = s := ⟨_, rfl⟩
  rw [hsq] at C3 hsm ⊢
  obtain ⟨hs0, hs1⟩ := hsm
  have hs2 : s ≤ 100000000000000 := by omega
  have HL := hidv hlen
  clear hv hs hp hok hn h4 hbd hL hsq hlen hs1
  go_enter Tryz.func48, Tryz.ntmps48
  obtain ⟨W, hW⟩ : ∃ W, w.alloc (.cells #[.slice A n c, .slice Ap 4 cp] 52) = W := ⟨_, rfl⟩
  rw [hW] at hbl hbx
  have HS := hidv (fun w' (hw : Below W.heap.size W w') => (show w'.cell? ⟨w.heap.size, 0, none⟩ = some (.slice A n c) ∧ w'.cell? ⟨w.heap.size, 1, none⟩ = some (.slice Ap 4 cp) ∧ Below W.heap.size W w' from ⟨(hbx.below hw).two.1, (hbx.below hw).two.2, hw⟩))
  have HK := hidv (fun w' (hw : Below W.heap.size W w') => below_on hbl hw)
  have HB := hidv hbl
  clear hbl hbx
  go_wp2_with fail
  clear hW
  have rf : Below W.heap.size W W := Below.refl _ _
  go_region_held3 (fun w' => w'.cell? ⟨w.heap.size, 0, none⟩ = some (.slice A n c) ∧ w'.cell? ⟨w.heap.size, 1, none⟩ = some (.slice Ap 4 cp) ∧ Below W.heap.size W w') (exact HS.out _ (by repeat (first | with_reducible assumption | with_reducible exact Below.refl _ _ | with_reducible refine Below.drew ?_ | with_reducible refine below_al ?_ _))) (first | (go_at_call 64; refine (C1.out _ (HK.out _ (by repeat (first | with_reducible assumption | with_reducible exact Below.refl _ _ | with_reducible refine Below.drew ?_ | with_reducible refine below_al ?_ _)))).mono ?_; rintro e w5 ⟨u5, rfl, hu5, hbw⟩; have hbw1 := below_on (show Below W.heap.size W _ from (by repeat (first | with_reducible assumption | with_reducible exact Below.refl _ _ | with_reducible refine Below.drew ?_ | with_reducible refine below_al ?_ _))) hbw; have hu5r := hu5.row) | (go_at_call 40; refine (C2.out u5 _ _ (HK.out _ (by repeat (first | with_reducible assumption | with_reducible exact Below.refl _ _ | with_reducible refine Below.drew ?_ | with_reducible refine below_al ?_ _))) (Nat.le_refl _) hu5r).mono ?_; rintro e w6 ⟨u6, rfl, hu6, hbz⟩; have hbw2 := below_on (show Below W.heap.size W _ from (by repeat (first | with_reducible assumption | with_reducible exact Below.refl _ _ | with_reducible refine Below.drew ?_ | with_reducible refine below_al ?_ _))) hbz))
  have HU6 := hidv hu6.row
  have HB6 := hidv (HK.out _ hbw2)
  obtain ⟨A6, c6, hu6e, _⟩ := hu6.row
  rw [List.length_map] at hu6e
  subst hu6e
  clear hu6 hbw2 hu5 hu5r hbw1 hbw hbz
  go_wp2_with fail
  refine (C3.out _ _ _ HU6.out).mono ?_
  rintro e w7 ⟨rfl, rfl⟩
  go_wp2_with fail
  go_ret
  exact ⟨rfl, HB6.out⟩

end Go.Proofs.YtdnkdmmockoehaaGreat
