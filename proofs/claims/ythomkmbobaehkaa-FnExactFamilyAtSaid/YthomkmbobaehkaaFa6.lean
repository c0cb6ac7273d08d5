/-
  FamilyAt, of the program and of the model: contracts.
-/
import Derived.Test.YthomkmbobaehkaaWo
import Derived.Test.YthomkmbobaehkaaStrA
namespace Go.Proofs.Ythomkmbobaehkaa
open Go.RowKit Go
set_option linter.unusedVariables false

set_option maxHeartbeats 400000 in
theorem maxI_any (v : Value) (xs : List Int) (B : Nat) (w : World) (hv : Row w B v (ints xs)) (hx : xs.length ≤ 1048576) (h0 : 0 < xs.length) :
    Calls Try.prog 62 #[v] w fun e w' => ∃ m, e = .returned (.int .i64 m) ∧ m ∈ xs ∧ (∀ x ∈ xs, x ≤ m) ∧ w' = w := by
  obtain ⟨A, c, rfl, hA⟩ := hv
  rw [show (ints xs).length = xs.length by simp [ints]] at hA ⊢
  obtain ⟨g, o, rfl, hg, hce⟩ := hA h0
  obtain ⟨n, hn⟩ : ∃ n, xs.length = n := ⟨_, rfl⟩
  have HC := hidv (fun i (hi : i < xs.length) => hce i _ (map_int_at hi))
  have c0 := HC.out 0 h0
  have hm0 : xs[0] ∈ xs := List.getElem_mem _
  obtain ⟨x0, hx0⟩ : ∃ x, xs[0] = x := ⟨_, rfl⟩
  rw [hx0] at c0 hm0
  rw [Nat.add_zero] at c0
  have HX0 := hidv hx0
  rw [hn] at hx h0 ⊢
  have HN := hidv hn
  have HM0 := hidv hm0
  clear hA hce hn hx0 hm0
  go_enter Try.func62, Try.ntmps62
  go_wp2_with fail
  clear c0
  go_loop [3, 4] (fun q i => ∃ (j : Nat) (m : Int), 1 ≤ j ∧ j ≤ n ∧ i = .int .i64 (j : Int) ∧ q = .int .i64 m ∧ Hid (m ∈ xs) ∧ Hid (∀ p (hp : p < xs.length), p < j → xs[p] ≤ m)) (fun _ i => n - (intOf i).toNat)
  case atStart => exact ⟨1, x0, by omega, by omega, rfl, rfl, HM0, hidv (fun p hp h => by
    obtain rfl : p = 0 := by omega
    exact Int.le_of_eq HX0.out)⟩
  case round =>
    obtain ⟨j, m, hj1, hj, rfl, rfl, hme, hall⟩ := hrel
    by_cases hlt : j < n
    · have hjx : j < xs.length := by have := HN.out; omega
      have c1 := HC.out j hjx
      have hmj : xs[j] ∈ xs := List.getElem_mem _
      obtain ⟨x, hx1⟩ : ∃ x, xs[j] = x := ⟨_, rfl⟩
      rw [hx1] at c1 hmj
      have HX := hidv hx1
      have HMJ := hidv hmj
      clear hx1 hmj
      by_cases hle : m < x
      · have HALL := hidv (show ∀ p (hp : p < xs.length), p < j + 1 → xs[p] ≤ x from fun p hp h => by
          rcases Nat.lt_or_ge p j with h2 | h2
          · have := hall.out p hp h2; omega
          · obtain rfl : p = j := by omega
            rw [HX.out]; exact Int.le_refl _)
        go_wp2_with fail
        go_round
        case rel => exact ⟨j + 1, x, by omega, by omega, by go_num, by first | rfl | (congr 1; omega) | simp [hle] | (rw [Int.max_def]; simp; omega), HMJ, HALL⟩
        case measure => simp [intOf]; omega
      · have HALL := hidv (show ∀ p (hp : p < xs.length), p < j + 1 → xs[p] ≤ m from fun p hp h => by
          rcases Nat.lt_or_ge p j with h2 | h2
          · exact hall.out p hp h2
          · obtain rfl : p = j := by omega
            rw [HX.out]; omega)
        go_wp2_with fail
        go_round
        case rel => exact ⟨j + 1, m, by omega, by omega, by go_num, by first | rfl | (congr 1; omega) | simp [hle] | (rw [Int.max_def]; simp; omega), hme, HALL⟩
        case measure => simp [intOf]; omega
    · obtain rfl : j = n := by omega
      have HALL := hidv (show ∀ x ∈ xs, x ≤ m from fun x hx => by
        obtain ⟨p, hp, rfl⟩ := List.getElem_of_mem hx
        exact hall.out p hp (by have := HN.out; omega))
      go_wp2_with fail
      go_ret
      exact ⟨_, rfl, hme.out, HALL.out, rfl⟩

theorem one_cellS (x : ByteArray) : ∀ u : Value, u ∈ [Value.string x] → u.oneCell' = true := by
  intro u hu
  simp only [List.mem_cons, List.not_mem_nil, or_false] at hu
  subst hu; rfl
theorem min_any (a b : Int) (w : World) :
    Calls Try.prog 57 #[.int .i64 a, .int .i64 b] w fun e w' => e = .returned (.int .i64 (min a b)) ∧ w = w' := by
  by_cases h : a < b
  · rw [show min a b = a by omega]
    go_enter Try.func57, Try.ntmps57
    go_wp2
    go_ret
    exact ⟨rfl, rfl⟩
  · rw [show min a b = b by omega]
    go_enter Try.func57, Try.ntmps57
    go_wp2
    go_ret
    exact ⟨rfl, rfl⟩

/-- What FamilyAt gives: values and a code. -/
def FaR (rs : List (List Pc)) (k : Int) (xs : List ByteArray) (c : Int) : Prop :=
  (¬ FamOk rs → xs = [] ∧ c = 1) ∧ (FamOk rs → k < 0 → xs = [] ∧ c = 2) ∧
  (FamOk rs → 0 ≤ k → (∃ r ∈ rs, 60 < gsum (pcLen (min k 61)) r) → xs = [] ∧ c = 3) ∧
  (FamOk rs → 0 ≤ k → ¬ (∃ r ∈ rs, 60 < gsum (pcLen (min k 61)) r) → xs = rs.map (wordV (min k 61)) ∧ c = 0)
theorem faR_ex (rs : List (List Pc)) (k : Int) : ∃ xs c, FaR rs k xs c ∧ xs.length ≤ 4 ∧ ∀ x ∈ xs, x.size ≤ 60 := by
  by_cases h1 : FamOk rs
  · by_cases h2 : k < 0
    · exact ⟨[], 2, ⟨fun h => absurd h1 h, fun _ _ => ⟨rfl, rfl⟩, fun _ h => by omega, fun _ h => by omega⟩, by simp, by simp⟩
    · by_cases h3 : ∃ r ∈ rs, 60 < gsum (pcLen (min k 61)) r
      · exact ⟨[], 3, ⟨fun h => absurd h1 h, fun _ h => absurd h h2, fun _ _ _ => ⟨rfl, rfl⟩, fun _ _ h => absurd h3 h⟩, by simp, by simp⟩
      · refine ⟨rs.map (wordV (min k 61)), 0, ⟨fun h => absurd h1 h, fun _ h => absurd h h2, fun _ _ h => absurd h h3, fun _ _ _ => ⟨rfl, rfl⟩⟩, by rw [List.length_map]; have := h1.1; omega, fun x hx => ?_⟩
        obtain ⟨r, hr, rfl⟩ := List.mem_map.1 hx
        have hl := wordQ_len (k := min k 61) (by omega) r (h1.2 r hr).2
        have h4 : ¬ 60 < gsum (pcLen (min k 61)) r := fun h => h3 ⟨r, hr, h⟩
        rw [wordV_size]
        omega
  · exact ⟨[], 1, ⟨fun _ => ⟨rfl, rfl⟩, fun h => absurd h h1, fun h => absurd h h1, fun h => absurd h h1⟩, by simp, by simp⟩

set_option maxRecDepth 100000 in
set_option maxHeartbeats 1600000 in
theorem implFa_any (v : Value) (rs : List (List Pc)) (B : Nat) (k : Int) (w : World) (hv : Fam w B v rs) (hB : B ≤ w.heap.size) (hz : FamSz rs) (hm : FamMax rs) (xs : List ByteArray) (c : Int) (hR : FaR rs k xs c) :
    Calls Try.prog 24 #[v, .int .i64 k] w fun e w' => ∃ u, e = .returned (.tuple #[u, .int .i64 c]) ∧ Strs w' w.heap.size u xs ∧ Below w.heap.size w w' := by
  obtain ⟨i0, hi, hz0, hz1, hz2⟩ := info_parts Try.infoS
  obtain ⟨d, hd⟩ := iffB (FamOk rs)
  obtain ⟨va, rfl, hr⟩ := hv.more hB
  obtain ⟨A, cA, rfl, hA⟩ := hr.at
  have hbl : Below w.heap.size w (w.alloc (.cells #[.slice A rs.length cA] 48)) := (Below.refl _ _).alloc (Nat.le_refl _) _
  have hbx := Bx.new w 48 #[.slice A rs.length cA]
  have C1 := hidv (fun W (hW : Below w.heap.size w W) => implVF_any (.agg #[.slice A rs.length cA]) rs w.heap.size W (hv.more hB |>.below hW) hW.size hz hm d hd)
  have C2 := hidv (fun W (hW : Below w.heap.size w W) (hok : FamOk rs) (hk : 0 ≤ min k 61 ∧ min k 61 ≤ 1000000) => lengthsAt_any (.agg #[.slice A rs.length cA]) rs w.heap.size (min k 61) W (hv.more hB |>.below hW) hW.size hok hk)
  have C4 := hidv (fun W (hW : Below w.heap.size w W) j (hj : j < rs.length) (a : Option Addr) (cq : Nat) (hrow : QRow w w.heap.size (.slice a rs[j].length cq) rs[j]) (hok : RowOk rs[j]) (hk : 0 ≤ min k 61 ∧ min k 61 ≤ 1000000) (ht : gsum (pcLen (min k 61)) rs[j] ≤ 1000000) => valueAt_any rs[j] (min k 61) _ w.heap.size W (hrow.below hW) hW.size hok hk ht)
  have HD := hidv hd
  have HR := hidv hR
  have HA := hidv hA
  obtain ⟨n, hn⟩ : ∃ n, rs.length = n := ⟨_, rfl⟩
  rw [hn] at hbl hbx C1 C2 ⊢
  have HN := hidv hn
  clear hv hd hz hm hR hn hA hr
  obtain ⟨W, hW⟩ : ∃ W, w.alloc (.cells #[.slice A n cA] 48) = W := ⟨_, rfl⟩
  go_enter Try.func24, Try.ntmps24
  rw [hW] at hbl hbx
  have x0 := hbx.one
  go_wp2_with fail
  clear hW x0
  refine (C1.out _ hbl).mono ?_
  rintro e w1 ⟨rfl, hb1⟩
  have hbx1 := hbx.below hb1
  have hbl1 := below_on hbl hb1
  clear hb1 hbx hbl
  cases d
  · obtain ⟨rfl, rfl⟩ := HR.out.1 (fun h => by have := HD.out.mpr h; cases this)
    go_wp2_with fail
    go_ret2
    exact ⟨_, rfl, World.ownsRow_nil _ _ _ _, hbl1⟩
  · have hok : FamOk rs := HD.out.mp rfl
    by_cases hk0 : k < 0
    · obtain ⟨rfl, rfl⟩ := HR.out.2.1 hok hk0
      go_wp2_with fail
      go_ret2
      exact ⟨_, rfl, World.ownsRow_nil _ _ _ _, hbl1⟩
    · have hkk : 0 ≤ k := by omega
      have hmn : 0 ≤ min k 61 ∧ min k 61 ≤ 1000000 := by omega
      have C5 := hidv (fun W hW => C2.out W hW hok hmn)
      have HR3 := hidv (HR.out.2.2.1 hok hkk)
      have HR4 := hidv (HR.out.2.2.2 hok hkk)
      have HOK := hidv hok
      have HMN := hidv hmn
      have q0 := hbx1.one
      have HBX := hidv hbx1
      have HBL := hidv hbl1
      have h4 := hok.1
      rw [HN.out] at h4
      subst h4
      clear hok C2 hmn hbx1 hbl1
      go_wp2_with fail
      refine (C5.out _ HBL.out).mono ?_
      rintro e w2 ⟨u, rfl, hu, hb2⟩
      have hbx2 := HBX.out.below hb2
      have hbl2 := below_on HBL.out hb2
      have hml := hidv (maxI_any u (rs.map (gsum (pcLen (min k 61)))) _ w2 hu.row (by rw [List.length_map, HN.out]; omega) (by rw [List.length_map, HN.out]; omega))
      obtain ⟨A2, c2, rfl, _⟩ := hu.row
      rw [List.length_map, List.length_map, HN.out] at hml ⊢
      clear hu hb2
      go_wp2_with fail
      refine hml.out.mono ?_
      rintro e w3 ⟨m, rfl, hm1, hm2, rfl⟩
      have HM1 := hidv hm1
      have HM2 := hidv hm2
      have y0 := hbx2.one
      have HBX2 := hidv hbx2
      have HBL2 := hidv hbl2
      clear hm1 hm2 hbx2 hbl2 hml
      by_cases hbig : 60 < m
      · obtain ⟨rfl, rfl⟩ := HR3.out (by
          obtain ⟨r, hr, he⟩ := List.mem_map.1 HM1.out
          exact ⟨r, hr, by rw [he]; exact hbig⟩)
        go_wp2_with fail
        go_ret2
        exact ⟨_, rfl, World.ownsRow_nil _ _ _ _, HBL2.out⟩
      · have hsmall : ∀ r ∈ rs, gsum (pcLen (min k 61)) r ≤ 60 := fun r hr => by
          have := HM2.out _ (List.mem_map_of_mem hr)
          omega
        obtain ⟨rfl, rfl⟩ := HR4.out (fun ⟨r, hr, h⟩ => by have := hsmall r hr; omega)
        have HSM := hidv hsmall
        clear hsmall
        go_wp2_with fail
        clear y0
        go_loopw [6, 24] (fun v i wr => ∃ j : Nat, j ≤ 4 ∧ i = .int .i64 j ∧ Hid (World.ownsRow wr w.heap.size 9 1 v j (((rs.take j).map (wordV (min k 61))).map Value.string)) ∧ Hid (Below w.heap.size w wr)) (fun _ i _ => 4 - (intOf i).toNat)
        case atStart => exact ⟨0, by omega, rfl, hidv (World.ownsRow_nil _ _ _ _), HBL2⟩
        case round =>
          obtain ⟨j, hj, rfl, hown, hbe⟩ := hrel
          by_cases hlt4 : j < 4
          · have hjx : j < rs.length := by have := HN.out; omega
            obtain ⟨g, o, rfl, hg, hce⟩ := HA.out (by have := HN.out; omega)
            obtain ⟨a, cq, e0, r1⟩ := hce j hjx
            have c1 := (hbe.out.cell (p := ⟨g, o + j, none⟩) (by show g < w.heap.size; omega)).trans e0
            have hsu : (rs.take (j + 1)).map (wordV (min k 61)) = (rs.take j).map (wordV (min k 61)) ++ [wordV (min k 61) rs[j]] := by
              rw [List.take_succ_eq_append_getElem hjx, List.map_append]
              rfl
            have hs60 := HSM.out rs[j] (List.getElem_mem _)
            have HC := hidv (C4.out _ hbe.out j hjx a cq r1 (HOK.out.at j hjx) HMN.out (by omega))
            obtain ⟨l, hl⟩ : ∃ l, rs[j].length = l := ⟨_, rfl⟩
            obtain ⟨t, ht⟩ : ∃ t, wordV (min k 61) rs[j] = t := ⟨_, rfl⟩
            rw [hl] at c1 HC
            rw [ht] at HC hsu
            have HSU := hidv hsu
            clear hce e0 r1 hsu hl ht hs60
            go_wp2_with fail
            refine HC.out.mono ?_
            rintro e w4 ⟨rfl, hb4⟩
            have HB4 := hidv (below_on hbe.out hb4)
            have HO4 := hidv (own_below hown.out hb4)
            have hsz := HB4.out.size
            clear hb4
            go_wp2_with (at_builtin; refine wpList_append_own _ rfl (.tmp 28) (.tmp 32) 29 rfl w.heap.size 9 i0 (.string ⟨#[]⟩) 1 16 Try.underlying29 hi hz0 hz1 hz2 rfl (by decide) _ _ _ rfl (HO4.out.alloc _) ⟨w4.heap.size, 0, none⟩ 1 1 [.string t] rfl rfl (one_newL w4 _ _) (one_cellS _) ?_ ?_ ?_ ?_; (unfold maxLen; omega); omega; (simp; omega); intro v1 w5 hown1 hgr1 _)
            go_roundw
            case rel =>
              refine ⟨j + 1, by omega, by go_num, hidv ?_, hidv (growL HB4.out (Nat.le_refl _) HO4.out hgr1)⟩
              rw [HSU.out, List.map_append]
              exact hown1
            case measure => simp [intOf]; omega
          · obtain rfl : j = 4 := by omega
            have he : rs.take 4 = rs := List.take_of_length_le (by have := HN.out; omega)
            go_wp2_with fail
            go_ret2
            refine ⟨_, rfl, ?_, hbe.out⟩
            have h := hown.out
            rw [he] at h
            unfold Strs
            rw [List.length_map, HN.out]
            exact h

set_option maxRecDepth 100000 in
set_option maxHeartbeats 1600000 in
theorem specFa_any (v : Value) (rs : List (List Pc)) (B : Nat) (k : Int) (w : World) (hv : Fam w B v rs) (hB : B ≤ w.heap.size) (hz : FamSz rs) (xs : List ByteArray) (c : Int) (hR : FaR rs k xs c) :
    Calls Try.prog 22 #[v, .int .i64 k] w fun e w' => ∃ u, e = .returned (.tuple #[u, .int .i64 c]) ∧ Strs w' w.heap.size u xs ∧ Below w.heap.size w w' := by
  obtain ⟨i0, hi, hz0, hz1, hz2⟩ := info_parts Try.infoS
  obtain ⟨d, hd⟩ := iffB (FamOk rs)
  obtain ⟨va, rfl, hr⟩ := hv.more hB
  obtain ⟨A, cA, rfl, hA⟩ := hr.at
  have hbl : Below w.heap.size w (w.alloc (.cells #[.slice A rs.length cA] 48)) := (Below.refl _ _).alloc (Nat.le_refl _) _
  have hbx := Bx.new w 48 #[.slice A rs.length cA]
  have C1 := hidv (fun W (hW : Below w.heap.size w W) (hx : Bx W w.heap.size 48 #[.slice A rs.length cA]) => l06Ok_any w.heap.size rs A cA w.heap.size W hx.one (hr.below hW) hW.size hz d hd)
  have C2 := hidv (fun W (hW : Below w.heap.size w W) j (hj : j < rs.length) (a : Option Addr) (cq : Nat) (hrow : QRow w w.heap.size (.slice a rs[j].length cq) rs[j]) (hok : RowOk rs[j]) (hk : 0 ≤ min k 61 ∧ min k 61 ≤ 1000000) => l06Length_any _ rs[j] w.heap.size (min k 61) W (hrow.below hW) hW.size hok hk)
  have C4 := hidv (fun W (hW : Below w.heap.size w W) j (hj : j < rs.length) (a : Option Addr) (cq : Nat) (hrow : QRow w w.heap.size (.slice a rs[j].length cq) rs[j]) (hok : RowOk rs[j]) (hk : 0 ≤ min k 61 ∧ min k 61 ≤ 1000000) (ht : gsum (pcLen (min k 61)) rs[j] ≤ 1000000) => l06Word_any rs[j] (min k 61) _ w.heap.size W (hrow.below hW) hW.size hok hk ht)
  have C3 := hidv (fun W => min_any k 61 W)
  have HD := hidv hd
  have HR := hidv hR
  have HA := hidv hA
  obtain ⟨n, hn⟩ : ∃ n, rs.length = n := ⟨_, rfl⟩
  rw [hn] at hbl hbx C1 ⊢
  have HN := hidv hn
  clear hv hd hz hR hn hA hr
  obtain ⟨W, hW⟩ : ∃ W, w.alloc (.cells #[.slice A n cA] 48) = W := ⟨_, rfl⟩
  go_enter Try.func22, Try.ntmps22
  rw [hW] at hbl hbx
  go_wp2_with fail
  clear hW
  refine (C1.out _ hbl hbx).mono ?_
  rintro e w1 ⟨rfl, hb1⟩
  have hbx1 := hbx.below hb1
  have hbl1 := below_on hbl hb1
  clear hb1 hbx hbl
  have hlit := World.ownsRow_lit (e := 9) (size := 1) (base := w.heap.size) w1 #[] 0 hbl1.size (Nat.zero_le _) rfl
  have hlb := below_al hbl1 (.cells #[] 9)
  cases d
  · obtain ⟨rfl, rfl⟩ := HR.out.1 (fun h => by have := HD.out.mpr h; cases this)
    have HLIT := hidv hlit
    clear hlit
    go_wp2_with fail
    go_ret2
    exact ⟨_, rfl, HLIT.out, hlb⟩
  · have hok : FamOk rs := HD.out.mp rfl
    by_cases hk0 : k < 0
    · obtain ⟨rfl, rfl⟩ := HR.out.2.1 hok hk0
      have HLIT := hidv hlit
      clear hlit
      go_wp2_with fail
      go_ret2
      exact ⟨_, rfl, HLIT.out, hlb⟩
    · have hkk : 0 ≤ k := by omega
      have hmn : 0 ≤ min k 61 ∧ min k 61 ≤ 1000000 := by omega
      have HR3 := hidv (HR.out.2.2.1 hok hkk)
      have HR4 := hidv (HR.out.2.2.2 hok hkk)
      have HOK := hidv hok
      have HMN := hidv hmn
      have hxl := hbx1.alloc (.cells #[] 9)
      have HLIT := hidv hlit
      have h4 := hok.1
      rw [HN.out] at h4
      subst h4
      clear hok hmn hlit hbx1
      go_wp2_with fail
      refine (C3.out _).mono ?_
      rintro e w' ⟨rfl, rfl⟩
      go_wp2_with fail
      obtain ⟨W0, hW0⟩ : ∃ W, w1.alloc (.cells #[] 9) = W := ⟨_, rfl⟩
      rw [hW0] at hlb hxl HLIT ⊢
      clear hW0
      have HBX := hidv hxl
      have HLB := hidv hlb
      clear hxl hlb hbl1
      go_loopw [6, 7] (fun v i wr => ∃ j : Nat, j ≤ 4 ∧ i = .int .i64 j ∧ Hid (World.ownsRow wr w.heap.size 9 1 v j (((rs.take j).map (wordV (min k 61))).map Value.string)) ∧ Hid (∀ q (hq : q < rs.length), q < j → gsum (pcLen (min k 61)) rs[q] ≤ 60) ∧ Hid (Bx wr w.heap.size 48 #[.slice A 4 cA]) ∧ Hid (Below w.heap.size w wr)) (fun _ i _ => 4 - (intOf i).toNat)
      case atStart => exact ⟨0, by omega, rfl, HLIT, hidv (fun q hq h => by omega), HBX, HLB⟩
      case round =>
        obtain ⟨j, hj, rfl, hown, hsm, hbx, hbe⟩ := hrel
        by_cases hlt4 : j < 4
        · have hjx : j < rs.length := by have := HN.out; omega
          obtain ⟨g, o, rfl, hg, hce⟩ := HA.out (by have := HN.out; omega)
          obtain ⟨a, cq, e0, r1⟩ := hce j hjx
          have x0 := hbx.out.one
          have c1 := (hbe.out.cell (p := ⟨g, o + j, none⟩) (by show g < w.heap.size; omega)).trans e0
          have hsu : (rs.take (j + 1)).map (wordV (min k 61)) = (rs.take j).map (wordV (min k 61)) ++ [wordV (min k 61) rs[j]] := by
            rw [List.take_succ_eq_append_getElem hjx, List.map_append]
            rfl
          have HC := hidv (C2.out _ hbe.out j hjx a cq r1 (HOK.out.at j hjx) HMN.out)
          have HC4 := hidv (fun W hW ht => C4.out W hW j hjx a cq r1 (HOK.out.at j hjx) HMN.out ht)
          have HM := hidv (show rs[j] ∈ rs from List.getElem_mem _)
          obtain ⟨l, hl⟩ : ∃ l, rs[j].length = l := ⟨_, rfl⟩
          obtain ⟨t, ht⟩ : ∃ t, wordV (min k 61) rs[j] = t := ⟨_, rfl⟩
          obtain ⟨s, hs⟩ : ∃ s, gsum (pcLen (min k 61)) rs[j] = s := ⟨_, rfl⟩
          rw [hl] at c1 HC HC4
          rw [ht] at HC4 hsu
          rw [hs] at HC HC4
          have HSU := hidv hsu
          have HSS := hidv hs
          have hlk := hbx.out.lt
          clear hce e0 r1 hsu hl ht hs
          go_wp2_with fail
          refine HC.out.mono ?_
          rintro e w2 ⟨rfl, q, rfl⟩
          have HO2 := hidv (show World.ownsRow (wr.drewN q) w.heap.size 9 1 _ _ _ from hown.out)
          have HBD := hidv (below_drewN hbe.out q)
          have HXD := hidv (show Bx (wr.drewN q) w.heap.size 48 #[.slice (some ⟨g, o, none⟩) 4 cA] from hbx.out)
          have hsz := hbe.out.size
          by_cases hbig : 60 < s
          · obtain ⟨rfl, rfl⟩ := HR3.out ⟨_, HM.out, by rw [HSS.out]; exact hbig⟩
            have hl2 := World.ownsRow_lit (e := 9) (size := 1) (base := w.heap.size) (wr.drewN q) #[] 0 HBD.out.size (Nat.zero_le _) rfl
            have HL2 := hidv hl2
            clear hl2
            go_wp2_with fail
            go_ret2
            exact ⟨_, rfl, HL2.out, below_al HBD.out _⟩
          · have HSM2 := hidv (show ∀ q (hq : q < rs.length), q < j + 1 → gsum (pcLen (min k 61)) rs[q] ≤ 60 from fun q hq h => by
              rcases Nat.lt_or_ge q j with h2 | h2
              · exact hsm.out q hq h2
              · obtain rfl : q = j := by omega
                rw [HSS.out]; omega)
            have HC5 := hidv (HC4.out _ HBD.out (by omega))
            go_wp2_with fail
            refine HC5.out.mono ?_
            rintro e w4 ⟨rfl, hb4⟩
            have HB4 := hidv (below_on HBD.out hb4)
            have HO4 := hidv (own_below HO2.out hb4)
            have HX4 := hidv (HXD.out.below hb4)
            have hsz4 := HB4.out.size
            clear hb4
            go_wp2_with (at_builtin; refine wpList_append_own _ rfl (.tmp 30) (.tmp 38) 29 rfl w.heap.size 9 i0 (.string ⟨#[]⟩) 1 16 Try.underlying29 hi hz0 hz1 hz2 rfl (by decide) _ _ _ rfl (HO4.out.alloc _) ⟨w4.heap.size, 0, none⟩ 1 1 [.string t] rfl rfl (one_newL w4 _ _) (one_cellS _) ?_ ?_ ?_ ?_; (unfold maxLen; omega); omega; (simp; omega); intro v1 w5 hown1 hgr1 _)
            go_roundw
            case rel =>
              refine ⟨j + 1, by omega, by go_num, hidv ?_, HSM2, hidv ?_, hidv (growL HB4.out (Nat.le_refl _) HO4.out hgr1)⟩
              · rw [HSU.out, List.map_append]
                exact hown1
              · refine (HX4.out.alloc _).grown hgr1 (fun he => ?_)
                obtain ⟨_, _, e1⟩ := Go.Lib.ownsRow_kind HO4.out _ he.symm
                have e2 : w4.heap[w.heap.size]? = some (.cells #[.slice (some ⟨g, o, none⟩) 4 cA] 48 (0, 0)) := HX4.out
                rw [e1] at e2
                simp at e2
            case measure => simp [intOf]; omega
        · obtain rfl : j = 4 := by omega
          have he : rs.take 4 = rs := List.take_of_length_le (by have := HN.out; omega)
          obtain ⟨rfl, rfl⟩ := HR4.out (fun ⟨r, hr, h⟩ => by
            obtain ⟨q, hq, rfl⟩ := List.getElem_of_mem hr
            have := hsm.out q hq (by have := HN.out; omega)
            omega)
          go_wp2_with fail
          go_ret2
          refine ⟨_, rfl, ?_, hbe.out⟩
          have h := hown.out
          rw [he] at h
          unfold Strs
          rw [List.length_map, HN.out]
          exact h

end Go.Proofs.Ythomkmbobaehkaa
