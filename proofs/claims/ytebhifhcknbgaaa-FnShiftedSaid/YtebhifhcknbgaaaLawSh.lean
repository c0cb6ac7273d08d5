/-
  FnShifted, walked.
-/
import Derived.Test.YtebhifhcknbgaaaLawCo
import Derived.Test.YtebhifhcknbgaaaWalkQ
namespace Go.Proofs.Ytebhifhcknbgaaa
open Go.RowKit Go

theorem parts_at {w : World} {B : Nat} {v : Value} {u : ByteArray} {ks : List Nat} (h : Parts w B v u ks) : ∃ A c, v = .slice A ks.length c ∧ ∀ j (hj : j < ks.length), ∃ a o g, A = some ⟨a, o, none⟩ ∧ w.cell? ⟨a, o + j, none⟩ = some (.slice (some ⟨g, 0, none⟩) 2 2) ∧ w.cell? ⟨g, 0, none⟩ = some (.string (u.extract 0 ks[j])) ∧ w.cell? ⟨g, 1, none⟩ = some (.string (u.extract ks[j] u.size)) := by
  obtain ⟨vs, hown, hl, hp⟩ := h
  rcases hown.2 with ⟨rfl, h0⟩ | ⟨g0, cap, cur, rfl, hbg, hg, hnc, hcm, hcs, ht⟩
  · exact ⟨none, 0, by rw [h0], fun j hj => by omega⟩
  · refine ⟨_, cap, rfl, fun j hj => ?_⟩
    obtain ⟨g, h1, h2, h3⟩ := hp j hj
    refine ⟨g0, 0, g, rfl, ?_, ?_, ?_⟩
    · rw [Nat.zero_add, hown.cellAt j (by omega)]
      exact h1
    · rw [cell_of_row _ _ _ _ _ _ h3]; rfl
    · rw [cell_of_row _ _ _ _ _ _ h3]; rfl

theorem word_turned {u : ByteArray} {k : Nat} (h : Wd.wordB u.data.toList = true) (hs : u.size ≤ 60) (hk : k ≤ u.size) : Wd.wordB (u.extract k u.size ++ u.extract 0 k).data.toList = true := by
  unfold Wd.wordB at *
  rw [Bool.and_eq_true] at *
  have hz : (u.extract k u.size ++ u.extract 0 k).size ≤ 60 := by simp; omega
  refine ⟨by rw [decide_eq_true_eq]; simpa using hz, ?_⟩
  have h2 := h.2
  rw [List.all_eq_true] at *
  intro c hc
  rw [cat_data, List.mem_append, Lib.extract_data, Lib.extract_data] at hc
  rcases hc with hc | hc
  · exact h2 c (List.mem_of_mem_drop (List.mem_of_mem_take hc))
  · exact h2 c (List.mem_of_mem_drop (List.mem_of_mem_take hc))
theorem natRow_at {w : World} {B : Nat} {v : Value} {ks : List Nat} (h : Row w B v ((ks.map Int.ofNat).map (Value.int .i64))) : ∃ A c, v = .slice A ks.length c ∧ (0 < ks.length → ∃ g o, A = some ⟨g, o, none⟩ ∧ g < B ∧ ∀ i (hi : i < ks.length), w.cell? ⟨g, o + i, none⟩ = some (.int .i64 ((ks[i] : Nat) : Int))) := by
  obtain ⟨A, c, rfl, hA⟩ := h
  rw [List.length_map, List.length_map] at hA ⊢
  refine ⟨A, c, rfl, fun h0 => ?_⟩
  obtain ⟨g, o, h1, h2, h3⟩ := hA h0
  exact ⟨g, o, h1, h2, fun i hi => h3 i _ (by rw [List.map_map, List.getElem?_map, List.getElem?_eq_getElem hi]; rfl)⟩
theorem filter_range_at (p : Nat → Bool) (N x : Nat) (hx : x < N) (hp : p x = true) :
    ∃ h : ((List.range x).filter p).length < ((List.range N).filter p).length, ((List.range N).filter p)[((List.range x).filter p).length] = x := by
  obtain ⟨d, rfl⟩ := Nat.exists_eq_add_of_lt hx
  have e : (List.range (x + d + 1)).filter p = (List.range x).filter p ++ (x :: ((List.range d).map (x + 1 + ·)).filter p) := by
    rw [show x + d + 1 = x + (d + 1) by omega, List.range_add, List.filter_append, List.range_succ_eq_map, List.map_cons, List.filter_cons]
    simp [hp, Function.comp_def]
    congr 2
    funext a
    omega
  have h : ((List.range x).filter p).length < ((List.range (x + d + 1)).filter p).length := by
    rw [e, List.length_append, List.length_cons]; omega
  refine ⟨h, ?_⟩
  simp only [e]
  rw [List.getElem_append_right (Nat.le_refl _)]
  simp

theorem count_next_no {p : Nat → Bool} {k c : Nat} (h : c = ((List.range k).filter p).length) (hp : p k = false) : c = ((List.range (k + 1)).filter p).length := by
  rw [List.range_succ, List.filter_append, h]
  simp [hp]
theorem count_next_yes {p : Nat → Bool} {k c : Nat} (h : c = ((List.range k).filter p).length) (hp : p k = true) : c + 1 = ((List.range (k + 1)).filter p).length := by
  rw [List.range_succ, List.filter_append, h]
  simp [hp]
theorem at_of_K {u t : ByteArray} {ks : List Nat} {N k c : Nat} (hK : shK u t = ks) (hN : max u.size 1 = N) (hk : k < N) (hp : shB u t k = true) (hc : c = ((List.range k).filter (shB u t)).length) : ∃ h : c < ks.length, ks[c] = k := by
  subst hK hN hc
  exact filter_range_at (shB u t) (max u.size 1) k hk hp

set_option maxHeartbeats 400000 in
theorem a2At0_any (v : Value) (xs : List Int) (B k : Nat) (n : Nat) (w : World) (hv : Byts w B v xs) (hx : xs.length ≤ 1000000) (hk : k ≤ 1000) (hn2 : n ≤ 1000000) :
    Calls Try.prog 16 #[v, .int .i64 (k : Int), .int .i64 (n : Int)] w fun e w' => ∃ r : Nat, e = .returned (.int .i64 (r : Int)) ∧ r ≤ n ∧ Below w.heap.size w w' := by
  by_cases h1 : 1 ≤ n
  · refine (a2At_any v xs B k n w hv hx hk (by omega) (by omega)).mono ?_
    rintro e w' ⟨r, rfl, ⟨h2, h3⟩, hb⟩
    exact ⟨r.toNat, by rw [Int.toNat_of_nonneg h2], by omega, hb⟩
  · obtain rfl : n = 0 := by omega
    obtain ⟨A, c, rfl, hA⟩ := byts_at hv
    clear hA hv
    go_enter Try.func16, Try.ntmps16
    go_wp2
    all_goals
      go_ret
      exact ⟨0, rfl, by omega, Below.refl _ _⟩

set_option maxRecDepth 100000 in
set_option maxHeartbeats 3200000 in
theorem law_FnShifted (v : Value) (xs : List Int) (v' : Value) (xs' : List Int) (w : World) (hv : Byts w w.heap.size v xs) (hx : xs.length ≤ maxLen) (hv' : Byts w w.heap.size v' xs') (hx' : xs'.length ≤ maxLen) :
    Calls Try.prog 4 #[v, v'] w fun e w' => e = .returned (.bool true) ∧ Below w.heap.size w w' := by
  have HV := hidv hv
  have HV' := hidv hv'
  obtain ⟨A, c, rfl, _⟩ := byts_at hv
  obtain ⟨A', c', rfl, _⟩ := byts_at hv'
  have hl := hidv (a2Long_any A A' xs.length xs'.length c c' w hx hx')
  clear hv hv'
  obtain ⟨r, hr⟩ : ∃ r, (decide (3000 < xs.length) || decide (3000 < xs'.length)) = r := ⟨_, rfl⟩
  rw [hr] at hl
  cases r
  case true =>
    clear hr HV HV'
    go_enter Try.func4, Try.ntmps4
    go_wp2_with fail
    refine hl.out.mono ?_
    rintro e w' ⟨rfl, rfl⟩
    go_wp2_with fail
    go_ret
    exact ⟨rfl, Below.refl _ _⟩
  case false =>
    rw [Bool.or_eq_false_iff, decide_eq_false_iff_not, decide_eq_false_iff_not] at hr
    obtain ⟨hx1, hx2⟩ := hr
    have H1 := hidv (a2Word_any _ xs w 10 HV.out (by omega) (by omega))
    go_enter Try.func4, Try.ntmps4
    go_wp2_with fail
    refine hl.out.mono ?_
    rintro e w' ⟨rfl, rfl⟩
    clear hl
    go_wp2_with fail
    refine H1.out.mono ?_
    rintro e w1 ⟨u, rfl, hu, hb1⟩
    clear H1
    have hz1 := hb1.size
    have HB1 := hidv hb1
    have hus : u.size ≤ 10 := hu.1
    have HU := hidv hu.2
    have H2 := hidv (a2At0_any _ xs' w.heap.size 0 u.size w1 (HV'.out.below hb1) (by omega) (by omega) (by omega))
    clear hb1 hu
    go_wp2_with fail
    refine H2.out.mono ?_
    rintro e w2 ⟨k, rfl, hk, hb2⟩
    clear H2
    have HB2 := hidv (HB1.out.trans (hb2.mono hz1))
    have hz2 := HB2.out.size
    clear hb2 HB1
    have hs1 := slice_u0 u hk
    have hs2 := slice_u1 u hk
    have hws : (u.extract k u.size ++ u.extract 0 k).size ≤ 10 := by simp; omega
    have HWW : Hid (Wd.wordB (u.extract k u.size ++ u.extract 0 k).data.toList = true) := word_turned HU.out (by omega) hk
    have hes1 : (u.extract k u.size).size + (u.extract 0 k).size ≤ 10 := by simp; omega
    go_wp2_with fail
    go_quiet (fail)
    have HB3 : Hid (Below w.heap.size w (w2.drewN nq)) := below_drewN HB2.out nq
    have hz3 : w.heap.size ≤ (w2.drewN nq).heap.size := hz2
    generalize w2.drewN nq = w3 at HB3 hz3 ⊢
    clear HB2
    have H3 := hidv (a2At0_any _ xs' w.heap.size 1 4 w3 (HV'.out.below HB3.out) (by omega) (by omega) (by omega))
    generalize u.extract k u.size ++ u.extract 0 k = t1 at hws HWW ⊢
    go_wp2_with fail
    refine H3.out.mono ?_
    rintro e w4 ⟨r4, rfl, hr4, hb4⟩
    clear H3
    have HB4 := hidv (HB3.out.trans (hb4.mono hz3))
    have hz4 := HB4.out.size
    clear hb4 HB3
    go_wp2_with fail
    · have H4 := hidv (a2Word_any _ xs' w4 10 (HV'.out.more1 HB4.out) (by omega) (by omega))
      refine H4.out.mono ?_
      rintro e w5 ⟨t, rfl, ht, hb5⟩
      clear H4
      have HB5 := hidv (HB4.out.trans (hb5.mono hz4))
      have hz5 := HB5.out.size
      have hts : t.size ≤ 10 := ht.1
      have HT := hidv ht.2
      clear hb5 ht HB4 HWW
      go_wp2_with fail
      have HS := hidv (implShifts_ok u t w5 (by omega) (by omega) HU.out HT.out)
      refine HS.out.mono ?_
      rintro e w6 ⟨vs, rfl, hvs, hb6⟩
      clear HS
      have HB6 := hidv (HB5.out.trans (hb6.mono hz5))
      have hz6 := HB6.out.size
      obtain ⟨ks, hks⟩ : ∃ ks, shK u t = ks := ⟨_, rfl⟩
      rw [shiftsTo_K, hks] at hvs
      obtain ⟨A1, c1, rfl, hA1⟩ := natRow_at hvs.row
      have HP := hidv (implParts_ok u t w6 (by omega) (by omega) HU.out HT.out ks hks)
      have hn60 : ks.length ≤ max u.size 1 := by rw [← hks]; exact shK_len u t
      have HA1 := hidv hA1
      have HK := hidv hks
      clear hvs hb6 hA1 hks HV HV'
      go_wp2_with fail
      refine HP.out.mono ?_
      rintro e w7 ⟨vp, rfl, hvp, hb7⟩
      clear HP
      have HB7 := hidv (HB6.out.trans (hb7.mono hz6))
      obtain ⟨A2, c2, rfl, hA2⟩ := parts_at hvp
      have HA2 := hidv hA2
      have HB67 := hidv hb7
      clear hvp hb7 hA2
      obtain ⟨n, hn⟩ : ∃ n, ks.length = n := ⟨_, rfl⟩
      rw [hn] at hn60 ⊢
      have HN := hidv hn
      obtain ⟨N, hN⟩ : ∃ N, max u.size 1 = N := ⟨_, rfl⟩
      rw [hN] at hn60
      have HNN := hidv hN
      have hN1 : u.size ≤ N := by omega
      have hN2 : N ≤ 60 := by omega
      have hN3 : N ≤ u.size ∨ u.size = 0 ∧ N = 1 := by omega
      have hN4 : 1 ≤ N := by omega
      clear hn hN
      go_wp2_with fail
      go_loopw [12, 13] (fun cnt x wr => ∃ (k m c : Nat), k ≤ N ∧ x = .int .i64 k ∧ cnt = .int .i64 c ∧ c ≤ k ∧ Hid (c = ((List.range k).filter (shB u t)).length) ∧ wr = w7.drewN m) (fun _ x _ => N - (intOf x).toNat)
      case atStart => exact ⟨0, 0, 0, Nat.zero_le _, rfl, rfl, Nat.le_refl _, hidv rfl, rfl⟩
      case round =>
        obtain ⟨k, m, c, hk, rfl, rfl, hck, hcc, rfl⟩ := hrel
        by_cases hlt : k < N
        · have hku : k ≤ u.size := by omega
          have hs1 := slice_u0 u hku
          have hs2 := slice_u1 u hku
          have hg : ((k : Int) == 0) = true ∨ ((k : Int) == 0) = false ∧ k < u.size := by
            rcases Nat.eq_zero_or_pos k with h | h
            · exact .inl (by rw [beq_iff_eq]; omega)
            · exact .inr ⟨by rw [beq_eq_false_iff_ne]; omega, by omega⟩
          rcases hg with hg | ⟨hg, hg2⟩
          all_goals
            go_wp2
            go_quiet (fail)
            go_wp2
            · have hq : (!(u.extract k u.size ++ u.extract 0 k).toList == t.toList) = true := by assumption
              have hsh : shB u t k = false := by unfold shB; simpa using hq
              go_roundw
              case rel => exact ⟨k + 1, _, c, by omega, by go_num, rfl, by omega, hidv (count_next_no hcc.out hsh), rfl⟩
              case measure => simp [intOf]; omega
            · have hq : (!(u.extract k u.size ++ u.extract 0 k).toList == t.toList) = false := by assumption
              have hsh : shB u t k = true := by unfold shB; simpa using hq
              obtain ⟨hcn, hcv⟩ := at_of_K HK.out HNN.out hlt hsh hcc.out
              obtain ⟨ag, ao, ag1, rfl, hp0, hp1, hp2⟩ := HA2.out c hcn
              obtain ⟨sg, so, rfl, hsg, hsc⟩ := HA1.out (by omega)
              have d0 : w7.cell? ⟨sg, so + c, none⟩ = some (.int .i64 (k : Int)) := by
                rw [HB67.out.cell (p := ⟨sg, so + c, none⟩) hsg, hsc c hcn, hcv]
              rw [hcv] at hp1 hp2
              have hcn' : c < n := by have := HN.out; omega
              clear hsc hcv hcn hq
              go_quiet (fail)
              go_wp2_with fail
              go_roundw
              case rel => exact ⟨k + 1, _, c + 1, by omega, by go_num, by go_num, by omega, hidv (count_next_yes hcc.out hsh), rfl⟩
              case measure => simp [intOf]; omega
        · obtain rfl : k = N := by omega
          have hg : ((k : Int) == 0) = false := by rw [beq_eq_false_iff_ne]; omega
          obtain rfl : c = n := by
            rw [hcc.out, ← HN.out, ← HK.out]
            unfold shK
            rw [HNN.out]
          go_wp2
          go_ret
          exact ⟨rfl, below_drewN HB7.out _⟩
    · have HB5 := HB4
      have hz5 := hz4
      have HT := HWW
      have hts := hws
      generalize w4 = w5 at HB5 hz5 HB4 hz4 ⊢
      generalize t1 = t at HT hts hws HWW ⊢
      clear HB4 HWW
      have HS := hidv (implShifts_ok u t w5 (by omega) (by omega) HU.out HT.out)
      refine HS.out.mono ?_
      rintro e w6 ⟨vs, rfl, hvs, hb6⟩
      clear HS
      have HB6 := hidv (HB5.out.trans (hb6.mono hz5))
      have hz6 := HB6.out.size
      obtain ⟨ks, hks⟩ : ∃ ks, shK u t = ks := ⟨_, rfl⟩
      rw [shiftsTo_K, hks] at hvs
      obtain ⟨A1, c1, rfl, hA1⟩ := natRow_at hvs.row
      have HP := hidv (implParts_ok u t w6 (by omega) (by omega) HU.out HT.out ks hks)
      have hn60 : ks.length ≤ max u.size 1 := by rw [← hks]; exact shK_len u t
      have HA1 := hidv hA1
      have HK := hidv hks
      clear hvs hb6 hA1 hks HV HV'
      go_wp2_with fail
      refine HP.out.mono ?_
      rintro e w7 ⟨vp, rfl, hvp, hb7⟩
      clear HP
      have HB7 := hidv (HB6.out.trans (hb7.mono hz6))
      obtain ⟨A2, c2, rfl, hA2⟩ := parts_at hvp
      have HA2 := hidv hA2
      have HB67 := hidv hb7
      clear hvp hb7 hA2
      obtain ⟨n, hn⟩ : ∃ n, ks.length = n := ⟨_, rfl⟩
      rw [hn] at hn60 ⊢
      have HN := hidv hn
      obtain ⟨N, hN⟩ : ∃ N, max u.size 1 = N := ⟨_, rfl⟩
      rw [hN] at hn60
      have HNN := hidv hN
      have hN1 : u.size ≤ N := by omega
      have hN2 : N ≤ 60 := by omega
      have hN3 : N ≤ u.size ∨ u.size = 0 ∧ N = 1 := by omega
      have hN4 : 1 ≤ N := by omega
      clear hn hN
      go_wp2_with fail
      go_loopw [12, 13] (fun cnt x wr => ∃ (k m c : Nat), k ≤ N ∧ x = .int .i64 k ∧ cnt = .int .i64 c ∧ c ≤ k ∧ Hid (c = ((List.range k).filter (shB u t)).length) ∧ wr = w7.drewN m) (fun _ x _ => N - (intOf x).toNat)
      case atStart => exact ⟨0, 0, 0, Nat.zero_le _, rfl, rfl, Nat.le_refl _, hidv rfl, rfl⟩
      case round =>
        obtain ⟨k, m, c, hk, rfl, rfl, hck, hcc, rfl⟩ := hrel
        by_cases hlt : k < N
        · have hku : k ≤ u.size := by omega
          have hs1 := slice_u0 u hku
          have hs2 := slice_u1 u hku
          have hg : ((k : Int) == 0) = true ∨ ((k : Int) == 0) = false ∧ k < u.size := by
            rcases Nat.eq_zero_or_pos k with h | h
            · exact .inl (by rw [beq_iff_eq]; omega)
            · exact .inr ⟨by rw [beq_eq_false_iff_ne]; omega, by omega⟩
          rcases hg with hg | ⟨hg, hg2⟩
          all_goals
            go_wp2
            go_quiet (fail)
            go_wp2
            · have hq : (!(u.extract k u.size ++ u.extract 0 k).toList == t.toList) = true := by assumption
              have hsh : shB u t k = false := by unfold shB; simpa using hq
              go_roundw
              case rel => exact ⟨k + 1, _, c, by omega, by go_num, rfl, by omega, hidv (count_next_no hcc.out hsh), rfl⟩
              case measure => simp [intOf]; omega
            · have hq : (!(u.extract k u.size ++ u.extract 0 k).toList == t.toList) = false := by assumption
              have hsh : shB u t k = true := by unfold shB; simpa using hq
              obtain ⟨hcn, hcv⟩ := at_of_K HK.out HNN.out hlt hsh hcc.out
              obtain ⟨ag, ao, ag1, rfl, hp0, hp1, hp2⟩ := HA2.out c hcn
              obtain ⟨sg, so, rfl, hsg, hsc⟩ := HA1.out (by omega)
              have d0 : w7.cell? ⟨sg, so + c, none⟩ = some (.int .i64 (k : Int)) := by
                rw [HB67.out.cell (p := ⟨sg, so + c, none⟩) hsg, hsc c hcn, hcv]
              rw [hcv] at hp1 hp2
              have hcn' : c < n := by have := HN.out; omega
              clear hsc hcv hcn hq
              go_quiet (fail)
              go_wp2_with fail
              go_roundw
              case rel => exact ⟨k + 1, _, c + 1, by omega, by go_num, by go_num, by omega, hidv (count_next_yes hcc.out hsh), rfl⟩
              case measure => simp [intOf]; omega
        · obtain rfl : k = N := by omega
          have hg : ((k : Int) == 0) = false := by rw [beq_eq_false_iff_ne]; omega
          obtain rfl : c = n := by
            rw [hcc.out, ← HN.out, ← HK.out]
            unfold shK
            rw [HNN.out]
          go_wp2
          go_ret
          exact ⟨rfl, below_drewN HB7.out _⟩

end Go.Proofs.Ytebhifhcknbgaaa
