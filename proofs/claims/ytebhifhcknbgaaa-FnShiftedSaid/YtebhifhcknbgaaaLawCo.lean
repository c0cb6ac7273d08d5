/-
  FnCommuting, walked.
-/
import Derived.Test.YtebhifhcknbgaaaDraw
import Derived.Test.YtebhifhcknbgaaaLawsA
import Derived.Test.YtebhifhcknbgaaaWalkC
namespace Go.Proofs.Ytebhifhcknbgaaa
open Go.RowKit Go

theorem u8_of_wf {n : Int} (h : (Lit.int .u8 n).wf = true) : 0 ≤ n ∧ n ≤ 255 := by
  simp [Lit.wf, IntKind.min, IntKind.max, IntKind.signed, IntKind.bits] at h
  omega
theorem word_of_let {t : ByteArray} (h : t.data.toList.all Wd.isL = true) (hs : t.size ≤ 60) : Wd.wordB t.data.toList = true := by
  unfold Wd.wordB
  rw [h, Bool.and_true, decide_eq_true_eq]
  simpa using hs

theorem word_cat {u t : ByteArray} (hu : Wd.wordB u.data.toList = true) (ht : Wd.wordB t.data.toList = true) (hs : u.size + t.size ≤ 60) : Wd.wordB (u ++ t).data.toList = true := by
  unfold Wd.wordB at *
  rw [Bool.and_eq_true] at *
  refine ⟨by rw [cat_data, List.length_append, decide_eq_true_eq]; simpa using hs, ?_⟩
  rw [cat_data, List.all_append, hu.2, ht.2]
  rfl

theorem Byts.more1 {w w' : World} {v : Value} {xs : List Int} (h : Byts w w.heap.size v xs) (hb : Below w.heap.size w w') : Byts w' w'.heap.size v xs :=
  ⟨(h.1.below hb).more hb.size, h.2⟩
/-- What a drawn word is. -/
def DrawnW (t : ByteArray) (most : Nat) : Prop := t.size ≤ most ∧ Wd.wordB t.data.toList = true

set_option maxHeartbeats 400000 in
theorem a2Word_any (v : Value) (xs : List Int) (w : World) (most : Nat) (hv : Byts w w.heap.size v xs) (hx : xs.length ≤ 1000000) (hm : most ≤ 60) :
    Calls Try.prog 15 #[v, .int .i64 (most : Int)] w fun e w' => ∃ t : ByteArray, e = .returned (.string t) ∧ DrawnW t most ∧ Below w.heap.size w w' := by
  obtain ⟨w1, hw1⟩ : ∃ w1, w1 = w.alloc (.cells #[v, .int .i64 0, .int .u64 0] 86) := ⟨_, rfl⟩
  have hb1 : Below w.heap.size w w1 := by rw [hw1]; exact (Below.refl _ _).alloc (Nat.le_refl _) _
  have hs1 : SrcAt w1 w.heap.size v 0 := ⟨0, by omega, by omega, by rw [hw1]; exact heap_alloc_new w _⟩
  have hd := drawn_any w.heap.size 0 w.heap.size v xs w1 (most : Int) hs1 (hv.below hb1) (Nat.le_refl _) (by omega) hx (by omega) (by omega)
  have HD := hidv hd
  have HB1 := hidv hb1
  have HW := hidv hw1
  have hfrom : Calls Try.prog 51 #[v] w fun e w' => e = .returned (.pointer (some ⟨w.heap.size, 0, none⟩)) ∧ w1 = w' := by
    rw [HW.out]
    obtain ⟨A, c, rfl, _⟩ := byts_at hv
    clear hd hs1 hb1 HD HB1 HW hv hw1
    go_enter Try.func51, Try.ntmps51
    go_wp2
    go_ret
    exact ⟨rfl, rfl⟩
  have HF := hidv hfrom
  clear hd hs1 hb1 hv hfrom hw1
  go_enter Try.func15, Try.ntmps15
  go_wp2_with fail
  refine HF.out.mono ?_
  rintro e w' ⟨rfl, rfl⟩
  go_wp2_with fail
  refine HD.out.mono ?_
  rintro e w2 ⟨t, rfl, k', ht1, ht2, _, _, hb2⟩
  go_wp2_with fail
  go_ret
  exact ⟨t, rfl, ⟨by omega, word_of_let ht1 (by omega)⟩, HB1.out.trans hb2⟩

theorem a2Long_any (A A' : Option Addr) (n n' : Nat) (c c' : Nat) (w : World) (hn : n ≤ maxLen) (hn' : n' ≤ maxLen) :
    Calls Try.prog 14 #[.slice A n c, .slice A' n' c'] w fun e w' => e = .returned (.bool (decide (3000 < n) || decide (3000 < n'))) ∧ w = w' := by
  unfold maxLen at hn hn'
  go_enter Try.func14, Try.ntmps14
  go_wp2
  all_goals
    go_ret
    refine ⟨ret_bool ?_, rfl⟩
    rw [Bool.eq_iff_iff]
    simp only [Bool.or_eq_true, decide_eq_true_eq, true_iff]
    omega

set_option maxHeartbeats 400000 in
theorem a2At_any (v : Value) (xs : List Int) (B k : Nat) (n : Int) (w : World) (hv : Byts w B v xs) (hx : xs.length ≤ 1000000) (hk : k ≤ 1000) (hn : 1 ≤ n) (hn2 : n ≤ 1000000) :
    Calls Try.prog 16 #[v, .int .i64 (k : Int), .int .i64 n] w fun e w' => ∃ r : Int, e = .returned (.int .i64 r) ∧ (0 ≤ r ∧ r < n) ∧ Below w.heap.size w w' := by
  obtain ⟨A, c, rfl, hA⟩ := byts_at hv
  obtain ⟨m, hm⟩ : ∃ m, xs.length = m := ⟨_, rfl⟩
  have HA := hidv hA
  rw [hm] at hx ⊢
  have HM := hidv hm
  clear hm hA hv
  by_cases hkm : k < m
  · obtain ⟨g, o, rfl, hg, hce⟩ := HA.out (by have := HM.out; omega)
    obtain ⟨d0, hy0, hy1⟩ := hce k (by have := HM.out; omega)
    obtain ⟨y, hy⟩ : ∃ y, xs[k]'(by have := HM.out; omega) = y := ⟨_, rfl⟩
    rw [hy] at d0 hy0 hy1
    clear hy hce
    go_enter Try.func16, Try.ntmps16
    go_wp2
    go_ret
    exact ⟨_, rfl, ⟨Int.emod_nonneg _ (by omega), Int.emod_lt_of_pos _ (by omega)⟩, Below.refl _ _⟩
  · go_enter Try.func16, Try.ntmps16
    go_wp2
    go_ret
    exact ⟨0, rfl, by omega, Below.refl _ _⟩

theorem word_take {s : ByteArray} (h : Wd.wordB s.data.toList = true) (k : Nat) : Wd.wordB (s.extract 0 k).data.toList = true := by
  unfold Wd.wordB at *
  rw [Bool.and_eq_true] at *
  rw [Lib.extract_data, List.drop_zero, Nat.sub_zero]
  refine ⟨?_, ?_⟩
  · have h1 := h.1
    rw [decide_eq_true_eq] at *
    exact Nat.le_trans (List.length_take_le' _ _) h1
  · rw [List.all_eq_true]
    have h2 := h.2
    rw [List.all_eq_true] at h2
    exact fun c hc => h2 c (List.mem_of_mem_take hc)

theorem repeat_next {x r : ByteArray} {k : Nat} (h : x.data.toList = Lib.repeatL r.data.toList k) : (x ++ r).data.toList = Lib.repeatL r.data.toList (k + 1) := by
  rw [cat_data, h, Lib.repeatL_add, Lib.repeatL_one]
theorem size_bound {x r : ByteArray} {k a : Nat} (hx : x.size = k * r.size) (hk : k < a) (ha : a ≤ 60) (hr : r.size ≤ 60) : x.size + r.size ≤ 3600 := by
  have h1 : k * r.size ≤ 59 * 60 := Nat.mul_le_mul (by omega) hr
  omega
theorem co_facts {u t : ByteArray} (h : ((u ++ t).toList == (t ++ u).toList) = true) (h0 : 0 < u.size + t.size) (hs : u.size + t.size ≤ 60) :
    ∃ (r : ByteArray) (a b : Nat), (u ++ t).extract 0 (Wd.rootLen (u ++ t).data.toList) = r ∧ u.size / Wd.rootLen (u ++ t).data.toList = a ∧ t.size / Wd.rootLen (u ++ t).data.toList = b ∧
      (u ++ t).size / Wd.rootLen (u ++ t).data.toList = a + b ∧ r.extract 0 (Wd.rootLen r.data.toList) = r ∧ r.size / Wd.rootLen r.data.toList = 1 ∧ 1 ≤ r.size ∧ r.size ≤ 60 ∧ a ≤ 60 ∧ b ≤ 60 ∧
      Lib.repeatL r.data.toList a = u.data.toList ∧ Lib.repeatL r.data.toList b = t.data.toList := by
  have hd : u.data.toList ++ t.data.toList = t.data.toList ++ u.data.toList := by
    have h1 := eq_of_beq h
    rw [ByteArray.toList_eq, ByteArray.toList_eq, cat_data, cat_data] at h1
    exact h1
  have hul : u.data.toList.length = u.size := by simp
  have htl : t.data.toList.length = t.size := by simp
  have hl : (u.data.toList ++ t.data.toList).length = u.size + t.size := by rw [List.length_append, hul, htl]
  obtain ⟨c1, c2, c3⟩ := Wd.commute_roots hd (by omega)
  have c4 := Wd.rootLen_root (s := u.data.toList ++ t.data.toList) (by omega)
  obtain ⟨n1, n2, _, _⟩ := Wd.rootLen_spec (u.data.toList ++ t.data.toList) (by omega)
  have hrd : ((u ++ t).extract 0 (Wd.rootLen (u ++ t).data.toList)).data.toList = (u.data.toList ++ t.data.toList).take (Wd.rootLen (u.data.toList ++ t.data.toList)) := by
    rw [Lib.extract_data, List.drop_zero, Nat.sub_zero, cat_data]
  have hss : (u ++ t).size = u.size + t.size := by simp
  rw [hul, hl] at c3
  rw [hul] at c1
  rw [htl] at c2 c3
  rw [hl] at n2
  have hrs : ((u ++ t).extract 0 (Wd.rootLen (u ++ t).data.toList)).size = Wd.rootLen (u.data.toList ++ t.data.toList) := by
    have : ((u ++ t).extract 0 (Wd.rootLen (u ++ t).data.toList)).data.toList.length = Wd.rootLen (u.data.toList ++ t.data.toList) := by
      rw [hrd, List.length_take, hl]
      omega
    exact this
  refine ⟨_, _, _, rfl, rfl, rfl, ?_, ?_, ?_, ?_, ?_, ?_, ?_, ?_, ?_⟩
  · rw [hss, cat_data]; exact c3.symm
  · rw [hrd, c4]
    apply ByteArray.ext
    apply Array.toList_inj.1
    rw [Lib.extract_data, hrd, List.drop_zero, Nat.sub_zero, List.take_take, Nat.min_self]
  · rw [hrd, c4, hrs]
    exact Nat.div_self (by omega)
  · rw [hrs]; exact n1
  · rw [hrs]; omega
  · exact Nat.le_trans (Nat.div_le_self _ _) (by omega)
  · exact Nat.le_trans (Nat.div_le_self _ _) (by omega)
  · rw [hrd, cat_data]; exact c1
  · rw [hrd, cat_data]; exact c2

set_option maxRecDepth 100000 in
set_option maxHeartbeats 3200000 in
theorem law_FnCommuting (v : Value) (xs : List Int) (v' : Value) (xs' : List Int) (w : World) (hv : Byts w w.heap.size v xs) (hx : xs.length ≤ maxLen) (hv' : Byts w w.heap.size v' xs') (hx' : xs'.length ≤ maxLen) :
    Calls Try.prog 3 #[v, v'] w fun e w' => e = .returned (.bool true) ∧ Below w.heap.size w w' := by
  have HV := hidv hv
  have HV' := hidv hv'
  obtain ⟨A, c, rfl, _⟩ := byts_at hv
  obtain ⟨A', c', rfl, _⟩ := byts_at hv'
  have hl := hidv (a2Long_any A A' xs.length xs'.length c c' w hx hx')
  clear hv hv'
  obtain ⟨r, hr⟩ : ∃ r, (decide (3000 < xs.length) || decide (3000 < xs'.length)) = r := ⟨_, rfl⟩
  rw [hr] at hl
  cases r
  case true =>
    clear hr HV HV'
    go_enter Try.func3, Try.ntmps3
    go_wp2_with fail
    refine hl.out.mono ?_
    rintro e w' ⟨rfl, rfl⟩
    go_wp2_with fail
    go_ret
    exact ⟨rfl, Below.refl _ _⟩
  case false =>
    rw [Bool.or_eq_false_iff, decide_eq_false_iff_not, decide_eq_false_iff_not] at hr
    obtain ⟨hx1, hx2⟩ := hr
    have H1 := hidv (a2Word_any _ xs w 10 HV.out (by omega) (by omega))
    go_enter Try.func3, Try.ntmps3
    go_wp2_with fail
    refine hl.out.mono ?_
    rintro e w' ⟨rfl, rfl⟩
    clear hl
    go_wp2_with fail
    refine H1.out.mono ?_
    rintro e w1 ⟨u, rfl, hu, hb1⟩
    clear H1
    have hz1 := hb1.size
    have H2 := hidv (a2Word_any _ xs' w1 10 (HV'.out.more1 hb1) (by omega) (by omega))
    have HB1 := hidv hb1
    clear hb1
    go_wp2_with fail
    refine H2.out.mono ?_
    rintro e w2 ⟨t0, rfl, ht0, hb2⟩
    clear H2
    have HB2 := hidv (HB1.out.trans (hb2.mono hz1))
    have hz2 := HB2.out.size
    have H3 := hidv (a2At_any _ xs' w.heap.size 0 3 w2 (HV'.out.below HB2.out) (by omega) (by omega) (by omega) (by omega))
    clear hb2 HB1
    go_wp2_with fail
    refine H3.out.mono ?_
    rintro e w3 ⟨r3, rfl, hr3, hb3⟩
    clear H3
    have HB3 := hidv (HB2.out.trans (hb3.mono hz2))
    have hz3 := HB3.out.size
    clear hb3 HB2
    have hus : u.size ≤ 10 := hu.1
    have HU := hidv hu.2
    have hts0 : t0.size ≤ 10 := ht0.1
    have HT0 := hidv ht0.2
    have HUU : Hid (Wd.wordB (u ++ u).data.toList = true) := word_cat hu.2 hu.2 (by omega)
    clear hu ht0 HV HV'
    go_wp2_with fail
    · have hts : (u ++ u).size ≤ 20 := by simp; omega
      generalize u ++ u = t at HUU hts ⊢
      have HT := HUU
      obtain ⟨v, hvv⟩ : ∃ v, ((u ++ t).toList == (t ++ u).toList) = v := ⟨_, rfl⟩
      have HC := hidv (implCommute_ok u t w3 (by omega) (by omega) HU.out HT.out v hvv)
      refine HC.out.mono ?_
      rintro e w' ⟨rfl, rfl⟩
      clear HC
      by_cases h0 : u.size + t.size = 0
      · have HR := hidv (implCommonRoot_state u t w3 (by omega) (by omega) HU.out HT.out (.inl h0))
        have hu0 : u.size = 0 := by omega
        have ht0 : t.size = 0 := by omega
        go_wp2_with fail
        refine HR.out.mono ?_
        rintro e w4 ⟨rfl, hb4⟩
        clear HR
        cases v
        all_goals
          go_wp2_with fail
          go_ret
          exact ⟨rfl, HB3.out.trans (hb4.mono hz3)⟩
      cases v
      · have HR := hidv (implCommonRoot_state u t w3 (by omega) (by omega) HU.out HT.out (.inr ⟨by omega, hvv⟩))
        go_wp2_with fail
        refine HR.out.mono ?_
        rintro e w4 ⟨rfl, hb4⟩
        clear HR
        go_wp2_with fail
        go_ret
        exact ⟨rfl, HB3.out.trans (hb4.mono hz3)⟩
      · have hR := implCommonRoot_some u t w3 (by omega) (by omega) HU.out HT.out (by omega) hvv
        have hA := fun w => rootOf_some (u ++ t) w (word_cat HU.out HT.out (by omega)) (by simp; omega) (by simp; omega)
        obtain ⟨r, a, b, e1, e2, e3, e4, e5, e6, hr1, hr2, ha, hb, hua, htb⟩ := co_facts hvv (by omega) (by omega)
        have hwr : Wd.wordB r.data.toList = true := by rw [← e1]; exact word_take (word_cat HU.out HT.out (by omega)) _
        have hB := fun w => rootOf_some r w hwr (by omega) (by omega)
        rw [e1, e2, e3] at hR
        simp only [e1, e4] at hA
        simp only [e5, e6] at hB
        have HR := hidv hR
        have HA := hidv hA
        have HBB := hidv hB
        have HUA := hidv hua
        have HTB := hidv htb
        clear hR hA hB hua htb e1 e2 e3 e4 e5 e6 hwr
        go_wp2_with fail
        refine HR.out.mono ?_
        rintro e w4 ⟨rfl, hb4⟩
        clear HR
        have HB4 := hidv (HB3.out.trans (hb4.mono hz3))
        have hz4 := HB4.out.size
        clear hb4
        go_wp2_with fail
        go_loop [13, 14] (fun q i => ∃ k : Nat, k ≤ a ∧ i = .int .i64 k ∧ ∃ x : ByteArray, q = .string x ∧ Hid (x.data.toList = Lib.repeatL r.data.toList k) ∧ x.size = k * r.size) (fun _ i => a - (intOf i).toNat)
        case atStart => exact ⟨0, Nat.zero_le _, rfl, _, rfl, hidv rfl, (Nat.zero_mul _).symm⟩
        case round =>
          obtain ⟨k, hk, rfl, x, rfl, hxd, hxs⟩ := hrel
          by_cases hlt : k < a
          · have hkr := size_bound hxs hlt ha hr2
            have HN := hidv (repeat_next hxd.out)
            have hsn : (x ++ r).size = (k + 1) * r.size := by simp [hxs, Nat.succ_mul]
            go_wp2
            go_round
            case rel => exact ⟨k + 1, by omega, by go_num, _, rfl, HN, hsn⟩
            case measure => simp [intOf]; omega
          · obtain rfl : k = a := by omega
            obtain rfl : x = u := by
              apply ByteArray.ext
              apply Array.toList_inj.1
              rw [hxd.out, HUA.out]
            go_wp2_with fail
            go_loop [15, 16] (fun q i => ∃ j : Nat, j ≤ b ∧ i = .int .i64 j ∧ ∃ y : ByteArray, q = .string y ∧ Hid (y.data.toList = Lib.repeatL r.data.toList j) ∧ y.size = j * r.size) (fun _ i => b - (intOf i).toNat)
            case atStart => exact ⟨0, Nat.zero_le _, rfl, _, rfl, hidv rfl, (Nat.zero_mul _).symm⟩
            case round =>
              obtain ⟨j, hj, rfl, y, rfl, hyd, hys⟩ := hrel
              by_cases hlt : j < b
              · have hkr := size_bound hys hlt hb hr2
                have HN := hidv (repeat_next hyd.out)
                have hsn : (y ++ r).size = (j + 1) * r.size := by simp [hys, Nat.succ_mul]
                go_wp2
                go_round
                case rel => exact ⟨j + 1, by omega, by go_num, _, rfl, HN, hsn⟩
                case measure => simp [intOf]; omega
              · obtain rfl : j = b := by omega
                obtain rfl : y = t := by
                  apply ByteArray.ext
                  apply Array.toList_inj.1
                  rw [hyd.out, HTB.out]
                clear hxd hyd hxs hys HUA HTB
                go_wp2_with fail
                refine (HA.out _).mono ?_
                rintro e w5 ⟨rfl, hb5⟩
                have HB5 := hidv (HB4.out.trans (hb5.mono hz4))
                have hz5 := HB5.out.size
                clear hb5 HA
                go_wp2_with fail
                refine (HBB.out _).mono ?_
                rintro e w6 ⟨rfl, hb6⟩
                have HB6 := hidv (HB5.out.trans (hb6.mono hz5))
                clear hb6 HBB
                go_wp2_with fail
                go_ret
                exact ⟨rfl, HB6.out⟩
    · have hts : t0.size ≤ 20 := by omega
      have HT := HT0
      clear HUU
      generalize t0 = t at HT hts ⊢
      obtain ⟨v, hvv⟩ : ∃ v, ((u ++ t).toList == (t ++ u).toList) = v := ⟨_, rfl⟩
      have HC := hidv (implCommute_ok u t w3 (by omega) (by omega) HU.out HT.out v hvv)
      refine HC.out.mono ?_
      rintro e w' ⟨rfl, rfl⟩
      clear HC
      by_cases h0 : u.size + t.size = 0
      · have HR := hidv (implCommonRoot_state u t w3 (by omega) (by omega) HU.out HT.out (.inl h0))
        have hu0 : u.size = 0 := by omega
        have ht0 : t.size = 0 := by omega
        go_wp2_with fail
        refine HR.out.mono ?_
        rintro e w4 ⟨rfl, hb4⟩
        clear HR
        cases v
        all_goals
          go_wp2_with fail
          go_ret
          exact ⟨rfl, HB3.out.trans (hb4.mono hz3)⟩
      cases v
      · have HR := hidv (implCommonRoot_state u t w3 (by omega) (by omega) HU.out HT.out (.inr ⟨by omega, hvv⟩))
        go_wp2_with fail
        refine HR.out.mono ?_
        rintro e w4 ⟨rfl, hb4⟩
        clear HR
        go_wp2_with fail
        go_ret
        exact ⟨rfl, HB3.out.trans (hb4.mono hz3)⟩
      · have hR := implCommonRoot_some u t w3 (by omega) (by omega) HU.out HT.out (by omega) hvv
        have hA := fun w => rootOf_some (u ++ t) w (word_cat HU.out HT.out (by omega)) (by simp; omega) (by simp; omega)
        obtain ⟨r, a, b, e1, e2, e3, e4, e5, e6, hr1, hr2, ha, hb, hua, htb⟩ := co_facts hvv (by omega) (by omega)
        have hwr : Wd.wordB r.data.toList = true := by rw [← e1]; exact word_take (word_cat HU.out HT.out (by omega)) _
        have hB := fun w => rootOf_some r w hwr (by omega) (by omega)
        rw [e1, e2, e3] at hR
        simp only [e1, e4] at hA
        simp only [e5, e6] at hB
        have HR := hidv hR
        have HA := hidv hA
        have HBB := hidv hB
        have HUA := hidv hua
        have HTB := hidv htb
        clear hR hA hB hua htb e1 e2 e3 e4 e5 e6 hwr
        go_wp2_with fail
        refine HR.out.mono ?_
        rintro e w4 ⟨rfl, hb4⟩
        clear HR
        have HB4 := hidv (HB3.out.trans (hb4.mono hz3))
        have hz4 := HB4.out.size
        clear hb4
        go_wp2_with fail
        go_loop [13, 14] (fun q i => ∃ k : Nat, k ≤ a ∧ i = .int .i64 k ∧ ∃ x : ByteArray, q = .string x ∧ Hid (x.data.toList = Lib.repeatL r.data.toList k) ∧ x.size = k * r.size) (fun _ i => a - (intOf i).toNat)
        case atStart => exact ⟨0, Nat.zero_le _, rfl, _, rfl, hidv rfl, (Nat.zero_mul _).symm⟩
        case round =>
          obtain ⟨k, hk, rfl, x, rfl, hxd, hxs⟩ := hrel
          by_cases hlt : k < a
          · have hkr := size_bound hxs hlt ha hr2
            have HN := hidv (repeat_next hxd.out)
            have hsn : (x ++ r).size = (k + 1) * r.size := by simp [hxs, Nat.succ_mul]
            go_wp2
            go_round
            case rel => exact ⟨k + 1, by omega, by go_num, _, rfl, HN, hsn⟩
            case measure => simp [intOf]; omega
          · obtain rfl : k = a := by omega
            obtain rfl : x = u := by
              apply ByteArray.ext
              apply Array.toList_inj.1
              rw [hxd.out, HUA.out]
            go_wp2_with fail
            go_loop [15, 16] (fun q i => ∃ j : Nat, j ≤ b ∧ i = .int .i64 j ∧ ∃ y : ByteArray, q = .string y ∧ Hid (y.data.toList = Lib.repeatL r.data.toList j) ∧ y.size = j * r.size) (fun _ i => b - (intOf i).toNat)
            case atStart => exact ⟨0, Nat.zero_le _, rfl, _, rfl, hidv rfl, (Nat.zero_mul _).symm⟩
            case round =>
              obtain ⟨j, hj, rfl, y, rfl, hyd, hys⟩ := hrel
              by_cases hlt : j < b
              · have hkr := size_bound hys hlt hb hr2
                have HN := hidv (repeat_next hyd.out)
                have hsn : (y ++ r).size = (j + 1) * r.size := by simp [hys, Nat.succ_mul]
                go_wp2
                go_round
                case rel => exact ⟨j + 1, by omega, by go_num, _, rfl, HN, hsn⟩
                case measure => simp [intOf]; omega
              · obtain rfl : j = b := by omega
                obtain rfl : y = t := by
                  apply ByteArray.ext
                  apply Array.toList_inj.1
                  rw [hyd.out, HTB.out]
                clear hxd hyd hxs hys HUA HTB
                go_wp2_with fail
                refine (HA.out _).mono ?_
                rintro e w5 ⟨rfl, hb5⟩
                have HB5 := hidv (HB4.out.trans (hb5.mono hz4))
                have hz5 := HB5.out.size
                clear hb5 HA
                go_wp2_with fail
                refine (HBB.out _).mono ?_
                rintro e w6 ⟨rfl, hb6⟩
                have HB6 := hidv (HB5.out.trans (hb6.mono hz5))
                clear hb6 HBB
                go_wp2_with fail
                go_ret
                exact ⟨rfl, HB6.out⟩

end Go.Proofs.Ytebhifhcknbgaaa
