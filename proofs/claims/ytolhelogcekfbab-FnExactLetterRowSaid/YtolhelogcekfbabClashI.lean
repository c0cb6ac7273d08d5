/-
  ClashOf, of the program and of the model, and the law over them.
-/
import Derived.Test.YtolhelogcekfbabClash
namespace Go.Proofs.Ytolhelogcekfbab
open Go.RowKit Go

theorem stripF_sub : ∀ u v : List UInt8, ((stripF u v).1.length ≤ u.length ∧ ∀ c ∈ (stripF u v).1, c ∈ u) ∧ ((stripF u v).2.length ≤ v.length ∧ ∀ c ∈ (stripF u v).2, c ∈ v)
  | [], v => by rw [stripF_nilL]; simp
  | a :: u, [] => by rw [stripF_nilR]; simp
  | a :: u, b :: v => by
    have ih := stripF_sub u v
    unfold stripF
    by_cases h : a = b
    · rw [if_pos h]
      exact ⟨⟨Nat.le_succ_of_le ih.1.1, fun c hc => List.mem_cons_of_mem _ (ih.1.2 c hc)⟩, ⟨Nat.le_succ_of_le ih.2.1, fun c hc => List.mem_cons_of_mem _ (ih.2.2 c hc)⟩⟩
    · rw [if_neg h]
      simp
theorem strip2_sub (u v : List UInt8) : ((strip2 u v).1.length ≤ u.length ∧ ∀ c ∈ (strip2 u v).1, c ∈ u) ∧ ((strip2 u v).2.length ≤ v.length ∧ ∀ c ∈ (strip2 u v).2, c ∈ v) := by
  have h1 := stripF_sub u v
  have h2 := stripF_sub (stripF u v).1.reverse (stripF u v).2.reverse
  unfold strip2 stripB
  simp only [List.length_reverse, List.mem_reverse] at h2 ⊢
  exact ⟨⟨by omega, fun c hc => h1.1.2 c (h2.1.2 c hc)⟩, ⟨by omega, fun c hc => h1.2.2 c (h2.2.2 c hc)⟩⟩
theorem termB_ascii {l : List UInt8} (h : Wd.termB l = true) : ∀ c ∈ l, c.toNat < 128 := by
  intro c hc
  unfold Wd.termB at h
  rw [Bool.and_eq_true, List.all_eq_true] at h
  have := h.2 c hc
  rw [Bool.or_eq_true] at this
  rcases this with h1 | h1
  · unfold Wd.isL at h1
    simp at h1
    omega
  · unfold Wd.isU at h1
    simp at h1
    rcases h1 with ((h1 | h1) | h1) | h1 <;> subst h1 <;> decide
theorem indexAny_letters (l : List UInt8) : decide (0 ≤ Lib.indexAny l [97, 98, 99, 100]) = l.any Wd.isL := by
  induction l with
  | nil => rfl
  | cons b l ih =>
    have hb : ([97, 98, 99, 100] : List UInt8).contains b = Wd.isL b := by
      unfold Wd.isL
      rw [Bool.eq_iff_iff]
      simp [← UInt8.toNat_inj]
      omega
    have hge := Lib.indexAny_ge [97, 98, 99, 100] l
    rw [List.any_cons]
    unfold Lib.indexAny
    rw [hb]
    cases hl : Wd.isL b
    · rw [if_neg (by simp), Bool.false_or, ← ih]
      by_cases h1 : Lib.indexAny l [97, 98, 99, 100] = -1
      · simp [h1]
      · rw [if_neg (by simpa using h1)]
        rw [decide_eq_true (by omega), decide_eq_true (by omega)]
    · rw [if_pos rfl]
      rfl
theorem containsAny_letters (l : List UInt8) : Lib.containsAny l [97, 98, 99, 100] = l.any Wd.isL := indexAny_letters l

set_option maxHeartbeats 400000 in
theorem isLetter_one (s : ByteArray) (b : UInt8) (w : World) (hs : s = ⟨#[b]⟩) :
    Calls Try.prog 74 #[.string s] w fun e w' => e = .returned (.bool (Wd.isL b)) ∧ w = w' := by
  have c0 := fun W => (Try.strings_Contains_one ⟨#[97, 98, 99, 100]⟩ b W)
  have hc : decide (0 ≤ Lib.indexByte [97, 98, 99, 100] b) = Wd.isL b := by
    have := Wd.indexByte_neg [97, 98, 99, 100] b
    have h2 : ([97, 98, 99, 100] : List UInt8).contains b = Wd.isL b := by
      unfold Wd.isL
      rw [Bool.eq_iff_iff]
      simp [← UInt8.toNat_inj]
      omega
    rw [h2] at this
    rw [Bool.eq_iff_iff] at this ⊢
    simp at this ⊢
    cases h : Wd.isL b
    · rw [h] at this; simp at this ⊢; omega
    · rw [h] at this; simp at this ⊢; omega
  subst hs
  obtain ⟨p, hp⟩ : ∃ p, Wd.isL b = p := ⟨_, rfl⟩
  rw [hp] at hc ⊢
  have C0 : Hid (∀ W : World, Calls Try.prog 106 #[.string ⟨#[97, 98, 99, 100]⟩, .string ⟨#[b]⟩] W fun e w' => e = .returned (.bool p) ∧ w' = W) := by
    intro W
    have := c0 W
    rw [show decide (0 ≤ Lib.indexByte (⟨#[97, 98, 99, 100]⟩ : ByteArray).data.toList b) = p from hc] at this
    exact this
  clear c0 hc hp
  go_enter Try.func74, Try.ntmps74
  go_wp2_with fail
  refine (C0.out _).mono ?_
  rintro e w' ⟨rfl, rfl⟩
  go_wp2_with fail
  go_ret
  exact ⟨rfl, rfl⟩

theorem extract_head {x : ByteArray} (h : 0 < x.size) : x.extract 0 1 = ⟨#[x[0]]⟩ := by
  have h1 : (x.extract 0 1).data.toList = [x[0]] := by
    rw [Lib.extract_data, List.drop_zero, Nat.sub_zero]
    have := data_cons h
    rw [this]
    rfl
  exact ba_of h1
theorem extract_last {x : ByteArray} {m : Nat} (h : m < x.size) (hm : x.size = m + 1) : x.extract m x.size = ⟨#[x[m]]⟩ := by
  have h1 : (x.extract m x.size).data.toList = [x[m]] := by
    rw [Lib.extract_data, show x.size - m = 1 by omega, List.drop_eq_getElem_cons (by simpa using h)]
    rfl
  exact ba_of h1

/-- What ClashOf gives of the stripped terms: the kind and the code. -/
def clashC (k : Int) : Int := if k = 0 then 6 else 0

set_option maxHeartbeats 1600000 in
theorem implClash_ok (l r x y : ByteArray) (w : World) (h : eqnB l r = true) (hx : ⟨⟨(strip2 l.data.toList r.data.toList).1⟩⟩ = x) (hy : ⟨⟨(strip2 l.data.toList r.data.toList).2⟩⟩ = y) :
    Calls Try.prog 36 #[.agg #[.string l, .string r]] w fun e w' => e = .returned (.tuple #[.int .i64 (clashK x y), .int .i64 (clashC (clashK x y))]) ∧ Below w.heap.size w w' := by
  have hsz := eqnB_sizes h
  have c1 := fun W => implOk_any l r W (by unfold maxLen; omega) (by unfold maxLen; omega)
  have c2 := fun W => implStrip_any l r W (by omega) (by omega)
  rw [h] at c1
  rw [hx, hy] at c2
  have hsub := strip2_sub l.data.toList r.data.toList
  have hxs : x.size ≤ 24 := by
    rw [← hx]
    show (strip2 l.data.toList r.data.toList).1.length ≤ 24
    have := hsub.1.1
    simp at this
    omega
  have hys : y.size ≤ 24 := by
    rw [← hy]
    show (strip2 l.data.toList r.data.toList).2.length ≤ 24
    have := hsub.2.1
    simp at this
    omega
  have hasc : ∀ c ∈ x.data.toList ++ y.data.toList, c.toNat < 128 := by
    have ht := h
    unfold eqnB at ht
    rw [Bool.and_eq_true] at ht
    intro c hc
    rw [List.mem_append] at hc
    rcases hc with hc | hc
    · rw [← hx] at hc
      exact termB_ascii ht.1 c (hsub.1.2 c hc)
    · rw [← hy] at hc
      exact termB_ascii ht.2 c (hsub.2.2 c hc)
  obtain ⟨kv, hkv⟩ : ∃ k, clashK x y = k := ⟨_, rfl⟩
  rw [hkv]
  have HK := hidv hkv
  clear hkv
  have C1 := hidv c1
  have C2 := hidv c2
  have HASC := hidv hasc
  clear c1 c2 h hx hy hsub hasc hsz
  go_enter Try.func36, Try.ntmps36
  go_wp2_with fail
  refine (C1.out _).mono ?_
  rintro e w1 ⟨rfl, hb1⟩
  have hbx := (Bx.new w 44 #[.string l, .string r]).below hb1
  have HB1 := hidv (((Below.refl w.heap.size w).alloc (Nat.le_refl _) _).trans (hb1.mono (by simp)))
  obtain ⟨b0, b1⟩ := hbx.two
  clear hb1 hbx
  go_wp2_with fail
  refine (C2.out _).mono ?_
  rintro e w2 ⟨rfl, hb2⟩
  have HB2 := hidv (HB1.out.trans (hb2.mono HB1.out.size))
  have HB3 := hidv (HB2.out.alloc HB2.out.size (.cells #[.string x, .string y] 44))
  clear hb2 b0 b1 HB1
  by_cases hxp : 0 < x.size
  · by_cases hyp : 0 < y.size
    · obtain ⟨p1, hp1⟩ : ∃ p, Wd.isL (x.data.toList.getD 0 0) = p := ⟨_, rfl⟩
      obtain ⟨p2, hp2⟩ : ∃ p, Wd.isL (y.data.toList.getD 0 0) = p := ⟨_, rfl⟩
      obtain ⟨p3, hp3⟩ : ∃ p, Wd.isL (x.data.toList.getD (x.size - 1) 0) = p := ⟨_, rfl⟩
      obtain ⟨p4, hp4⟩ : ∃ p, Wd.isL (y.data.toList.getD (y.size - 1) 0) = p := ⟨_, rfl⟩
      have HKV : Hid (kv = if p1 && p2 then 1 else if p3 && p4 then 2 else 0) := by
        show _ = _
        rw [← HK.out]
        unfold clashK bothL
        rw [if_pos ⟨hxp, hyp⟩, hp1, hp2, hp3, hp4]
      obtain ⟨m1, hm1⟩ : ∃ m, x.size = m + 1 := ⟨x.size - 1, by omega⟩
      obtain ⟨m2, hm2⟩ : ∃ m, y.size = m + 1 := ⟨y.size - 1, by omega⟩
      have l1 : m1 < x.size := by omega
      have l2 : m2 < y.size := by omega
      rw [show x.size - 1 = m1 by omega, isL_getD l1] at hp3
      rw [show y.size - 1 = m2 by omega, isL_getD l2] at hp4
      rw [isL_getD hxp] at hp1
      rw [isL_getD hyp] at hp2
      have c1 := fun W => isLetter_one (x.extract 0 1) x[0] W (extract_head hxp)
      have c2 := fun W => isLetter_one (y.extract 0 1) y[0] W (extract_head hyp)
      have c3 := fun W => isLetter_one (x.extract m1 x.size) x[m1] W (extract_last l1 hm1)
      have c4 := fun W => isLetter_one (y.extract m2 y.size) y[m2] W (extract_last l2 hm2)
      rw [hp1] at c1
      rw [hp2] at c2
      rw [hp3] at c3
      rw [hp4] at c4
      have C1 := hidv c1
      have C2 := hidv c2
      have C3 := hidv c3
      have C4 := hidv c4
      have hw1 : (x.size : Int) - 1 = (m1 : Int) := by omega
      have hw2 : (y.size : Int) - 1 = (m2 : Int) := by omega
      have ex := full_of hxp
      have ey := full_of hyp
      clear hp1 hp2 hp3 hp4 hm1 hm2 c1 c2 c3 c4
      go_wp2_with fail
      refine (C1.out _).mono ?_
      rintro e w' ⟨rfl, rfl⟩
      cases p1
      · go_wp2_with fail
        refine (C3.out _).mono ?_
        rintro e w' ⟨rfl, rfl⟩
        cases p3
        · go_wp2_with fail
          go_ret2
          exact ⟨by rw [show kv = 0 from HKV.out]; rfl, HB3.out⟩
        · go_wp2_with fail
          refine (C4.out _).mono ?_
          rintro e w' ⟨rfl, rfl⟩
          cases p4
          · go_wp2_with fail
            go_ret2
            exact ⟨by rw [show kv = 0 from HKV.out]; rfl, HB3.out⟩
          · go_wp2_with fail
            go_ret2
            exact ⟨by rw [show kv = 2 from HKV.out]; rfl, HB3.out⟩
      · go_wp2_with fail
        refine (C2.out _).mono ?_
        rintro e w' ⟨rfl, rfl⟩
        cases p2
        · go_wp2_with fail
          refine (C3.out _).mono ?_
          rintro e w' ⟨rfl, rfl⟩
          cases p3
          · go_wp2_with fail
            go_ret2
            exact ⟨by rw [show kv = 0 from HKV.out]; rfl, HB3.out⟩
          · go_wp2_with fail
            refine (C4.out _).mono ?_
            rintro e w' ⟨rfl, rfl⟩
            cases p4
            · go_wp2_with fail
              go_ret2
              exact ⟨by rw [show kv = 0 from HKV.out]; rfl, HB3.out⟩
            · go_wp2_with fail
              go_ret2
              exact ⟨by rw [show kv = 2 from HKV.out]; rfl, HB3.out⟩
        · go_wp2_with fail
          go_ret2
          exact ⟨by rw [show kv = 1 from HKV.out]; rfl, HB3.out⟩
    · have hy0 : y.size = 0 := by omega
      have ex := full_of hxp
      have ey := empty_of hy0
      have HKV : Hid (kv = if (x.data.toList ++ y.data.toList).any Wd.isL then 3 else 0) := by
        show _ = _
        rw [← HK.out]
        unfold clashK
        rw [if_neg (by omega)]
      clear hyp hxp hy0
      have cc := fun W => Try.strings_ContainsAny_laid (x ++ y) ⟨#[97, 98, 99, 100]⟩ W (by rw [ByteArray.size_append]; omega) (by decide) (fun j b hb => HASC.out b (by rw [ByteArray.data_append, Array.toList_append] at hb; exact List.mem_of_getElem? hb)) (fun j b hb => by have := List.mem_of_getElem? hb; simp at this; rcases this with rfl | rfl | rfl | rfl <;> decide)
      obtain ⟨p, hp⟩ : ∃ p, (x.data.toList ++ y.data.toList).any Wd.isL = p := ⟨_, rfl⟩
      have CC : Hid (∀ W : World, Calls Try.prog 73 #[.string (x ++ y), .string ⟨#[97, 98, 99, 100]⟩] W fun e w' => e = .returned (.bool p) ∧ Below W.heap.size W w') := by
        intro W
        have := cc W
        rw [show Lib.containsAny (x ++ y).data.toList (⟨#[97, 98, 99, 100]⟩ : ByteArray).data.toList = p from by rw [containsAny_letters, ByteArray.data_append, Array.toList_append]; exact hp] at this
        exact this
      rw [hp] at HKV
      clear cc hp
      go_wp2_with fail
      refine (CC.out _).mono ?_
      rintro e w3 ⟨rfl, hb3⟩
      have HB4 := hidv (HB3.out.trans (hb3.mono HB3.out.size))
      clear hb3
      cases p
      · go_wp2_with fail
        go_ret2
        exact ⟨by rw [show kv = 0 from HKV.out]; rfl, HB4.out⟩
      · go_wp2_with fail
        go_ret2
        exact ⟨by rw [show kv = 3 from HKV.out]; rfl, HB4.out⟩
  · have ex := empty_of (x := x) (by omega)
    have HKV : Hid (kv = if (x.data.toList ++ y.data.toList).any Wd.isL then 3 else 0) := by
      show _ = _
      rw [← HK.out]
      unfold clashK
      rw [if_neg (by omega)]
    clear hxp
    have cc := fun W => Try.strings_ContainsAny_laid (x ++ y) ⟨#[97, 98, 99, 100]⟩ W (by rw [ByteArray.size_append]; omega) (by decide) (fun j b hb => HASC.out b (by rw [ByteArray.data_append, Array.toList_append] at hb; exact List.mem_of_getElem? hb)) (fun j b hb => by have := List.mem_of_getElem? hb; simp at this; rcases this with rfl | rfl | rfl | rfl <;> decide)
    obtain ⟨p, hp⟩ : ∃ p, (x.data.toList ++ y.data.toList).any Wd.isL = p := ⟨_, rfl⟩
    have CC : Hid (∀ W : World, Calls Try.prog 73 #[.string (x ++ y), .string ⟨#[97, 98, 99, 100]⟩] W fun e w' => e = .returned (.bool p) ∧ Below W.heap.size W w') := by
      intro W
      have := cc W
      rw [show Lib.containsAny (x ++ y).data.toList (⟨#[97, 98, 99, 100]⟩ : ByteArray).data.toList = p from by rw [containsAny_letters, ByteArray.data_append, Array.toList_append]; exact hp] at this
      exact this
    rw [hp] at HKV
    clear cc hp
    go_wp2_with fail
    refine (CC.out _).mono ?_
    rintro e w3 ⟨rfl, hb3⟩
    have HB4 := hidv (HB3.out.trans (hb3.mono HB3.out.size))
    clear hb3
    cases p
    · go_wp2_with fail
      go_ret2
      exact ⟨by rw [show kv = 0 from HKV.out]; rfl, HB4.out⟩
    · go_wp2_with fail
      go_ret2
      exact ⟨by rw [show kv = 3 from HKV.out]; rfl, HB4.out⟩

end Go.Proofs.Ytolhelogcekfbab
