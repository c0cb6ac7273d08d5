/-
  Sets of words: what a set is; ValidSet, of the program and of the model: contracts.
-/
import Derived.Test.YtpjidcfdcpjafaaWdO
import Derived.Test.YtpjidcfdcpjafaaIff
namespace Go.Proofs.Ytpjidcfdcpjafaa
open Go.RowKit Go
set_option linter.unusedVariables false

theorem toList_empty {x : ByteArray} (h : x.size = 0) : x.toList = [] := by
  have : x.toList.length = 0 := by rw [ByteArray.toList_eq]; simpa using h
  exact List.eq_nil_of_length_eq_zero this
theorem toList_nonempty {x : ByteArray} (h : 0 < x.size) : x.toList.isEmpty = false := by
  rw [Bool.eq_false_iff]
  intro hh
  have e := congrArg List.length (List.isEmpty_iff.mp hh)
  have e2 : x.data.toList.length = x.size := by simp
  rw [ByteArray.toList_eq, e2, List.length_nil] at e
  omega

/-- A list of words is a set. -/
def SetOk (xs : List ByteArray) : Prop := 1 ≤ xs.length ∧ xs.length ≤ 8 ∧ (∀ i (h : i < xs.length), Wd.wordB xs[i].data.toList = true ∧ 1 ≤ xs[i].size ∧ xs[i].size ≤ 12) ∧ ∀ i (h : i + 1 < xs.length), soonB xs[i] xs[i + 1] = true

theorem wordsB_iff (xs : List ByteArray) : wordsB xs = true ↔ (∀ i (h : i < xs.length), Wd.wordB xs[i].data.toList = true) ∧ ∀ i (h : i + 1 < xs.length), soonB xs[i] xs[i + 1] = true := by
  constructor
  · intro h
    unfold wordsB at h
    refine ⟨fun i hi => ?_, fun i hi => ?_⟩
    · have := Wd.allN_true h i hi
      unfold okW at this
      rw [Bool.and_eq_true, str_at hi] at this
      exact this.1
    · have := Wd.allN_true h (i + 1) hi
      unfold okW at this
      rw [Bool.and_eq_true, str_at hi, decide_eq_false (by omega), Bool.false_or, Nat.add_sub_cancel, str_at (show i < xs.length by omega)] at this
      exact this.2
  · rintro ⟨h1, h2⟩
    unfold wordsB
    suffices ∀ n, n ≤ xs.length → Wd.allN n (okW xs) = true from this _ (Nat.le_refl _)
    intro n
    induction n with
    | zero => intro _; rfl
    | succ n ih =>
      intro hn
      rw [Wd.allN_succ, ih (by omega), Bool.true_and]
      unfold okW
      rw [str_at (show n < xs.length by omega), h1 n (by omega), Bool.true_and]
      rcases Nat.eq_zero_or_pos n with rfl | hp
      · rfl
      · obtain ⟨m, rfl⟩ : ∃ m, n = m + 1 := ⟨n - 1, by omega⟩
        rw [decide_eq_false (by omega), Bool.false_or, Nat.add_sub_cancel, str_at (show m < xs.length by omega)]
        exact h2 m (by omega)
theorem soonB_le {x y : ByteArray} (h : soonB x y = true) : x.size ≤ y.size := by
  unfold soonB at h
  split at h
  · omega
  · have := of_decide_eq_true h; omega
theorem soon_mono {xs : List ByteArray} (h : ∀ i (h : i + 1 < xs.length), soonB xs[i] xs[i + 1] = true) (i : Nat) : ∀ d (hj : i + d < xs.length), xs[i].size ≤ xs[i + d].size
  | 0, hj => Nat.le_refl _
  | d + 1, hj => Nat.le_trans (soon_mono h i d (by omega)) (soonB_le (h (i + d) (by omega)))
theorem setOk_iff (xs : List ByteArray) (h1 : 1 ≤ xs.length) (h8 : xs.length ≤ 8) : SetOk xs ↔ wordsB xs = true ∧ 1 ≤ xs[0].size ∧ xs[xs.length - 1].size ≤ 12 := by
  rw [wordsB_iff]
  constructor
  · rintro ⟨_, _, ha, hb⟩
    exact ⟨⟨fun i hi => (ha i hi).1, hb⟩, (ha 0 (by omega)).2.1, (ha (xs.length - 1) (by omega)).2.2⟩
  · rintro ⟨⟨ha, hb⟩, hc, hd⟩
    refine ⟨h1, h8, fun i hi => ⟨ha i hi, ?_, ?_⟩, hb⟩
    · have := soon_mono hb 0 i (by omega)
      simp only [Nat.zero_add] at this
      omega
    · have := soon_mono hb i (xs.length - 1 - i) (by omega)
      have e : i + (xs.length - 1 - i) = xs.length - 1 := by omega
      simp only [e] at this
      omega

set_option maxRecDepth 100000 in
set_option maxHeartbeats 800000 in
theorem implSet_any (v : Value) (xs : List ByteArray) (B : Nat) (w : World) (hv : Row w B v (xs.map Value.string)) (hB : B ≤ w.heap.size) (hx : xs.length ≤ 1048576) (hs : ∀ s ∈ xs, s.size ≤ maxLen) (d : Bool) (hd : d = true ↔ SetOk xs) :
    Calls Try.prog 48 #[v] w fun e w' => e = .returned (.bool d) ∧ Below w.heap.size w w' := by
  have C := hidv (fun W => inOrder_any v xs W.heap.size W)
  obtain ⟨A, c, rfl, hA⟩ := strRow_at hv
  obtain ⟨n, hn⟩ : ∃ n, xs.length = n := ⟨_, rfl⟩
  have HD := hidv hd
  have HV := hidv hv
  have HA := hidv hA
  have HS := hidv hs
  clear hd hv hA hs
  by_cases h0 : xs.length < 1
  · obtain rfl : d = false := iff_no HD.out (fun h => by have := h.1; omega)
    rw [hn] at h0 ⊢
    have HN := hidv hn
    clear hn C
    go_enter Try.func48, Try.ntmps48
    go_wp2_with fail
    go_ret
    exact ⟨rfl, Below.refl _ _⟩
  by_cases h8 : 8 < xs.length
  · obtain rfl : d = false := iff_no HD.out (fun h => by have := h.2.1; omega)
    rw [hn] at h0 h8 hx ⊢
    have HN := hidv hn
    clear hn C
    go_enter Try.func48, Try.ntmps48
    go_wp2_with fail
    go_ret
    exact ⟨rfl, Below.refl _ _⟩
  have hiff := setOk_iff xs (by omega) (by omega)
  rw [hiff] at HD
  obtain ⟨g, o, rfl, hg, hc⟩ := HA.out (by omega)
  have c0 := hc 0 (by omega)
  have c1 := hc (xs.length - 1) (by omega)
  have s0 := HS.out xs[0] (List.getElem_mem _)
  have s1 := HS.out xs[xs.length - 1] (List.getElem_mem _)
  have CO := hidv (C.out w (HV.out.more hB) (Nat.le_refl _) hx HS.out)
  obtain ⟨q, hq⟩ : ∃ q, wordsB xs = q := ⟨_, rfl⟩
  obtain ⟨x, hx0⟩ : ∃ x, xs[0] = x := ⟨_, rfl⟩
  obtain ⟨y, hy0⟩ : ∃ y, xs[xs.length - 1] = y := ⟨_, rfl⟩
  rw [hq] at HD CO
  rw [hx0] at HD c0 s0
  rw [hy0] at HD c1 s1
  rw [Nat.add_zero] at c0
  rw [hn] at c1 h0 h8 hx CO ⊢
  clear hiff hx0 hy0 hq hc C hn HA
  unfold maxLen at s0 s1
  have c2 : w.cell? ⟨g, o + (n - 1), none⟩ = some (.string y) := c1
  cases q
  · obtain rfl : d = false := iff_no HD.out (fun h => by cases h.1)
    clear c1 c0 c2
    go_enter Try.func48, Try.ntmps48
    go_wp2_with fail
    refine CO.out.mono ?_
    rintro e w2 ⟨rfl, hb2⟩
    have HB2 := hidv hb2
    clear hb2
    go_wp2_with fail
    go_ret
    exact ⟨rfl, HB2.out⟩
  · have HK := hidv (fun w' (hw : Below w.heap.size w w') => (show w'.cell? ⟨g, o, none⟩ = some (.string x) ∧ w'.cell? ⟨g, o + (n - 1), none⟩ = some (.string y) from ⟨(hw.cell (p := ⟨g, _, none⟩) (by show g < _; omega)).trans c0, (hw.cell (p := ⟨g, _, none⟩) (by show g < _; omega)).trans c2⟩))
    clear c1 c0 c2
    by_cases hx1 : x.size = 0
    · obtain rfl : d = false := iff_no HD.out (fun h => by have := h.2.1; omega)
      have hxn : (!x.toList.isEmpty) = false := by rw [toList_empty hx1]; rfl
      go_enter Try.func48, Try.ntmps48
      go_wp2_with fail
      refine CO.out.mono ?_
      rintro e w2 ⟨rfl, hb2⟩
      obtain ⟨d0, d1⟩ := HK.out _ hb2
      have HB2 := hidv hb2
      clear hb2
      go_wp2_with fail
      go_ret
      exact ⟨by first | (simp; done) | (simp; omega), HB2.out⟩
    · have hxn : (!x.toList.isEmpty) = true := by rw [toList_nonempty (by omega)]; rfl
      by_cases hy1 : y.size ≤ 12
      · obtain rfl : d = true := iff_yes HD.out ⟨rfl, by omega, hy1⟩
        go_enter Try.func48, Try.ntmps48
        go_wp2_with fail
        refine CO.out.mono ?_
        rintro e w2 ⟨rfl, hb2⟩
        obtain ⟨d0, d1⟩ := HK.out _ hb2
        have HB2 := hidv hb2
        clear hb2
        go_wp2_with fail
        go_ret
        exact ⟨by first | (simp; done) | (simp; omega), HB2.out⟩
      · obtain rfl : d = false := iff_no HD.out (fun h => hy1 h.2.2)
        go_enter Try.func48, Try.ntmps48
        go_wp2_with fail
        refine CO.out.mono ?_
        rintro e w2 ⟨rfl, hb2⟩
        obtain ⟨d0, d1⟩ := HK.out _ hb2
        have HB2 := hidv hb2
        clear hb2
        go_wp2_with fail
        go_ret
        exact ⟨by first | (simp; done) | (simp; omega), HB2.out⟩

/-- What the model has found behind k words. -/
def UpTo (xs : List ByteArray) (k : Nat) : Prop := (∀ i (h : i < xs.length), i < k → Wd.wordB xs[i].data.toList = true ∧ 1 ≤ xs[i].size ∧ xs[i].size ≤ 12) ∧ ∀ i (h : i + 1 < xs.length), i + 1 < k → soonB xs[i] xs[i + 1] = true
theorem UpTo.zero (xs : List ByteArray) : UpTo xs 0 := ⟨fun i h hk => by omega, fun i h hk => by omega⟩
theorem UpTo.one {xs : List ByteArray} (h0 : 0 < xs.length) (h1 : Wd.wordB xs[0].data.toList = true) (h2 : 1 ≤ xs[0].size ∧ xs[0].size ≤ 12) : UpTo xs 1 :=
  ⟨fun i h hk => by obtain rfl : i = 0 := by omega
                    exact ⟨h1, h2⟩, fun i h hk => by omega⟩
theorem UpTo.next {xs : List ByteArray} {j : Nat} (h : UpTo xs (j + 1)) (hj : j + 1 < xs.length) (h1 : Wd.wordB xs[j + 1].data.toList = true) (h2 : 1 ≤ xs[j + 1].size ∧ xs[j + 1].size ≤ 12) (h3 : soonB xs[j] xs[j + 1] = true) : UpTo xs (j + 1 + 1) := by
  refine ⟨fun i hi hk => ?_, fun i hi hk => ?_⟩
  · rcases Nat.lt_or_ge i (j + 1) with h4 | h4
    · exact h.1 i hi h4
    · obtain rfl : i = j + 1 := by omega
      exact ⟨h1, h2⟩
  · rcases Nat.lt_or_ge i j with h4 | h4
    · exact h.2 i hi (by omega)
    · obtain rfl : i = j := by omega
      exact h3

set_option maxRecDepth 100000 in
set_option maxHeartbeats 1600000 in
theorem l07Ok_any (v : Value) (xs : List ByteArray) (B : Nat) (w : World) (hv : Row w B v (xs.map Value.string)) (hB : B ≤ w.heap.size) (hx : xs.length ≤ 1048576) (hs : ∀ s ∈ xs, s.size ≤ maxLen) (d : Bool) (hd : d = true ↔ SetOk xs) :
    Calls Try.prog 53 #[v] w fun e w' => e = .returned (.bool d) ∧ ∃ m, w' = w.drewN m := by
  obtain ⟨A, c, rfl, hA⟩ := strRow_at hv
  obtain ⟨n, hn⟩ : ∃ n, xs.length = n := ⟨_, rfl⟩
  have HD := hidv hd
  have HA := hidv hA
  have HS := hidv hs
  rw [hn] at hx ⊢
  have HN := hidv hn
  clear hd hv hA hs hn
  go_enter Try.func53, Try.ntmps53
  go_wp2
  go_loopw [3] (fun i wr => ∃ k : Nat, k ≤ n ∧ i = .int .i64 k ∧ Hid (UpTo xs k) ∧ ∃ z, Hid (wr = w.drewN z)) (fun i _ => n - (intOf i).toNat)
  case atStart => exact ⟨0, Nat.zero_le _, rfl, hidv (UpTo.zero xs), 0, hidv rfl⟩
  case round =>
    obtain ⟨k, hk, rfl, hall, z, HWR⟩ := hrel
    by_cases hlt : k < n
    · have hkx : k < xs.length := by have := HN.out; omega
      obtain ⟨g, o, rfl, hg, hce⟩ := HA.out (by have := HN.out; omega)
      have c1 : wr.cell? ⟨g, o + k, none⟩ = some (.string xs[k]) := ((below_q HWR.out).cell (p := ⟨g, _, none⟩) (by show g < _; omega)).trans (hce k hkx)
      have hsz := HS.out xs[k] (List.getElem_mem _)
      have hC1 := fun W => specWord_any xs[k] W hsz
      have hle := @Wd.wordB_len xs[k].data.toList
      have j1 : (0 : Int) ≤ (k : Int) := by omega
      have j2 : (k : Int) < (n : Int) := by omega
      obtain ⟨x, hx1⟩ : ∃ x, xs[k] = x := ⟨_, rfl⟩
      have HX1 := hidv hx1
      rw [hx1] at c1 hC1 hsz hle
      obtain ⟨q, hq⟩ : ∃ q, Wd.wordB x.data.toList = q := ⟨_, rfl⟩
      have HQ := hidv hq
      rw [hq] at hC1 hle
      have C1 := hidv hC1
      have HLE := hidv hle
      unfold maxLen at hsz
      clear hx1 hq hC1 hle
      cases q
      · obtain rfl : d = false := iff_no HD.out (fun h => by have h1 := (h.2.2.1 k hkx).1; rw [HX1.out, HQ.out] at h1; cases h1)
        clear hce
        go_wp2_with fail
        go_quiet (first | (go_at_call 76; exact Calls.quiet_of_same ((C1.out _).mono fun _ _ h => ⟨h.1, h.2.symm⟩)))
        go_wp2_with fail
        go_ret
        exact ⟨rfl, _, drewN_q HWR.out⟩
      · by_cases hin : 1 ≤ x.size ∧ x.size ≤ 12
        · have C2 := hidv (fun W => l00In_any (x.size : Int) 1 12 W true (by simp; omega))
          rcases Nat.eq_zero_or_pos k with h0 | h0
          · subst h0
            rw [Nat.add_zero] at c1
            have HU := hidv (UpTo.one hkx (by rw [HX1.out]; exact HQ.out) (by rw [HX1.out]; exact hin))
            clear hce
            go_wp2_with fail
            go_quiet (first | (go_at_call 76; exact Calls.quiet_of_same ((C1.out _).mono fun _ _ h => ⟨h.1, h.2.symm⟩)) | (go_at_call 54; exact Calls.quiet_of_same ((C2.out _).mono fun _ _ h => ⟨h.1, h.2.symm⟩)))
            go_wp2_with fail
            go_roundw
            case rel => exact ⟨1, by omega, by go_num, HU, _, hidv (drewN_q HWR.out)⟩
            case measure => simp [intOf]; omega
          · obtain ⟨j, rfl⟩ : ∃ j, k = j + 1 := ⟨k - 1, by omega⟩
            have hjx : j < xs.length := by omega
            have c2 : wr.cell? ⟨g, o + j, none⟩ = some (.string xs[j]) := ((below_q HWR.out).cell (p := ⟨g, _, none⟩) (by show g < _; omega)).trans (hce j hjx)
            have hsy := HS.out xs[j] (List.getElem_mem _)
            obtain ⟨y, hy1⟩ : ∃ y, xs[j] = y := ⟨_, rfl⟩
            rw [hy1] at c2 hsy
            have HY1 := hidv hy1
            have hC3 := fun W => sooner_any y x W
            obtain ⟨p, hp⟩ : ∃ p, soonB y x = p := ⟨_, rfl⟩
            rw [hp] at hC3
            have HP := hidv hp
            have C3 := hidv hC3
            unfold maxLen at hsy
            clear hy1 hC3 hp hce
            have i1 : (0 : Int) ≤ (j : Int) := by omega
            cases p
            · obtain rfl : d = false := iff_no HD.out (fun h => by have h1 := h.2.2.2 j hkx; rw [HX1.out, HY1.out, HP.out] at h1; cases h1)
              go_wp2_with fail
              go_quiet (first | (go_at_call 76; exact Calls.quiet_of_same ((C1.out _).mono fun _ _ h => ⟨h.1, h.2.symm⟩)) | (go_at_call 54; exact Calls.quiet_of_same ((C2.out _).mono fun _ _ h => ⟨h.1, h.2.symm⟩)) | (go_at_call 89; exact Calls.quiet_of_same ((C3.out _).mono fun _ _ h => ⟨h.1, h.2.symm⟩)))
              go_wp2_with fail
              go_ret
              exact ⟨rfl, _, drewN_q HWR.out⟩
            · have HU := hidv (UpTo.next hall.out hkx (by rw [HX1.out]; exact HQ.out) (by rw [HX1.out]; exact hin) (by rw [HX1.out, HY1.out]; exact HP.out))
              go_wp2_with fail
              go_quiet (first | (go_at_call 76; exact Calls.quiet_of_same ((C1.out _).mono fun _ _ h => ⟨h.1, h.2.symm⟩)) | (go_at_call 54; exact Calls.quiet_of_same ((C2.out _).mono fun _ _ h => ⟨h.1, h.2.symm⟩)) | (go_at_call 89; exact Calls.quiet_of_same ((C3.out _).mono fun _ _ h => ⟨h.1, h.2.symm⟩)))
              go_wp2_with fail
              go_roundw
              case rel => exact ⟨j + 1 + 1, by omega, by go_num, HU, _, hidv (drewN_q HWR.out)⟩
              case measure => simp [intOf]; omega
        · obtain rfl : d = false := iff_no HD.out (fun h => by have h1 := (h.2.2.1 k hkx).2; rw [HX1.out] at h1; exact hin h1)
          have C2 := hidv (fun W => l00In_any (x.size : Int) 1 12 W false (by simp; omega))
          clear hce
          go_wp2_with fail
          go_quiet (first | (go_at_call 76; exact Calls.quiet_of_same ((C1.out _).mono fun _ _ h => ⟨h.1, h.2.symm⟩)) | (go_at_call 54; exact Calls.quiet_of_same ((C2.out _).mono fun _ _ h => ⟨h.1, h.2.symm⟩)))
          go_wp2_with fail
          go_ret
          exact ⟨rfl, _, drewN_q HWR.out⟩
    · obtain rfl : k = n := by omega
      have C2 := hidv (fun W => l00In_any (k : Int) 1 8 W d (by
        have hu := hall.out
        have hn := HN.out
        by_cases h18 : 1 ≤ k ∧ k ≤ 8
        · rw [iff_yes HD.out ⟨by omega, by omega, fun i hi => hu.1 i hi (by omega), fun i hi => hu.2 i hi (by omega)⟩]; simp; omega
        · rw [iff_no HD.out (fun h => h18 ⟨by have := h.1; omega, by have := h.2.1; omega⟩)]; simp; omega))
      go_wp2_with fail
      refine (C2.out _).mono ?_
      rintro e w' ⟨rfl, rfl⟩
      go_wp2_with fail
      go_ret
      exact ⟨rfl, _, HWR.out⟩

end Go.Proofs.Ytpjidcfdcpjafaa
