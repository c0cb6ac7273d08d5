/-
  ShiftsOf, of the program and of the model, returns what the plain words say: contracts, and the law over them.
-/
import Derived.Test.YtebhifhcknbgaaaMem
import Derived.Deep.RegionHeld3
import Derived.Lib.Strings
namespace Go.Proofs.Ytebhifhcknbgaaa
open Go.RowKit Go

/-- Shifted by k places u is t. -/
def shB (u t : ByteArray) (k : Nat) : Bool := (u.extract k u.size ++ u.extract 0 k).toList == t.toList
def shiftsTo (u t : ByteArray) (n : Nat) : List Int := ((List.range n).filter (shB u t)).map Int.ofNat
theorem shiftsTo_succ (u t : ByteArray) (n : Nat) : shiftsTo u t (n + 1) = shiftsTo u t n ++ (if shB u t n then [(n : Int)] else []) := by
  unfold shiftsTo
  rw [List.range_succ, List.filter_append, List.map_append]
  cases h : shB u t n <;> simp [h]
theorem shiftsTo_len (u t : ByteArray) (n : Nat) : (shiftsTo u t n).length ≤ n := by
  unfold shiftsTo
  rw [List.length_map]
  exact Nat.le_trans (List.length_filter_le _ _) (by simp)

theorem Try.infoI : (Try.prog.info? 2).map (fun i => (i.zero, i.size, i.bytes)) = some (some (.int .i64 0), 1, 8) := by kernel_rfl


theorem app_ints {w : World} {base : Nat} {v : Value} {xs : List Int} {x : Int} (h : w.ownsRow base 2 1 v (xs.length + 1) (xs.map (Value.int .i64) ++ [.int .i64 x])) : Ints w base v (xs ++ [x]) := by
  unfold Ints
  rw [List.length_append, List.map_append]
  exact h

theorem grow_below {w wr w1 : World} {e : TypeId} {n nq : Nat} {v : Value} {xs : List Value} {o : Obj} (hb : Below w.heap.size w wr) (hown : wr.ownsRow w.heap.size e 1 v n xs)
    (hg : ((wr.drewN nq).alloc o).grownBy w1 v.ownBlock) : Below w.heap.size w w1 := by
  have h1 : Below w.heap.size w ((wr.drewN nq).alloc o) := (below_drewN hb nq).alloc hb.size o
  exact h1.grown hg h1.size (fun k hk => (hown.lt k hk).1)

theorem one_new (w : World) (x : Value) (t : TypeId) : ∀ (j : Nat) (u : Value), [x][j]? = some u → (w.alloc (.cells #[x] t)).cell? ((⟨w.heap.size, 0, none⟩ : Addr).add j) = some u := by
  intro j u hu
  cases j with
  | zero =>
    obtain rfl : x = u := by simpa using hu
    show (w.alloc (.cells #[x] t)).cell? ⟨w.heap.size, 0, none⟩ = some x
    rw [cell_of_row _ _ _ _ _ _ (heap_alloc_new w _)]
    rfl
  | succ j => simp at hu
theorem one_cell (n : Int) : ∀ u : Value, u ∈ [Value.int .i64 n] → u.oneCell' = true := by
  intro u hu
  obtain rfl : u = _ := by simpa using hu
  rfl

set_option maxRecDepth 100000 in
set_option maxHeartbeats 400000 in
theorem implShifts_ok (u t : ByteArray) (w : World) (hu : u.size ≤ 60) (ht : t.size ≤ 60) (h1 : Wd.wordB u.data.toList = true) (h2 : Wd.wordB t.data.toList = true) :
    Calls Try.prog 20 #[.string u, .string t] w fun e w' => ∃ v, e = .returned (.tuple #[v, .int .i64 0]) ∧ Ints w' w.heap.size v (shiftsTo u t (max u.size 1)) ∧ Below w.heap.size w w' := by
  have c1 := implValidWord_any u w (by unfold maxLen; omega)
  have c2 := implValidWord_any t w (by unfold maxLen; omega)
  obtain ⟨i0, hi, hz0, hz1, hz2⟩ := info_parts Try.infoI
  rw [h1] at c1
  rw [h2] at c2
  clear h1 h2
  obtain ⟨N, hN⟩ : ∃ N, max u.size 1 = N := ⟨_, rfl⟩
  rw [hN]
  have hN1 : u.size ≤ N := by omega
  have hN2 : N ≤ 60 := by omega
  have hN3 : N ≤ u.size ∨ u.size = 0 ∧ N = 1 := by omega
  have hNi : max (u.size : Int) 1 = (N : Int) := by omega
  clear hN
  go_enter Try.func20, Try.ntmps20
  go_wp2_with fail
  refine c1.mono ?_
  rintro e w' ⟨rfl, rfl⟩
  go_wp2_with fail
  refine c2.mono ?_
  rintro e w' ⟨rfl, rfl⟩
  go_wp2_with fail
  clear hNi
  go_loopw [6, 19] (fun v i wr => ∃ k : Nat, k ≤ N ∧ i = .int .i64 k ∧ Ints wr w.heap.size v (shiftsTo u t k) ∧ Below w.heap.size w wr) (fun _ i _ => N - (intOf i).toNat)
  case atStart => exact ⟨0, Nat.zero_le _, rfl, Ints.nil _ _, Below.refl _ _⟩
  case round =>
    obtain ⟨k, hk, rfl, hown, hb⟩ := hrel
    have hlen := shiftsTo_len u t k
    by_cases hlt : k < N
    · have hku : k ≤ u.size := by omega
      have HS := hidv (shiftsTo_succ u t k)
      have HO : Hid (World.ownsRow wr w.heap.size 2 1 _ _ _) := hown
      clear hown
      go_wp2
      go_quiet (fail)
      have HD : Hid (World.ownsRow (wr.drewN nq) w.heap.size 2 1 _ _ _) := HO
      go_wp2_with (at_builtin; refine wpList_append_own _ rfl (.tmp 31) (.tmp 33) 32 rfl w.heap.size 2 i0 (.int .i64 0) 1 8 Try.underlying32 hi hz0 hz1 hz2 rfl (by decide) _ _ _ rfl (HD.out.alloc _) ⟨wr.heap.size, 0, none⟩ 1 1 [.int .i64 (k : Int)] rfl rfl ?c1 ?c2 ?c3 ?c4 ?c5 ?_; (case c1 => exact one_new (wr.drewN nq) _ _); (case c2 => exact one_cell _); (case c3 => unfold maxLen; omega); (case c4 => omega); (case c5 => exact Nat.le_trans hb.size (by simp)); intro v1 w1 hown1 hgr1 _)
      · have hq : ((u.extract k u.size ++ u.extract 0 k).toList == t.toList) = true := by assumption
        have hsh : shB u t k = true := hq
        go_roundw
        case rel =>
          refine ⟨k + 1, by omega, by go_num, ?_, grow_below hb HO.out hgr1⟩
          rw [HS.out, hsh]
          exact app_ints hown1
        case measure => simp [intOf]; omega
      · have hq : ((u.extract k u.size ++ u.extract 0 k).toList == t.toList) = false := by assumption
        have hsh : shB u t k = false := hq
        go_roundw
        case rel =>
          refine ⟨k + 1, by omega, by go_num, ?_, below_drewN hb _⟩
          rw [HS.out, hsh]
          simp only [Bool.false_eq_true, if_false, List.append_nil]
          exact HD.out
        case measure => simp [intOf]; omega
    · obtain rfl : k = N := by omega
      have HO := hidv hown
      clear hown
      go_wp2
      go_ret2
      exact ⟨_, rfl, HO.out, hb⟩


set_option maxRecDepth 100000 in
set_option maxHeartbeats 400000 in
theorem specShifts_any (u t : ByteArray) (w : World) (hu : u.size ≤ 60) :
    Calls Try.prog 71 #[.string u, .string t] w fun e w' => ∃ v, e = .returned v ∧ Ints w' w.heap.size v (shiftsTo u t (max u.size 1)) ∧ Below w.heap.size w w' := by
  obtain ⟨i0, hi, hz0, hz1, hz2⟩ := info_parts Try.infoI
  obtain ⟨N, hN⟩ : ∃ N, max u.size 1 = N := ⟨_, rfl⟩
  rw [hN]
  have hN1 : u.size ≤ N := by omega
  have hN2 : N ≤ 60 := by omega
  have hN3 : N ≤ u.size ∨ u.size = 0 ∧ N = 1 := by omega
  have hN4 : 1 ≤ N := by omega
  clear hN
  go_enter Try.func71, Try.ntmps71
  go_wp2
  go_loopw [5, 6] (fun v i wr => ∃ k : Nat, k ≤ N ∧ i = .int .i64 k ∧ Ints wr w.heap.size v (shiftsTo u t k) ∧ Below w.heap.size w wr) (fun _ i _ => N - (intOf i).toNat)
  case atStart =>
    refine ⟨0, Nat.zero_le _, rfl, ?_, (Below.refl _ _).alloc (Nat.le_refl _) _⟩
    exact World.ownsRow_lit w #[] 0 (Nat.le_refl _) (Nat.zero_le _) rfl
  case round =>
    obtain ⟨k, hk, rfl, hown, hb⟩ := hrel
    have hlen := shiftsTo_len u t k
    by_cases hlt : k < N
    · have hku : k ≤ u.size := by omega
      have HS := hidv (shiftsTo_succ u t k)
      have HO : Hid (World.ownsRow wr w.heap.size 2 1 _ _ _) := hown
      clear hown
      have hg : ((k : Int) == 0) = true ∨ ((k : Int) == 0) = false ∧ k < u.size := by
        rcases Nat.eq_zero_or_pos k with h | h
        · exact .inl (by rw [beq_iff_eq]; omega)
        · exact .inr ⟨by rw [beq_eq_false_iff_ne]; omega, by omega⟩
      rcases hg with hg | ⟨hg, hg2⟩
      all_goals
        go_wp2
        go_quiet (fail)
        have HD : Hid (World.ownsRow (wr.drewN nq) w.heap.size 2 1 _ _ _) := HO
        go_wp2_with (at_builtin; refine wpList_append_own _ rfl (.tmp 27) (.tmp 29) 32 rfl w.heap.size 2 i0 (.int .i64 0) 1 8 Try.underlying32 hi hz0 hz1 hz2 rfl (by decide) _ _ _ rfl (HD.out.alloc _) ⟨wr.heap.size, 0, none⟩ 1 1 [.int .i64 (k : Int)] rfl rfl (one_new (wr.drewN nq) _ _) (one_cell _) ?_ ?_ ?_ ?_; (unfold maxLen; omega); omega; exact Nat.le_trans hb.size (by simp); intro v1 w1 hown1 hgr1 _)
        · have hq : ((u.extract k u.size ++ u.extract 0 k).toList == t.toList) = true := by assumption
          have hsh : shB u t k = true := hq
          go_roundw
          case rel =>
            refine ⟨k + 1, by omega, by go_num, ?_, grow_below hb HO.out hgr1⟩
            rw [HS.out, hsh]
            exact app_ints hown1
          case measure => simp [intOf]; omega
        · have hq : ((u.extract k u.size ++ u.extract 0 k).toList == t.toList) = false := by assumption
          have hsh : shB u t k = false := hq
          go_roundw
          case rel =>
            refine ⟨k + 1, by omega, by go_num, ?_, below_drewN hb _⟩
            rw [HS.out, hsh]
            simp only [Bool.false_eq_true, if_false, List.append_nil]
            exact HD.out
          case measure => simp [intOf]; omega
    · obtain rfl : k = N := by omega
      have HO := hidv hown
      clear hown
      have hg : ((k : Int) == 0) = false := by rw [beq_eq_false_iff_ne]; omega
      have hg2 : u.size ≤ k := by omega
      go_wp2
      go_ret
      exact ⟨_, rfl, HO.out, hb⟩


theorem implShifts_bad (u t : ByteArray) (w : World) (hu : u.size ≤ maxLen) (ht : t.size ≤ maxLen) (h : (Wd.wordB u.data.toList && Wd.wordB t.data.toList) = false) :
    Calls Try.prog 20 #[.string u, .string t] w fun e w' => ∃ v, e = .returned (.tuple #[v, .int .i64 1]) ∧ Ints w' w.heap.size v [] ∧ Below w.heap.size w w' := by
  have c1 := implValidWord_any u w hu
  have c2 := implValidWord_any t w ht
  cases h1 : Wd.wordB u.data.toList
  · rw [h1] at c1
    clear h1 h
    go_enter Try.func20, Try.ntmps20
    go_wp2_with fail
    refine c1.mono ?_
    rintro e w' ⟨rfl, rfl⟩
    go_wp2_with fail
    go_ret2
    exact ⟨_, rfl, Ints.nil _ _, Below.refl _ _⟩
  · rw [h1] at c1
    rw [show Wd.wordB t.data.toList = false by simpa [h1] using h] at c2
    clear h1 h
    go_enter Try.func20, Try.ntmps20
    go_wp2_with fail
    refine c1.mono ?_
    rintro e w' ⟨rfl, rfl⟩
    go_wp2_with fail
    refine c2.mono ?_
    rintro e w' ⟨rfl, rfl⟩
    go_wp2_with fail
    go_ret2
    exact ⟨_, rfl, Ints.nil _ _, Below.refl _ _⟩

theorem specShiftsOf_bad (u t : ByteArray) (w : World) (hu : u.size ≤ maxLen) (ht : t.size ≤ maxLen) (h : (Wd.wordB u.data.toList && Wd.wordB t.data.toList) = false) :
    Calls Try.prog 40 #[.string u, .string t] w fun e w' => ∃ v, e = .returned (.tuple #[v, .int .i64 1]) ∧ Ints w' w.heap.size v [] ∧ Below w.heap.size w w' := by
  have c1 := specWord_any u w hu
  have c2 := specWord_any t w ht
  cases h1 : Wd.wordB u.data.toList
  · rw [h1] at c1
    clear h1 h
    go_enter Try.func40, Try.ntmps40
    go_wp2_with fail
    refine c1.mono ?_
    rintro e w' ⟨rfl, rfl⟩
    go_wp2_with fail
    go_ret2
    exact ⟨_, rfl, World.ownsRow_lit w #[] 0 (Nat.le_refl _) (Nat.zero_le _) rfl, (Below.refl _ _).alloc (Nat.le_refl _) _⟩
  · rw [h1] at c1
    rw [show Wd.wordB t.data.toList = false by simpa [h1] using h] at c2
    clear h1 h
    go_enter Try.func40, Try.ntmps40
    go_wp2_with fail
    refine c1.mono ?_
    rintro e w' ⟨rfl, rfl⟩
    go_wp2_with fail
    refine c2.mono ?_
    rintro e w' ⟨rfl, rfl⟩
    go_wp2_with fail
    go_ret2
    exact ⟨_, rfl, World.ownsRow_lit w #[] 0 (Nat.le_refl _) (Nat.zero_le _) rfl, (Below.refl _ _).alloc (Nat.le_refl _) _⟩

theorem specShiftsOf_ok (u t : ByteArray) (w : World) (hu : u.size ≤ 60) (ht : t.size ≤ 60) (h1 : Wd.wordB u.data.toList = true) (h2 : Wd.wordB t.data.toList = true) :
    Calls Try.prog 40 #[.string u, .string t] w fun e w' => ∃ v, e = .returned (.tuple #[v, .int .i64 0]) ∧ Ints w' w.heap.size v (shiftsTo u t (max u.size 1)) ∧ Below w.heap.size w w' := by
  have c1 := specWord_any u w (by unfold maxLen; omega)
  have c2 := specWord_any t w (by unfold maxLen; omega)
  have c3 := specShifts_any u t w hu
  rw [h1] at c1
  rw [h2] at c2
  clear h1 h2
  obtain ⟨L, hL⟩ : ∃ L, shiftsTo u t (max u.size 1) = L := ⟨_, rfl⟩
  rw [hL] at c3 ⊢
  clear hL
  go_enter Try.func40, Try.ntmps40
  go_wp2_with fail
  refine c1.mono ?_
  rintro e w' ⟨rfl, rfl⟩
  go_wp2_with fail
  refine c2.mono ?_
  rintro e w' ⟨rfl, rfl⟩
  go_wp2_with fail
  refine c3.mono ?_
  rintro e w1 ⟨v, rfl, hown, hb⟩
  go_wp2_with fail
  go_ret2
  exact ⟨v, rfl, hown, hb⟩

/-- What both functions hand back, said once. -/
theorem shifts_both (u t : ByteArray) (hu : u.size ≤ maxLen) (ht : t.size ≤ maxLen) : ∃ (L : List Int) (c : Int), L.length ≤ 100 ∧
    (∀ w, Calls Try.prog 20 #[.string u, .string t] w fun e w' => ∃ v, e = .returned (.tuple #[v, .int .i64 c]) ∧ Ints w' w.heap.size v L ∧ Below w.heap.size w w') ∧
    ∀ w, Calls Try.prog 40 #[.string u, .string t] w fun e w' => ∃ v, e = .returned (.tuple #[v, .int .i64 c]) ∧ Ints w' w.heap.size v L ∧ Below w.heap.size w w' := by
  cases h : (Wd.wordB u.data.toList && Wd.wordB t.data.toList)
  · exact ⟨[], 1, by simp, fun w => implShifts_bad u t w hu ht h, fun w => specShiftsOf_bad u t w hu ht h⟩
  · rw [Bool.and_eq_true] at h
    have hs0 : u.size ≤ 60 := by have := Wd.wordB_len h.1; simpa using this
    have hs1 : t.size ≤ 60 := by have := Wd.wordB_len h.2; simpa using this
    refine ⟨_, 0, ?_, fun w => implShifts_ok u t w hs0 hs1 h.1 h.2, fun w => specShiftsOf_ok u t w hs0 hs1 h.1 h.2⟩
    exact Nat.le_trans (shiftsTo_len u t _) (by omega)

set_option maxHeartbeats 800000 in
theorem law_FnExactShiftsOf (a0 a1 : ByteArray) (w : World) (w0 : a0.size ≤ maxLen) (w1 : a1.size ≤ maxLen) :
    Calls Try.prog 11 #[.string a0, .string a1] w fun e w' => e = .returned (.bool true) ∧ Below w.heap.size w w' := by
  obtain ⟨L, c, hL, h1, h2⟩ := shifts_both a0 a1 w0 w1
  unfold maxLen at w0 w1
  have H1 := hidv h1
  have H2 := hidv h2
  clear h1 h2
  by_cases hl : (1048576 : Int) < a0.size
  · go_enter Try.func11, Try.ntmps11
    go_wp2
    go_ret
    exact ⟨rfl, Below.refl _ _⟩
  by_cases hl2 : (1048576 : Int) < a1.size
  · go_enter Try.func11, Try.ntmps11
    go_wp2
    go_ret
    exact ⟨rfl, Below.refl _ _⟩
  · go_enter Try.func11, Try.ntmps11
    go_wp2_with fail
    refine (H2.out _).mono ?_
    rintro e wa ⟨va, rfl, hva, hba⟩
    go_wp2_with fail
    refine (H1.out _).mono ?_
    rintro e wb ⟨vb, rfl, hvb, hbb⟩
    go_wp2_with fail
    have sab := hbb.size
    have HBa := hidv hba
    have HBb := hidv hbb
    have HA := hidv hva
    have HB := hidv hvb
    clear hva hvb hba hbb
    refine (eqInts_same HB.out.row (HA.out.row.below HBb.out) (by omega)).mono ?_
    rintro e wc ⟨rfl, hbc⟩
    have sbc := hbc.size
    have HBc := hidv hbc
    clear hbc
    go_wp2_with fail
    refine (markInts_own (HB.out.below HBc.out) (by omega) (by omega)).mono ?_
    rintro e wd ⟨rfl, hvd, hbd⟩
    have scd := hbd.size
    have HBd := hidv hbd
    have HD := hidv hvd
    clear hbd hvd
    go_wp2_with fail
    refine (heldInts_own HD.out.row (by omega)).mono ?_
    rintro e wd' ⟨rfl, rfl⟩
    go_wp2_with fail
    refine (H1.out _).mono ?_
    rintro e we ⟨ve, rfl, hve, hbe⟩
    have sde := hbe.size
    have HBe := hidv hbe
    have HE := hidv hve
    clear hbe hve
    have HRA : Hid (Row we wa.heap.size va (L.map (Value.int .i64))) := ((((HA.out.row.below HBb.out).below (HBc.out.mono (by omega))).below HBd.out).below (HBe.out.mono (by omega)))
    go_wp2_with fail
    refine (eqInts_same HE.out.row HRA.out (by omega)).mono ?_
    rintro e wf ⟨rfl, hbf⟩
    have sef := hbf.size
    have HBf := hidv hbf
    clear hbf
    go_wp2_with fail
    refine (heldInts_own ((HD.out.row.below HBe.out).below (HBf.out.mono (by omega))) (by omega)).mono ?_
    rintro e wf' ⟨rfl, rfl⟩
    go_wp2_with fail
    go_ret
    refine ⟨rfl, ?_⟩
    have b1 := HBa.out
    have b2 := HBb.out.mono b1.size
    have b3 := HBc.out.mono (Nat.le_trans b1.size sab)
    have b4 := HBd.out.mono b1.size
    have b5 := HBe.out.mono (show w.heap.size ≤ wd.heap.size by have := b1.size; omega)
    have b6 := HBf.out.mono (show w.heap.size ≤ we.heap.size by have := b1.size; omega)
    exact ((((b1.trans b2).trans b3).trans b4).trans b5).trans b6

end Go.Proofs.Ytebhifhcknbgaaa
