/-
  UnknownsOf, CountIn and IsLinear, of the program and of the model: contracts, and the laws over them.
-/
import Derived.Test.YtebhifhcknbgaabKind
import Derived.IntWalk
namespace Go.Proofs.Ytebhifhcknbgaab
open Go.RowKit Go

theorem Try.infoI : (Try.prog.info? 2).map (fun i => (i.zero, i.size, i.bytes)) = some (some (.int .i64 0), 1, 8) := by kernel_rfl

theorem unkI_letter {c : UInt8} (h : Wd.isL c = true) : Wd.unkI c = -1 := by
  unfold Wd.isL at h
  simp at h
  unfold Wd.unkI
  rw [if_neg, if_neg, if_neg, if_neg]
  all_goals rintro rfl
  all_goals revert h; decide

theorem countP_le {l : List UInt8} {n : Nat} (h : l.length ≤ n) (j : Nat) : l.countP (fun c => kindN c == j) ≤ n := Nat.le_trans List.countP_le_length h

set_option maxRecDepth 100000 in
set_option maxHeartbeats 800000 in
theorem specCounts_any (s : ByteArray) (w : World) (hs : s.size ≤ 24) (hv : Wd.termB s.data.toList = true) :
    Calls Try.prog 46 #[.string s] w fun e w' => ∃ g, e = .returned (.slice (some ⟨g, 0, none⟩) 8 8) ∧ Ints w' w.heap.size (.slice (some ⟨g, 0, none⟩) 8 8) (cntL s.data.toList) ∧ Below w.heap.size w w' := by
  obtain ⟨i0, hi, hz0, hz1, hz2⟩ := info_parts Try.infoI
  go_enter Try.func46, Try.ntmps46
  go_wp2_with (at_make; refine wpList_make_full _ rfl _ _ 22 rfl w.heap.size 2 i0 (.int .i64 0) 1 Try.underlying22 hi hz0 hz1 _ _ _ _ 8 rfl rfl rfl rfl (by rw [hz2]; omega) (by unfold maxLen; omega) (Nat.le_refl _) ?_; intro w0 hown0 hgr0)
  have hb0 : Below w.heap.size w w0 := below_grown hgr0 (Nat.le_refl _) (fun k hk => by cases hk)
  have hown1 : w0.ownsRow w.heap.size 2 1 (.slice (some ⟨w.heap.size, 0, none⟩) 8 8) 8 ((cntL (s.data.toList.take 0)).map (Value.int .i64)) := by
    have : (madeCells (Value.int IntKind.i64 0).cells (8 * 1)).toList = (cntL (s.data.toList.take 0)).map (Value.int .i64) := by
      rw [List.take_zero, show cntL [] = List.replicate 8 0 from by decide]
      exact toList_madeCells_one (Value.int IntKind.i64 0) 8
    rw [← this]; exact hown0
  have HO0 := hidv hown1
  clear hown0 hgr0 hown1
  go_loopw [4] (fun i wr => ∃ k : Nat, k ≤ s.size ∧ i = .int .i64 k ∧ Hid (wr.ownsRow w.heap.size 2 1 (.slice (some ⟨w.heap.size, 0, none⟩) 8 8) 8 ((cntL (s.data.toList.take k)).map (Value.int .i64))) ∧ Hid (Below w.heap.size w wr)) (fun i _ => s.size - (intOf i).toNat)
  case atStart => exact ⟨0, Nat.zero_le _, rfl, HO0, hidv hb0⟩
  case round =>
    obtain ⟨k, hk, rfl, hown, hb⟩ := hrel
    have hlk : (s.data.toList.take k).length ≤ 24 := Nat.le_trans (List.length_take_le _ _) (by omega)
    by_cases hlt : k < s.size
    · obtain ⟨j, hj⟩ : ∃ j, kindN s[k] = j := ⟨_, rfl⟩
      obtain ⟨q, hq⟩ : ∃ q, (s.data.toList.take k).countP (fun c => kindN c == j) = q := ⟨_, rfl⟩
      have hq24 : q ≤ 24 := by rw [← hq]; exact countP_le hlk j
      have hnext : ∀ hj8 : j < 8, cntL (s.data.toList.take (k + 1)) = (cntL (s.data.toList.take k)).set j ((q : Int) + 1) := by
        intro hj8
        rw [List.take_succ_eq_append_getElem (by simpa using hlt)]
        have h1 := cntL_snoc (s.data.toList.take k) s[k] (by rw [hj]; exact hj8)
        rw [hj, hq] at h1
        exact h1
      have hat : ∀ hj8 : j < 8, wr.cell? ⟨w.heap.size, j, none⟩ = some (.int .i64 (q : Int)) := by
        intro hj8
        rw [hown.out.cellAt j (by omega), List.getElem?_map, cntL_at _ _ hj8, hq]
        rfl
      have hf2 : wr.frozen? ⟨w.heap.size, j, none⟩ = false := hown.out.frozenAt j
      have HN := hidv hnext
      have HQ := hidv hq
      clear hnext hq
      rcases term_at hv k hlt with hl | ⟨hl, hu⟩
      · have hlet := symV_letter hl
        have hj4 : j < 4 := by rw [← hj]; exact hlet.2
        have hun := unkI_letter hl
        have hjb : (s[k].toNat : Int) - 97 = (j : Int) := by
          rw [← hj]
          unfold kindN
          rw [hl]
          unfold Wd.isL at hl
          simp at hl
          simp
          omega
        have hb97 : (97 : Int) ≤ s[k].toNat := by omega
        have c2 := hat (by omega)
        have HJ := hidv hj
        have hjw : IntKind.u8.wrap ((s[k].toNat : Int) - 97) = (j : Int) := by
          rw [hjb]
          exact IntWalk.u8_in _ (by omega)
        clear hj hat hlet hl
        go_wp2_with (go_at_call 75; refine (unknown_any s[k] _).mono ?_; rintro e w' ⟨rfl, rfl⟩)
        go_roundw
        case rel =>
          have hst := hown.out.stored j (.int .i64 ((q : Int) + 1))
          refine ⟨k + 1, by omega, by go_num, hidv ?_, hidv (hb.out.setCell (Nat.le_refl _) _)⟩
          rw [HN.out (by omega), List.map_set]
          exact hst.1
        case measure => simp [intOf]; omega
      · obtain ⟨x, hx4, hxu, _, hjx⟩ := symV_unknown hl hu
        have hj8 : j < 8 := by omega
        have c2 := hat hj8
        have hjI : (4 : Int) + (x : Int) = (j : Int) := by omega
        have HJ := hidv hj
        clear hj hat hl hu hjx
        go_wp2_with (go_at_call 75; refine (unknown_any s[k] _).mono ?_; rintro e w' ⟨rfl, rfl⟩)
        go_roundw
        case rel =>
          have hst := hown.out.stored j (.int .i64 ((q : Int) + 1))
          refine ⟨k + 1, by omega, by go_num, hidv ?_, hidv (hb.out.setCell (Nat.le_refl _) _)⟩
          rw [HN.out (by omega), List.map_set]
          exact hst.1
        case measure => simp [intOf]; omega
    · obtain rfl : k = s.size := by omega
      go_wp2
      go_ret
      refine ⟨_, rfl, ?_, hb.out⟩
      have h := hown.out
      rw [List.take_of_length_le (by simp)] at h
      unfold Ints
      rw [cntL_length]
      exact h


set_option maxHeartbeats 400000 in
theorem implCountIn_ok (s : ByteArray) (w : World) (hs : s.size ≤ 24) (hv : Wd.termB s.data.toList = true) :
    Calls Try.prog 19 #[.string s] w fun e w' => ∃ v, e = .returned (.tuple #[v, .int .i64 0]) ∧ IntsT 53 w' w.heap.size v (cntL s.data.toList) ∧ Below w.heap.size w w' := by
  have c1 := implValidTerm_any s w (by unfold maxLen; omega)
  rw [hv] at c1
  have c2 := kindCounts_any s w hs hv
  obtain ⟨x0, x1, x2, x3, x4, x5, x6, x7, hx⟩ : ∃ x0 x1 x2 x3 x4 x5 x6 x7, cntL s.data.toList = [x0, x1, x2, x3, x4, x5, x6, x7] := ⟨_, _, _, _, _, _, _, _, rfl⟩
  rw [hx] at c2 ⊢
  clear hx hv
  go_enter Try.func19, Try.ntmps19
  go_wp2_with fail
  refine c1.mono ?_
  rintro e w' ⟨rfl, rfl⟩
  go_wp2_with fail
  refine c2.mono ?_
  rintro e w1 ⟨rfl, hb⟩
  simp only [List.map_cons, List.map_nil]
  go_wp2_with fail
  go_ret2
  exact ⟨_, rfl, World.ownsRow_lit w1 #[.int .i64 x0, .int .i64 x1, .int .i64 x2, .int .i64 x3, .int .i64 x4, .int .i64 x5, .int .i64 x6, .int .i64 x7] 8 hb.size (by unfold maxLen; omega) rfl, hb.alloc hb.size _⟩


theorem implCountIn_bad (s : ByteArray) (w : World) (hs : s.size ≤ maxLen) (h : Wd.termB s.data.toList = false) :
    Calls Try.prog 19 #[.string s] w fun e w' => ∃ v, e = .returned (.tuple #[v, .int .i64 1]) ∧ IntsT 53 w' w.heap.size v [] ∧ Below w.heap.size w w' := by
  have c1 := implValidTerm_any s w hs
  rw [h] at c1
  clear h
  go_enter Try.func19, Try.ntmps19
  go_wp2_with fail
  refine c1.mono ?_
  rintro e w' ⟨rfl, rfl⟩
  go_wp2_with fail
  go_ret2
  exact ⟨_, rfl, World.ownsRow_nil _ _ _ _, Below.refl _ _⟩

theorem specCountIn_bad (s : ByteArray) (w : World) (hs : s.size ≤ maxLen) (h : Wd.termB s.data.toList = false) :
    Calls Try.prog 18 #[.string s] w fun e w' => ∃ v, e = .returned (.tuple #[v, .int .i64 1]) ∧ IntsT 2 w' w.heap.size v [] ∧ Below w.heap.size w w' := by
  have c1 := specTerm_any s w hs
  rw [h] at c1
  clear h
  go_enter Try.func18, Try.ntmps18
  go_wp2_with fail
  refine c1.mono ?_
  rintro e w' ⟨rfl, rfl⟩
  go_wp2_with fail
  go_ret2
  exact ⟨_, rfl, World.ownsRow_lit w #[] 0 (Nat.le_refl _) (Nat.zero_le _) rfl, (Below.refl _ _).alloc (Nat.le_refl _) _⟩

theorem specCountIn_ok (s : ByteArray) (w : World) (hs : s.size ≤ 24) (hv : Wd.termB s.data.toList = true) :
    Calls Try.prog 18 #[.string s] w fun e w' => ∃ v, e = .returned (.tuple #[v, .int .i64 0]) ∧ IntsT 2 w' w.heap.size v (cntL s.data.toList) ∧ Below w.heap.size w w' := by
  have c1 := specTerm_any s w (by unfold maxLen; omega)
  rw [hv] at c1
  have c2 := specCounts_any s w hs hv
  obtain ⟨L, hL⟩ : ∃ L, cntL s.data.toList = L := ⟨_, rfl⟩
  rw [hL] at c2 ⊢
  clear hL hv
  go_enter Try.func18, Try.ntmps18
  go_wp2_with fail
  refine c1.mono ?_
  rintro e w' ⟨rfl, rfl⟩
  go_wp2_with fail
  refine c2.mono ?_
  rintro e w1 ⟨g, rfl, hown, hb⟩
  go_wp2_with fail
  go_ret2
  exact ⟨_, rfl, hown, hb⟩

theorem countIn_both (s : ByteArray) (hs : s.size ≤ maxLen) : ∃ (L : List Int) (c : Int), L.length ≤ 100 ∧
    (∀ w, Calls Try.prog 19 #[.string s] w fun e w' => ∃ v, e = .returned (.tuple #[v, .int .i64 c]) ∧ IntsT 53 w' w.heap.size v L ∧ Below w.heap.size w w') ∧
    ∀ w, Calls Try.prog 18 #[.string s] w fun e w' => ∃ v, e = .returned (.tuple #[v, .int .i64 c]) ∧ IntsT 2 w' w.heap.size v L ∧ Below w.heap.size w w' := by
  cases h : Wd.termB s.data.toList
  · exact ⟨[], 1, by simp, fun w => implCountIn_bad s w hs h, fun w => specCountIn_bad s w hs h⟩
  · have hs0 : s.size ≤ 24 := by have := Wd.termB_len h; simpa using this
    exact ⟨_, 0, by rw [cntL_length]; omega, fun w => implCountIn_ok s w hs0 h, fun w => specCountIn_ok s w hs0 h⟩

set_option maxHeartbeats 800000 in
theorem law_FnExactCountIn (a0 : ByteArray) (w : World) (w0 : a0.size ≤ maxLen) :
    Calls Try.prog 4 #[.string a0] w fun e w' => e = .returned (.bool true) ∧ Below w.heap.size w w' := by
  obtain ⟨L, c, hL, h1, h2⟩ := countIn_both a0 w0
  have H1 := hidv h1
  have H2 := hidv h2
  clear h1 h2
  unfold maxLen at w0
  by_cases hl0 : (1048576 : Int) < a0.size
  · go_enter Try.func4, Try.ntmps4
    go_wp2
    go_ret
    exact ⟨rfl, Below.refl _ _⟩
  · go_enter Try.func4, Try.ntmps4
    go_wp2_with fail
    refine (H2.out _).mono ?_
    rintro e wa ⟨va, rfl, hva, hba⟩
    go_wp2_with fail
    refine (H1.out _).mono ?_
    rintro e wb ⟨vb, rfl, hvb, hbb⟩
    go_wp2_with fail
    have sab := hbb.size
    have HBa := hidv hba
    have HBb := hidv hbb
    have HA := hidv hva
    have HB := hidv hvb
    clear hva hvb hba hbb
    refine (eqInts_same HB.out.row (HA.out.row.below HBb.out) (by omega)).mono ?_
    rintro e wc ⟨rfl, hbc⟩
    have sbc := hbc.size
    have HBc := hidv hbc
    clear hbc
    go_wp2_with fail
    refine (markInts_ownT (HB.out.below HBc.out) (by omega) (by omega)).mono ?_
    rintro e wd ⟨rfl, hvd, hbd⟩
    have scd := hbd.size
    have HBd := hidv hbd
    have HD := hidv hvd
    clear hbd hvd
    go_wp2_with fail
    refine (heldInts_own HD.out.row (by omega)).mono ?_
    rintro e wd' ⟨rfl, rfl⟩
    go_wp2_with fail
    refine (H1.out _).mono ?_
    rintro e we ⟨ve, rfl, hve, hbe⟩
    have sde := hbe.size
    have HBe := hidv hbe
    have HE := hidv hve
    clear hbe hve
    have HRA : Hid (Row we wa.heap.size va (L.map (Value.int .i64))) := ((((HA.out.row.below HBb.out).below (HBc.out.mono (by omega))).below HBd.out).below (HBe.out.mono (by omega)))
    go_wp2_with fail
    refine (eqInts_same HE.out.row HRA.out (by omega)).mono ?_
    rintro e wf ⟨rfl, hbf⟩
    have sef := hbf.size
    have HBf := hidv hbf
    clear hbf
    go_wp2_with fail
    refine (heldInts_own ((HD.out.row.below HBe.out).below (HBf.out.mono (by omega))) (by omega)).mono ?_
    rintro e wf' ⟨rfl, rfl⟩
    go_wp2_with fail
    go_ret
    refine ⟨rfl, ?_⟩
    have b1 := HBa.out
    have b2 := HBb.out.mono b1.size
    have b3 := HBc.out.mono (Nat.le_trans b1.size sab)
    have b4 := HBd.out.mono b1.size
    have b5 := HBe.out.mono (show w.heap.size ≤ wd.heap.size by have := b1.size; omega)
    have b6 := HBf.out.mono (show w.heap.size ≤ we.heap.size by have := b1.size; omega)
    exact ((((b1.trans b2).trans b3).trans b4).trans b5).trans b6

end Go.Proofs.Ytebhifhcknbgaab
