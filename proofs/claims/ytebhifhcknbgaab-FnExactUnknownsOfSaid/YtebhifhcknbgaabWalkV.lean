/-
  UnknownsOf and IsLinear, of the program and of the model: contracts, and the laws over them.
-/
import Derived.Test.YtebhifhcknbgaabWalkU
namespace Go.Proofs.Ytebhifhcknbgaab
open Go.RowKit Go

/-- How often the unknown with a number occurs. -/
def unkCount (l : List UInt8) (k : Nat) : Nat := l.countP (fun c => kindN c == 4 + k)
def unksL (l : List UInt8) (n : Nat) : List Int := ((List.range n).filter (fun k => decide (0 < unkCount l k))).map Int.ofNat
theorem unksL_succ (l : List UInt8) (n : Nat) : unksL l (n + 1) = unksL l n ++ (if 0 < unkCount l n then [(n : Int)] else []) := by
  unfold unksL
  rw [List.range_succ, List.filter_append, List.map_append]
  by_cases h : 0 < unkCount l n <;> simp [h]
theorem unksL_len (l : List UInt8) (n : Nat) : (unksL l n).length ≤ n := by
  unfold unksL
  rw [List.length_map]
  exact Nat.le_trans (List.length_filter_le _ _) (by simp)

theorem IntsT.base_le {e : TypeId} {w : World} {base base' : Nat} {v : Value} {xs : List Int} (h : IntsT e w base v xs) (hb : base' ≤ base) : IntsT e w base' v xs := by
  have h' : w.ownsRow base e 1 v xs.length (xs.map (Value.int .i64)) := h
  obtain ⟨h1, h2⟩ := h'
  refine ⟨h1, ?_⟩
  rcases h2 with h2 | ⟨g, cap, cur, hv, hg, r⟩
  · exact .inl h2
  · exact .inr ⟨g, cap, cur, hv, by omega, r⟩
theorem one_cellI (n : Int) : ∀ u : Value, u ∈ [Value.int .i64 n] → u.oneCell' = true := by
  intro u hu
  obtain rfl : u = _ := by simpa using hu
  rfl
theorem app_intsT {e : TypeId} {w : World} {base : Nat} {v : Value} {xs : List Int} {x : Int} (h : w.ownsRow base e 1 v (xs.length + 1) (xs.map (Value.int .i64) ++ [.int .i64 x])) : IntsT e w base v (xs ++ [x]) := by
  unfold IntsT
  rw [List.length_append, List.map_append]
  exact h

/-- The cells of the counts, block whole. -/
def CntAt (w : World) (g : Nat) (l : List UInt8) : Prop := ∃ cs : Array Value, w.heap[g]? = some (.cells cs 53 (0, 0)) ∧ cs.toList = (cntL l).map (Value.int .i64)
theorem CntAt.cell {w : World} {g : Nat} {l : List UInt8} (h : CntAt w g l) (k : Nat) (hk : k < 4) : w.cell? ⟨g, 4 + k, none⟩ = some (.int .i64 (unkCount l k : Nat)) := by
  obtain ⟨cs, h1, h2⟩ := h
  rw [cell_of_row _ _ _ _ _ _ h1, ← Array.getElem?_toList, h2, List.getElem?_map, cntL_at _ _ (by omega)]
  rfl

theorem CntAt.grown {w w' : World} {g base : Nat} {row : Option Nat} {l : List UInt8} (h : CntAt w g l) (hg : w.grownBy w' row) (hgb : g < base) (hr : ∀ k, row = some k → base ≤ k) : CntAt w' g l := by
  obtain ⟨cs, h1, h2⟩ := h
  refine ⟨cs, ?_, h2⟩
  have hlt : g < w.heap.size := by
    rcases Nat.lt_or_ge g w.heap.size with h | h
    · exact h
    · rw [Array.getElem?_eq_none h] at h1; cases h1
  rw [hg.block g hlt (fun e => by have := hr g e.symm; omega)]
  exact h1
theorem CntAt.alloc {w : World} {g : Nat} {l : List UInt8} (h : CntAt w g l) (o : Obj) : CntAt (w.alloc o) g l := by
  obtain ⟨cs, h1, h2⟩ := h
  have hlt : g < w.heap.size := by
    rcases Nat.lt_or_ge g w.heap.size with h | h
    · exact h
    · rw [Array.getElem?_eq_none h] at h1; cases h1
  exact ⟨cs, (Below.heap_alloc w o g hlt).trans h1, h2⟩

set_option maxRecDepth 100000 in
set_option maxHeartbeats 800000 in
theorem implUnknowns_ok (s : ByteArray) (w : World) (hs : s.size ≤ 24) (hv : Wd.termB s.data.toList = true) :
    Calls Try.prog 14 #[.string s] w fun e w' => ∃ v, e = .returned (.tuple #[v, .int .i64 0]) ∧ IntsT 2 w' w.heap.size v (unksL s.data.toList 4) ∧ Below w.heap.size w w' := by
  have c1 := implValidTerm_any s w (by unfold maxLen; omega)
  rw [hv] at c1
  have c2 := kindCounts_any s w hs hv
  obtain ⟨i0, hi, hz0, hz1, hz2⟩ := info_parts Try.infoI
  obtain ⟨x0, x1, x2, x3, x4, x5, x6, x7, hx⟩ : ∃ x0 x1 x2 x3 x4 x5 x6 x7, cntL s.data.toList = [x0, x1, x2, x3, x4, x5, x6, x7] := ⟨_, _, _, _, _, _, _, _, rfl⟩
  rw [hx] at c2
  have HX := hidv hx
  clear hx hv
  have hlen24 : ∀ k, unkCount s.data.toList k ≤ 24 := fun k => countP_le (by simpa using hs) _
  have HL := hidv hlen24
  clear hlen24
  go_enter Try.func14, Try.ntmps14
  go_wp2_with fail
  refine c1.mono ?_
  rintro e w' ⟨rfl, rfl⟩
  go_wp2_with fail
  refine c2.mono ?_
  rintro e w1 ⟨rfl, hb⟩
  simp only [List.map_cons, List.map_nil]
  go_wp2_with fail
  obtain ⟨w2, hw2⟩ : ∃ w2, w2 = w1.alloc (.cells #[.int .i64 x0, .int .i64 x1, .int .i64 x2, .int .i64 x3, .int .i64 x4, .int .i64 x5, .int .i64 x6, .int .i64 x7] 53) := ⟨_, rfl⟩
  rw [← hw2]
  have hcnt : CntAt w2 w1.heap.size s.data.toList := ⟨_, by rw [hw2]; exact heap_alloc_new w1 _, by rw [HX.out]; rfl⟩
  have hb2 : Below w.heap.size w w2 := by rw [hw2]; exact hb.alloc hb.size _
  have hz2' : w2.heap.size = w1.heap.size + 1 := by rw [hw2]; simp
  have HC := hidv hcnt
  have HB := hidv hb2
  have HB1 := hidv hb
  have HZ := hidv hz2'
  clear hcnt hb2 hb hz2' hw2 HX
  go_loopw [5, 12] (fun v i wr => ∃ k : Nat, k ≤ 4 ∧ i = .int .i64 k ∧ Hid (IntsT 2 wr w2.heap.size v (unksL s.data.toList k)) ∧ Hid (CntAt wr w1.heap.size s.data.toList) ∧ Hid (Below w2.heap.size w2 wr)) (fun _ i _ => 4 - (intOf i).toNat)
  case atStart => exact ⟨0, Nat.zero_le _, rfl, hidv (World.ownsRow_nil _ _ _ _), HC, hidv (Below.refl _ _)⟩
  case round =>
    obtain ⟨k, hk, rfl, hown, hcn, hbe⟩ := hrel
    have hll := unksL_len s.data.toList k
    by_cases hlt : k < 4
    · have c3 := hcn.out.cell k hlt
      obtain ⟨j, hj⟩ : ∃ j, 4 + k = j := ⟨_, rfl⟩
      have HJ := hidv hj
      rw [hj] at c3
      have hj8 : j < 8 := by omega
      have hjI : (4 : Int) + (k : Int) = (j : Int) := by omega
      have HXJ := hidv hjI
      have hq24 := HL.out k
      obtain ⟨q, hq⟩ : ∃ q, unkCount s.data.toList k = q := ⟨_, rfl⟩
      rw [hq] at c3 hq24
      have HS := hidv (unksL_succ s.data.toList k)
      rw [hq] at HS
      have HO : Hid (World.ownsRow wr w2.heap.size 2 1 _ (unksL s.data.toList k).length ((unksL s.data.toList k).map (Value.int .i64))) := hown
      have hsz := hbe.out.size
      clear hq hj hjI
      by_cases hq0 : 0 < q
      · go_wp2_with (first | (go_at_call 49; refine (unknownKind_any _ _ (by omega) (by omega)).mono ?_; rintro e w' ⟨rfl, rfl⟩; rw [HXJ.out]) | (at_builtin; refine wpList_append_own _ rfl (.tmp 20) (.tmp 22) 22 rfl w2.heap.size 2 i0 (.int .i64 0) 1 8 Try.underlying22 hi hz0 hz1 hz2 rfl (by decide) _ _ _ rfl (HO.out.alloc _) ⟨wr.heap.size, 0, none⟩ 1 1 [.int .i64 (k : Int)] rfl rfl (one_newS wr _ _) (one_cellI _) ?_ ?_ ?_ ?_; (unfold maxLen; omega); omega; exact Nat.le_trans hsz (by simp); intro v1 w3 hown1 hgr1 _))
        have hba : Below w2.heap.size w2 (wr.alloc (.cells #[.int .i64 (k : Int)] 2)) := hbe.out.alloc hsz _
        have hown' := hown.out
        go_roundw
        case rel =>
          refine ⟨k + 1, by omega, by go_num, hidv ?_, hidv ((hcn.out.alloc _).grown hgr1 (base := w2.heap.size) (by have := HZ.out; omega) fun b hbk => (World.ownsRow.lt hown' b hbk).1), hidv (hba.grown hgr1 hba.size fun b hbk => (World.ownsRow.lt hown' b hbk).1)⟩
          rw [HS.out, if_pos hq0]
          exact app_intsT hown1
        case measure => simp [intOf]; omega
      · obtain rfl : q = 0 := by omega
        go_wp2_with (go_at_call 49; refine (unknownKind_any _ _ (by omega) (by omega)).mono ?_; rintro e w' ⟨rfl, rfl⟩; rw [HXJ.out])
        have hown' := hown.out
        go_roundw
        case rel =>
          refine ⟨k + 1, by omega, by go_num, hidv ?_, hcn, hbe⟩
          rw [HS.out, if_neg hq0, List.append_nil]
          exact hown'
        case measure => simp [intOf]; omega
    · obtain rfl : k = 4 := by omega
      go_wp2
      go_ret2
      exact ⟨_, rfl, hown.out.base_le HB.out.size, HB.out.trans (hbe.out.mono HB.out.size)⟩


theorem implUnknowns_bad (s : ByteArray) (w : World) (hs : s.size ≤ maxLen) (h : Wd.termB s.data.toList = false) :
    Calls Try.prog 14 #[.string s] w fun e w' => ∃ v, e = .returned (.tuple #[v, .int .i64 1]) ∧ IntsT 2 w' w.heap.size v [] ∧ Below w.heap.size w w' := by
  have c1 := implValidTerm_any s w hs
  rw [h] at c1
  clear h
  go_enter Try.func14, Try.ntmps14
  go_wp2_with fail
  refine c1.mono ?_
  rintro e w' ⟨rfl, rfl⟩
  go_wp2_with fail
  go_ret2
  exact ⟨_, rfl, World.ownsRow_nil _ _ _ _, Below.refl _ _⟩

theorem specUnknowns_bad (s : ByteArray) (w : World) (hs : s.size ≤ maxLen) (h : Wd.termB s.data.toList = false) :
    Calls Try.prog 13 #[.string s] w fun e w' => ∃ v, e = .returned (.tuple #[v, .int .i64 1]) ∧ IntsT 2 w' w.heap.size v [] ∧ Below w.heap.size w w' := by
  have c1 := specTerm_any s w hs
  rw [h] at c1
  clear h
  go_enter Try.func13, Try.ntmps13
  go_wp2_with fail
  refine c1.mono ?_
  rintro e w' ⟨rfl, rfl⟩
  go_wp2_with fail
  go_ret2
  exact ⟨_, rfl, World.ownsRow_lit w #[] 0 (Nat.le_refl _) (Nat.zero_le _) rfl, (Below.refl _ _).alloc (Nat.le_refl _) _⟩

set_option maxRecDepth 100000 in
set_option maxHeartbeats 800000 in
theorem specUnknowns_ok (s : ByteArray) (w : World) (hs : s.size ≤ 24) (hv : Wd.termB s.data.toList = true) :
    Calls Try.prog 13 #[.string s] w fun e w' => ∃ v, e = .returned (.tuple #[v, .int .i64 0]) ∧ IntsT 2 w' w.heap.size v (unksL s.data.toList 4) ∧ Below w.heap.size w w' := by
  have c1 := specTerm_any s w (by unfold maxLen; omega)
  rw [hv] at c1
  have c2 := specCounts_any s w hs hv
  obtain ⟨i0, hi, hz0, hz1, hz2⟩ := info_parts Try.infoI
  clear hv
  have hlen24 : ∀ k, unkCount s.data.toList k ≤ 24 := fun k => countP_le (by simpa using hs) _
  have HL := hidv hlen24
  clear hlen24
  go_enter Try.func13, Try.ntmps13
  go_wp2_with fail
  refine c1.mono ?_
  rintro e w' ⟨rfl, rfl⟩
  go_wp2_with fail
  refine c2.mono ?_
  rintro e w1 ⟨g, rfl, hcw, hb⟩
  have HB := hidv hb
  have HC := hidv hcw
  have hgl : g < w1.heap.size := (World.ownsRow.lt hcw g rfl).2
  have hbs := hb.size
  clear hb hcw
  go_wp2_with fail
  go_loopw [5, 6] (fun v i wr => ∃ k : Nat, k ≤ 4 ∧ i = .int .i64 k ∧ Hid (IntsT 2 wr w1.heap.size v (unksL s.data.toList k)) ∧ Hid (Below w1.heap.size w1 wr)) (fun _ i _ => 4 - (intOf i).toNat)
  case atStart => exact ⟨0, Nat.zero_le _, rfl, hidv (World.ownsRow_lit w1 #[] 0 (Nat.le_refl _) (Nat.zero_le _) rfl), hidv ((Below.refl _ _).alloc (Nat.le_refl _) _)⟩
  case round =>
    obtain ⟨k, hk, rfl, hown, hbe⟩ := hrel
    have hll := unksL_len s.data.toList k
    by_cases hlt : k < 4
    · have hrow : wr.ownsRow w.heap.size 2 1 (.slice (some ⟨g, 0, none⟩) 8 8) 8 ((cntL s.data.toList).map (Value.int .i64)) := by
        have := HC.out.below hbe.out
        unfold Ints at this
        rw [cntL_length] at this
        exact this
      have c3 : wr.cell? ⟨g, 4 + k, none⟩ = some (.int .i64 (unkCount s.data.toList k : Nat)) := by
        rw [hrow.cellAt (4 + k) (by omega), List.getElem?_map, cntL_at _ _ (by omega)]
        rfl
      obtain ⟨j, hj⟩ : ∃ j, 4 + k = j := ⟨_, rfl⟩
      rw [hj] at c3
      have hj8 : j < 8 := by omega
      have hjI : (4 : Int) + (k : Int) = (j : Int) := by omega
      have hq24 := HL.out k
      obtain ⟨q, hq⟩ : ∃ q, unkCount s.data.toList k = q := ⟨_, rfl⟩
      rw [hq] at c3 hq24
      have HS := hidv (unksL_succ s.data.toList k)
      rw [hq] at HS
      have HO : Hid (World.ownsRow wr w1.heap.size 2 1 _ (unksL s.data.toList k).length ((unksL s.data.toList k).map (Value.int .i64))) := hown
      have hsz := hbe.out.size
      clear hq hj hrow
      by_cases hq0 : 0 < q
      · go_wp2_with (at_builtin; refine wpList_append_own _ rfl (.tmp 24) (.tmp 26) 22 rfl w1.heap.size 2 i0 (.int .i64 0) 1 8 Try.underlying22 hi hz0 hz1 hz2 rfl (by decide) _ _ _ rfl (HO.out.alloc _) ⟨wr.heap.size, 0, none⟩ 1 1 [.int .i64 (k : Int)] rfl rfl (one_newS wr _ _) (one_cellI _) ?_ ?_ ?_ ?_; (unfold maxLen; omega); omega; exact Nat.le_trans hsz (by simp); intro v1 w3 hown1 hgr1 _)
        have hba : Below w1.heap.size w1 (wr.alloc (.cells #[.int .i64 (k : Int)] 2)) := hbe.out.alloc hsz _
        have hown' := hown.out
        go_roundw
        case rel =>
          refine ⟨k + 1, by omega, by go_num, hidv ?_, hidv (hba.grown hgr1 hba.size fun b hbk => (World.ownsRow.lt hown' b hbk).1)⟩
          rw [HS.out, if_pos hq0]
          exact app_intsT hown1
        case measure => simp [intOf]; omega
      · obtain rfl : q = 0 := by omega
        go_wp2
        have hown' := hown.out
        go_roundw
        case rel =>
          refine ⟨k + 1, by omega, by go_num, hidv ?_, hbe⟩
          rw [HS.out, if_neg hq0, List.append_nil]
          exact hown'
        case measure => simp [intOf]; omega
    · obtain rfl : k = 4 := by omega
      go_wp2
      go_ret2
      exact ⟨_, rfl, hown.out.base_le hbs, HB.out.trans (hbe.out.mono hbs)⟩

theorem unknowns_both (s : ByteArray) (hs : s.size ≤ maxLen) : ∃ (L : List Int) (c : Int), L.length ≤ 100 ∧
    (∀ w, Calls Try.prog 14 #[.string s] w fun e w' => ∃ v, e = .returned (.tuple #[v, .int .i64 c]) ∧ IntsT 2 w' w.heap.size v L ∧ Below w.heap.size w w') ∧
    ∀ w, Calls Try.prog 13 #[.string s] w fun e w' => ∃ v, e = .returned (.tuple #[v, .int .i64 c]) ∧ IntsT 2 w' w.heap.size v L ∧ Below w.heap.size w w' := by
  cases h : Wd.termB s.data.toList
  · exact ⟨[], 1, by simp, fun w => implUnknowns_bad s w hs h, fun w => specUnknowns_bad s w hs h⟩
  · have hs0 : s.size ≤ 24 := by have := Wd.termB_len h; simpa using this
    exact ⟨_, 0, Nat.le_trans (unksL_len _ 4) (by omega), fun w => implUnknowns_ok s w hs0 h, fun w => specUnknowns_ok s w hs0 h⟩

set_option maxHeartbeats 800000 in
theorem law_FnExactUnknownsOf (a0 : ByteArray) (w : World) (w0 : a0.size ≤ maxLen) :
    Calls Try.prog 3 #[.string a0] w fun e w' => e = .returned (.bool true) ∧ Below w.heap.size w w' := by
  obtain ⟨L, c, hL, h1, h2⟩ := unknowns_both a0 w0
  have H1 := hidv h1
  have H2 := hidv h2
  clear h1 h2
  unfold maxLen at w0
  by_cases hl0 : (1048576 : Int) < a0.size
  · go_enter Try.func3, Try.ntmps3
    go_wp2
    go_ret
    exact ⟨rfl, Below.refl _ _⟩
  · go_enter Try.func3, Try.ntmps3
    go_wp2_with fail
    refine (H2.out _).mono ?_
    rintro e wa ⟨va, rfl, hva, hba⟩
    go_wp2_with fail
    refine (H1.out _).mono ?_
    rintro e wb ⟨vb, rfl, hvb, hbb⟩
    go_wp2_with fail
    have sab := hbb.size
    have HBa := hidv hba
    have HBb := hidv hbb
    have HA := hidv hva
    have HB := hidv hvb
    clear hva hvb hba hbb
    refine (eqInts_same HB.out.row (HA.out.row.below HBb.out) (by omega)).mono ?_
    rintro e wc ⟨rfl, hbc⟩
    have sbc := hbc.size
    have HBc := hidv hbc
    clear hbc
    go_wp2_with fail
    refine (markInts_ownT (HB.out.below HBc.out) (by omega) (by omega)).mono ?_
    rintro e wd ⟨rfl, hvd, hbd⟩
    have scd := hbd.size
    have HBd := hidv hbd
    have HD := hidv hvd
    clear hbd hvd
    go_wp2_with fail
    refine (heldInts_own HD.out.row (by omega)).mono ?_
    rintro e wd' ⟨rfl, rfl⟩
    go_wp2_with fail
    refine (H1.out _).mono ?_
    rintro e we ⟨ve, rfl, hve, hbe⟩
    have sde := hbe.size
    have HBe := hidv hbe
    have HE := hidv hve
    clear hbe hve
    have HRA : Hid (Row we wa.heap.size va (L.map (Value.int .i64))) := ((((HA.out.row.below HBb.out).below (HBc.out.mono (by omega))).below HBd.out).below (HBe.out.mono (by omega)))
    go_wp2_with fail
    refine (eqInts_same HE.out.row HRA.out (by omega)).mono ?_
    rintro e wf ⟨rfl, hbf⟩
    have sef := hbf.size
    have HBf := hidv hbf
    clear hbf
    go_wp2_with fail
    refine (heldInts_own ((HD.out.row.below HBe.out).below (HBf.out.mono (by omega))) (by omega)).mono ?_
    rintro e wf' ⟨rfl, rfl⟩
    go_wp2_with fail
    go_ret
    refine ⟨rfl, ?_⟩
    have b1 := HBa.out
    have b2 := HBb.out.mono b1.size
    have b3 := HBc.out.mono (Nat.le_trans b1.size sab)
    have b4 := HBd.out.mono b1.size
    have b5 := HBe.out.mono (show w.heap.size ≤ wd.heap.size by have := b1.size; omega)
    have b6 := HBf.out.mono (show w.heap.size ≤ we.heap.size by have := b1.size; omega)
    exact ((((b1.trans b2).trans b3).trans b4).trans b5).trans b6

end Go.Proofs.Ytebhifhcknbgaab
