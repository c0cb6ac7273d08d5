/-
  How often each kind of symbol occurs in a term: the program's own count. Contracts.
-/
import Derived.Test.YtgfdcpmjaamhdaaSym
import Derived.Laws.Rows
namespace Go.Proofs.Ytgfdcpmjaamhdaa
open Go.RowKit Go

/-- The kind of a byte of a term: letters 0 to 3, unknowns 4 to 7. -/
def kindN (c : UInt8) : Nat := if Wd.isL c then c.toNat - 97 else (4 + Wd.unkI c).toNat
def cntL (l : List UInt8) : List Int := (List.range 8).map fun j => ((l.countP (fun c => kindN c == j) : Nat) : Int)
theorem cntL_length (l : List UInt8) : (cntL l).length = 8 := by simp [cntL]
theorem cntL_at (l : List UInt8) (j : Nat) (hj : j < 8) : (cntL l)[j]? = some ((l.countP (fun c => kindN c == j) : Nat) : Int) := by
  simp [cntL, hj]
theorem cntL_snoc (l : List UInt8) (c : UInt8) (hc : kindN c < 8) : cntL (l ++ [c]) = (cntL l).set (kindN c) (((l.countP (fun d => kindN d == kindN c) : Nat) : Int) + 1) := by
  refine List.ext_getElem? fun j => ?_
  rcases Nat.lt_or_ge j 8 with hj | hj
  · rw [cntL_at _ j hj, List.getElem?_set]
    by_cases h : kindN c = j
    · rw [if_pos h, if_pos (by rw [cntL_length]; omega), List.countP_append]
      simp [h]
    · rw [if_neg h, cntL_at _ j hj, List.countP_append]
      simp [h]
  · rw [List.getElem?_eq_none (by rw [cntL_length]; omega), List.getElem?_eq_none (by rw [List.length_set, cntL_length]; omega)]

theorem method_kindL (x : Int) (w : World) : (method 182 64 (.int .i64 x) "loop.example/g01143/impl.kind").run Try.prog w = .ok (52, .int .i64 x) w := by kernel_rfl
theorem method_kindU (x : Int) (w : World) : (method 182 65 (.int .i64 x) "loop.example/g01143/impl.kind").run Try.prog w = .ok (54, .int .i64 x) w := by kernel_rfl

theorem letterKind_any (x : Int) (w : World) :
    Calls Try.prog 52 #[.int .i64 x] w fun e w' => e = .returned (.int .i64 x) ∧ w = w' := by
  go_enter Try.func52, Try.ntmps52
  go_wp2
  go_ret
  exact ⟨rfl, rfl⟩
theorem unknownKind_any (x : Int) (w : World) (h0 : -1 ≤ x) (h1 : x ≤ 4) :
    Calls Try.prog 54 #[.int .i64 x] w fun e w' => e = .returned (.int .i64 (4 + x)) ∧ w = w' := by
  go_enter Try.func54, Try.ntmps54
  go_wp2
  go_ret
  exact ⟨rfl, rfl⟩

theorem symV_letter {c : UInt8} (h : Wd.isL c = true) : symV c = .iface 64 (.int .i64 (kindN c : Nat)) ∧ kindN c < 4 := by
  have h' := h
  unfold Wd.isL at h'
  simp at h'
  unfold symV kindN
  rw [h]
  refine ⟨?_, by simp; omega⟩
  simp only [if_true]
  congr 2
  omega
theorem symV_unknown {c : UInt8} (h : Wd.isL c = false) (hu : Wd.isU c = true) : ∃ x : Nat, x < 4 ∧ Wd.unkI c = x ∧ symV c = .iface 65 (.int .i64 (x : Nat)) ∧ kindN c = 4 + x := by
  unfold symV kindN
  rw [h]
  have : c = 88 ∨ c = 89 ∨ c = 90 ∨ c = 87 := by
    unfold Wd.isU at hu
    simp at hu
    rcases hu with ((hu | hu) | hu) | hu <;> simp [hu]
  rcases this with rfl | rfl | rfl | rfl
  · exact ⟨0, by decide, by decide, by rfl, by decide⟩
  · exact ⟨1, by decide, by decide, by rfl, by decide⟩
  · exact ⟨2, by decide, by decide, by rfl, by decide⟩
  · exact ⟨3, by decide, by decide, by rfl, by decide⟩
theorem term_at {s : ByteArray} (hv : Wd.termB s.data.toList = true) (k : Nat) (hk : k < s.size) : Wd.isL s[k] = true ∨ Wd.isL s[k] = false ∧ Wd.isU s[k] = true := by
  unfold Wd.termB at hv
  rw [Bool.and_eq_true, List.all_eq_true] at hv
  have := hv.2 s[k] (by
    have : s.data.toList[k]'(by simpa using hk) ∈ s.data.toList := List.getElem_mem _
    exact this)
  cases h : Wd.isL s[k]
  · rw [h, Bool.false_or] at this
    exact .inr ⟨rfl, this⟩
  · exact .inl rfl

set_option maxRecDepth 100000 in
set_option maxHeartbeats 800000 in
theorem kindCounts_any (s : ByteArray) (w : World) (hs : s.size ≤ 24) (hv : Wd.termB s.data.toList = true) :
    Calls Try.prog 29 #[.string s] w fun e w' => e = .returned (.agg ((cntL s.data.toList).map (Value.int .i64)).toArray) ∧ Below w.heap.size w w' := by
  have hsz : s.data.toList.length = s.size := by simp
  go_enter Try.func29, Try.ntmps29
  go_wp2_with fail
  obtain ⟨w0, hw0⟩ : ∃ w0, w0 = ((w.alloc (.cells #[.int .i64 0, .int .i64 0, .int .i64 0, .int .i64 0, .int .i64 0, .int .i64 0, .int .i64 0, .int .i64 0] 49)).alloc (.cells #[.int .i64 0, .int .i64 0, .int .i64 0, .int .i64 0, .int .i64 0, .int .i64 0, .int .i64 0, .int .i64 0] 49)) := ⟨_, rfl⟩
  rw [← hw0]
  have hz0 : w0.heap.size = w.heap.size + 2 := by rw [hw0]; simp
  have hr0 : w0.heap[w.heap.size]? = some (.cells #[.int .i64 0, .int .i64 0, .int .i64 0, .int .i64 0, .int .i64 0, .int .i64 0, .int .i64 0, .int .i64 0] 49 (0, 0)) := by rw [hw0]; exact heap_alloc2_old _ _ _
  have hr1 : w0.heap[w.heap.size + 1]? = some (.cells #[.int .i64 0, .int .i64 0, .int .i64 0, .int .i64 0, .int .i64 0, .int .i64 0, .int .i64 0, .int .i64 0] 49 (0, 0)) := by rw [hw0]; exact heap_alloc2_new _ _ _
  have hb0 : Below w.heap.size w w0 := by rw [hw0]; exact ((Below.refl _ _).alloc (Nat.le_refl _) _).alloc (by simp) _
  clear hw0
  refine (symbols_at s w0 hs).mono ?_
  rintro e w1 ⟨A, c, rfl, hsym, hb1⟩
  have HS := hidv hsym
  have HB0 := hidv hb0
  have HB1 := hidv hb1
  have HR0 := hidv ((hb1.block w.heap.size (by omega)).trans hr0)
  have HR1 := hidv ((hb1.block (w.heap.size + 1) (by omega)).trans hr1)
  have HZ := hidv hz0
  have hs1 := hb1.size
  clear hsym hb0 hb1 hr0 hr1 hz0
  go_wp2_with fail
  go_loopw [9] (fun i wr => ∃ k : Nat, k ≤ s.size ∧ i = .int .i64 k ∧ Hid (SymAt wr w0.heap.size A s) ∧ Hid (wr.heap[w.heap.size]? = some (.cells #[.int .i64 0, .int .i64 0, .int .i64 0, .int .i64 0, .int .i64 0, .int .i64 0, .int .i64 0, .int .i64 0] 49 (0, 0))) ∧ (∃ cs : Array Value, Hid (cs.toList = (cntL (s.data.toList.take k)).map (Value.int .i64)) ∧ Hid (wr.heap[w.heap.size + 1]? = some (.cells cs 49 (0, 0)))) ∧ Hid (Below w.heap.size w wr) ∧ w1.heap.size ≤ wr.heap.size) (fun i _ => s.size - (intOf i).toNat)
  case atStart => exact ⟨0, Nat.zero_le _, rfl, HS, HR0, ⟨_, hidv (by rfl), HR1⟩, hidv (HB0.out.trans (HB1.out.mono (by have := HZ.out; omega))), Nat.le_refl _⟩
  case round =>
    obtain ⟨k, hk, rfl, hsy, hz, ⟨cs, hcs, hblk⟩, hbe, hsz1⟩ := hrel
    by_cases hlt : k < s.size
    · obtain ⟨g, rfl, hbg, hgl, hce⟩ := hsy.out (by omega)
      have c1 : wr.cell? ⟨g, k, none⟩ = some (symV s[k]) := hce k hlt
      have HCE := hidv hce
      clear hce
      rcases term_at hv k hlt with hl | ⟨hl, hu⟩
      · obtain ⟨he, hj⟩ := symV_letter hl
        rw [he] at c1
        obtain ⟨j, hjn⟩ : ∃ j, kindN s[k] = j := ⟨_, rfl⟩
        rw [hjn] at c1 hj
        have HJ := hidv hjn
        clear hjn he
        obtain ⟨q, hq⟩ : ∃ q, (s.data.toList.take k).countP (fun c => kindN c == j) = q := ⟨_, rfl⟩
        have hq24 : q ≤ 24 := by
          have h1 := List.countP_le_length (p := fun c => kindN c == j) (l := s.data.toList.take k)
          have h2 : (s.data.toList.take k).length ≤ 24 := Nat.le_trans (List.length_take_le _ _) (by omega)
          omega
        have c2 : wr.cell? ⟨w.heap.size + 1, j, none⟩ = some (.int .i64 (q : Int)) := by
          rw [cell_of_row _ _ _ _ _ _ hblk.out, ← Array.getElem?_toList, hcs.out, List.getElem?_map, cntL_at _ _ (by omega), hq]
          rfl
        have hf2 : wr.frozen? ⟨w.heap.size + 1, j, none⟩ = false := frozen_of_row _ _ _ _ _ hblk.out
        have HQ := hidv hq
        clear hq
        have hmk := fun (wx : World) => method_kindL (j : Int) wx
        go_wp2_with (go_at_call 52; refine (letterKind_any _ _).mono ?_; rintro e w' ⟨rfl, rfl⟩)
        go_roundw
        case rel =>
          have hmax : w0.heap.size = w.heap.size + 2 := HZ.out
          refine ⟨k + 1, by omega, by go_num, hidv (hsy.out.keep (by simp) fun p hp _ => World.cell?_setCell_other _ _ _ _ (fun e => by subst e; simp at hp; omega)), hidv ?_, ⟨cs.setIfInBounds j (.int .i64 ((q : Int) + 1)), hidv ?_, hidv (heap_setCell_same _ _ _ _ _ _ hblk.out)⟩, hidv (hbe.out.setCell (by simp) _), by simpa using hsz1⟩
          · rw [heap_setCell_other _ _ _ _ (by simp)]; exact hz.out
          · rw [Array.toList_setIfInBounds, hcs.out, List.take_succ_eq_append_getElem (by omega)]
            have h1 := cntL_snoc (s.data.toList.take k) s[k] (by rw [HJ.out]; omega)
            rw [HJ.out, HQ.out] at h1
            show _ = (cntL (s.data.toList.take k ++ [s[k]])).map _
            rw [h1, List.map_set]
        case measure => simp [intOf]; omega
      · obtain ⟨x, hx4, _, he, hj⟩ := symV_unknown hl hu
        rw [he] at c1
        obtain ⟨j, hjx⟩ : ∃ j, 4 + x = j := ⟨_, rfl⟩
        rw [hjx] at hj
        have HJ := hidv hj
        have hj8 : j < 8 := by omega
        have hjI : (4 : Int) + (x : Int) = (j : Int) := by omega
        have HXJ := hidv hjI
        clear hj he hjx hjI
        obtain ⟨q, hq⟩ : ∃ q, (s.data.toList.take k).countP (fun c => kindN c == j) = q := ⟨_, rfl⟩
        have hq24 : q ≤ 24 := by
          have h1 := List.countP_le_length (p := fun c => kindN c == j) (l := s.data.toList.take k)
          have h2 : (s.data.toList.take k).length ≤ 24 := Nat.le_trans (List.length_take_le _ _) (by omega)
          omega
        have c2 : wr.cell? ⟨w.heap.size + 1, j, none⟩ = some (.int .i64 (q : Int)) := by
          rw [cell_of_row _ _ _ _ _ _ hblk.out, ← Array.getElem?_toList, hcs.out, List.getElem?_map, cntL_at _ _ (by omega), hq]
          rfl
        have hf2 : wr.frozen? ⟨w.heap.size + 1, j, none⟩ = false := frozen_of_row _ _ _ _ _ hblk.out
        have HQ := hidv hq
        clear hq
        have hmk := fun (wx : World) => method_kindU (x : Int) wx
        go_wp2_with (go_at_call 54; refine (unknownKind_any _ _ (by omega) (by omega)).mono ?_; rintro e w' ⟨rfl, rfl⟩; rw [HXJ.out])
        go_roundw
        case rel =>
          have hmax : w0.heap.size = w.heap.size + 2 := HZ.out
          refine ⟨k + 1, by omega, by go_num, hidv (hsy.out.keep (by simp) fun p hp _ => World.cell?_setCell_other _ _ _ _ (fun e => by subst e; simp at hp; omega)), hidv ?_, ⟨cs.setIfInBounds j (.int .i64 ((q : Int) + 1)), hidv ?_, hidv (heap_setCell_same _ _ _ _ _ _ hblk.out)⟩, hidv (hbe.out.setCell (by simp) _), by simpa using hsz1⟩
          · rw [heap_setCell_other _ _ _ _ (by simp)]; exact hz.out
          · rw [Array.toList_setIfInBounds, hcs.out, List.take_succ_eq_append_getElem (by omega)]
            have h1 := cntL_snoc (s.data.toList.take k) s[k] (by rw [HJ.out]; omega)
            rw [HJ.out, HQ.out] at h1
            show _ = (cntL (s.data.toList.take k ++ [s[k]])).map _
            rw [h1, List.map_set]
        case measure => simp [intOf]; omega
    · obtain rfl : k = s.size := by omega
      have hz0 := hz.out
      have hb0 := hblk.out
      have hcs0 := hcs.out
      rw [List.take_of_length_le (by omega)] at hcs0
      obtain ⟨x0, x1, x2, x3, x4, x5, x6, x7, hx⟩ : ∃ x0 x1 x2 x3 x4 x5 x6 x7, cntL s.data.toList = [x0, x1, x2, x3, x4, x5, x6, x7] := ⟨_, _, _, _, _, _, _, _, rfl⟩
      rw [hx] at hcs0
      have HX := hidv hx
      obtain rfl : cs = #[.int .i64 x0, .int .i64 x1, .int .i64 x2, .int .i64 x3, .int .i64 x4, .int .i64 x5, .int .i64 x6, .int .i64 x7] := by
        rw [← Array.toList_inj, hcs0]; rfl
      have q0 : ∀ i, wr.cell? ⟨w.heap.size + 1, i, none⟩ = _ := fun i => cell_of_row _ _ i _ _ _ hb0
      have p0 : ∀ i, wr.cell? ⟨w.heap.size, i, none⟩ = _ := fun i => cell_of_row _ _ i _ _ _ hz0
      have f0 : ∀ i, wr.frozen? ⟨w.heap.size, i, none⟩ = false := fun i => frozen_of_row _ _ i _ _ hz0
      clear hx hcs0
      have HZ0 := hidv hz0
      clear hz0 hb0
      go_wp2
      have e0 := heap_setCell_same wr w.heap.size 0 _ _ (.int .i64 x0) HZ0.out
      have e1 := heap_setCell_same _ w.heap.size 1 _ _ (.int .i64 x1) e0
      have e2 := heap_setCell_same _ w.heap.size 2 _ _ (.int .i64 x2) e1
      have e3 := heap_setCell_same _ w.heap.size 3 _ _ (.int .i64 x3) e2
      have e4 := heap_setCell_same _ w.heap.size 4 _ _ (.int .i64 x4) e3
      have e5 := heap_setCell_same _ w.heap.size 5 _ _ (.int .i64 x5) e4
      have e6 := heap_setCell_same _ w.heap.size 6 _ _ (.int .i64 x6) e5
      have e7 := heap_setCell_same _ w.heap.size 7 _ _ (.int .i64 x7) e6
      refine bodyPost_ret (results_cell_row rfl _ _ w.heap.size 49 _ (0, 0) _ rfl e7 Try.underlying49 (by rfl) (by kernel_rfl)) rfl ⟨?_, ?_⟩
      · rw [HX.out]; rfl
      · exact (((((((hbe.out.setCell (by simp) _).setCell (by simp) _).setCell (by simp) _).setCell (by simp) _).setCell (by simp) _).setCell (by simp) _).setCell (by simp) _).setCell (by simp) _

end Go.Proofs.Ytgfdcpmjaamhdaa
