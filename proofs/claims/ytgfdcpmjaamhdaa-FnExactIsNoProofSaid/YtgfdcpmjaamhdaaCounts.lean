/-
  How often letters and unknowns occur, counted by the model: a contract.
-/
import Derived.Test.YtgfdcpmjaamhdaaKind
import Derived.IntWalk
namespace Go.Proofs.Ytgfdcpmjaamhdaa
open Go.RowKit Go

theorem Try.infoI : (Try.prog.info? 2).map (fun i => (i.zero, i.size, i.bytes)) = some (some (.int .i64 0), 1, 8) := by kernel_rfl

theorem unkI_letter {c : UInt8} (h : Wd.isL c = true) : Wd.unkI c = -1 := by
  unfold Wd.isL at h
  simp at h
  unfold Wd.unkI
  rw [if_neg, if_neg, if_neg, if_neg]
  all_goals rintro rfl
  all_goals revert h; decide

theorem countP_le {l : List UInt8} {n : Nat} (h : l.length ≤ n) (j : Nat) : l.countP (fun c => kindN c == j) ≤ n := Nat.le_trans List.countP_le_length h

set_option maxRecDepth 100000 in
set_option maxHeartbeats 800000 in
theorem specCounts_any (s : ByteArray) (w : World) (hs : s.size ≤ 24) (hv : Wd.termB s.data.toList = true) :
    Calls Try.prog 27 #[.string s] w fun e w' => ∃ g, e = .returned (.slice (some ⟨g, 0, none⟩) 8 8) ∧ Ints w' w.heap.size (.slice (some ⟨g, 0, none⟩) 8 8) (cntL s.data.toList) ∧ Below w.heap.size w w' := by
  obtain ⟨i0, hi, hz0, hz1, hz2⟩ := info_parts Try.infoI
  go_enter Try.func27, Try.ntmps27
  go_wp2_with (at_make; refine wpList_make_full _ rfl _ _ 23 rfl w.heap.size 2 i0 (.int .i64 0) 1 Try.underlying23 hi hz0 hz1 _ _ _ _ 8 rfl rfl rfl rfl (by rw [hz2]; omega) (by unfold maxLen; omega) (Nat.le_refl _) ?_; intro w0 hown0 hgr0)
  have hb0 : Below w.heap.size w w0 := below_grown hgr0 (Nat.le_refl _) (fun k hk => by cases hk)
  have hown1 : w0.ownsRow w.heap.size 2 1 (.slice (some ⟨w.heap.size, 0, none⟩) 8 8) 8 ((cntL (s.data.toList.take 0)).map (Value.int .i64)) := by
    have : (madeCells (Value.int IntKind.i64 0).cells (8 * 1)).toList = (cntL (s.data.toList.take 0)).map (Value.int .i64) := by
      rw [List.take_zero, show cntL [] = List.replicate 8 0 from by decide]
      exact toList_madeCells_one (Value.int IntKind.i64 0) 8
    rw [← this]; exact hown0
  have HO0 := hidv hown1
  clear hown0 hgr0 hown1
  go_loopw [4] (fun i wr => ∃ k : Nat, k ≤ s.size ∧ i = .int .i64 k ∧ Hid (wr.ownsRow w.heap.size 2 1 (.slice (some ⟨w.heap.size, 0, none⟩) 8 8) 8 ((cntL (s.data.toList.take k)).map (Value.int .i64))) ∧ Hid (Below w.heap.size w wr)) (fun i _ => s.size - (intOf i).toNat)
  case atStart => exact ⟨0, Nat.zero_le _, rfl, HO0, hidv hb0⟩
  case round =>
    obtain ⟨k, hk, rfl, hown, hb⟩ := hrel
    have hlk : (s.data.toList.take k).length ≤ 24 := Nat.le_trans (List.length_take_le _ _) (by omega)
    by_cases hlt : k < s.size
    · obtain ⟨j, hj⟩ : ∃ j, kindN s[k] = j := ⟨_, rfl⟩
      obtain ⟨q, hq⟩ : ∃ q, (s.data.toList.take k).countP (fun c => kindN c == j) = q := ⟨_, rfl⟩
      have hq24 : q ≤ 24 := by rw [← hq]; exact countP_le hlk j
      have hnext : ∀ hj8 : j < 8, cntL (s.data.toList.take (k + 1)) = (cntL (s.data.toList.take k)).set j ((q : Int) + 1) := by
        intro hj8
        rw [List.take_succ_eq_append_getElem (by simpa using hlt)]
        have h1 := cntL_snoc (s.data.toList.take k) s[k] (by rw [hj]; exact hj8)
        rw [hj, hq] at h1
        exact h1
      have hat : ∀ hj8 : j < 8, wr.cell? ⟨w.heap.size, j, none⟩ = some (.int .i64 (q : Int)) := by
        intro hj8
        rw [hown.out.cellAt j (by omega), List.getElem?_map, cntL_at _ _ hj8, hq]
        rfl
      have hf2 : wr.frozen? ⟨w.heap.size, j, none⟩ = false := hown.out.frozenAt j
      have HN := hidv hnext
      have HQ := hidv hq
      clear hnext hq
      rcases term_at hv k hlt with hl | ⟨hl, hu⟩
      · have hlet := symV_letter hl
        have hj4 : j < 4 := by rw [← hj]; exact hlet.2
        have hun := unkI_letter hl
        have hjb : (s[k].toNat : Int) - 97 = (j : Int) := by
          rw [← hj]
          unfold kindN
          rw [hl]
          unfold Wd.isL at hl
          simp at hl
          simp
          omega
        have hb97 : (97 : Int) ≤ s[k].toNat := by omega
        have c2 := hat (by omega)
        have HJ := hidv hj
        have hjw : IntKind.u8.wrap ((s[k].toNat : Int) - 97) = (j : Int) := by
          rw [hjb]
          exact IntWalk.u8_in _ (by omega)
        clear hj hat hlet hl
        go_wp2_with (go_at_call 31; refine (unknown_any s[k] _).mono ?_; rintro e w' ⟨rfl, rfl⟩)
        go_roundw
        case rel =>
          have hst := hown.out.stored j (.int .i64 ((q : Int) + 1))
          refine ⟨k + 1, by omega, by go_num, hidv ?_, hidv (hb.out.setCell (Nat.le_refl _) _)⟩
          rw [HN.out (by omega), List.map_set]
          exact hst.1
        case measure => simp [intOf]; omega
      · obtain ⟨x, hx4, hxu, _, hjx⟩ := symV_unknown hl hu
        have hj8 : j < 8 := by omega
        have c2 := hat hj8
        have hjI : (4 : Int) + (x : Int) = (j : Int) := by omega
        have HJ := hidv hj
        clear hj hat hl hu hjx
        go_wp2_with (go_at_call 31; refine (unknown_any s[k] _).mono ?_; rintro e w' ⟨rfl, rfl⟩)
        go_roundw
        case rel =>
          have hst := hown.out.stored j (.int .i64 ((q : Int) + 1))
          refine ⟨k + 1, by omega, by go_num, hidv ?_, hidv (hb.out.setCell (Nat.le_refl _) _)⟩
          rw [HN.out (by omega), List.map_set]
          exact hst.1
        case measure => simp [intOf]; omega
    · obtain rfl : k = s.size := by omega
      go_wp2
      go_ret
      refine ⟨_, rfl, ?_, hb.out⟩
      have h := hown.out
      rw [List.take_of_length_le (by simp)] at h
      unfold Ints
      rw [cntL_length]
      exact h

end Go.Proofs.Ytgfdcpmjaamhdaa
