/-
  Whether powers, alone, may be a family: the model's l04Family: a contract.
-/
import Derived.Test.YthomkmbobaehkaaHasI
import Derived.Test.YthomkmbobaehkaaRootQ
import Derived.Deep.QuietTactic
import Derived.BigQuiet
namespace Go.Proofs.Ythomkmbobaehkaa
open Go.RowKit Go
set_option linter.unusedVariables false

/-- Powers, alone, may be a family. -/
def famL (r t : List UInt8) (f : Int) : Bool := Wd.wordB r && (!(r.isEmpty) && (decide (Wd.rootLen r = r.length) && (decide (t.length < r.length) && (t.isPrefixOf r && (decide (0 ≤ f) && decide (f ≤ 60))))))
theorem famL_word {r t : List UInt8} {f : Int} (h : famL r t f = true) : Wd.wordB r = true ∧ 0 < r.length ∧ t.length < r.length ∧ t = r.take t.length := by
  unfold famL at h
  simp only [Bool.and_eq_true, decide_eq_true_eq, Bool.not_eq_true'] at h
  obtain ⟨h1, h2, _, h4, h5, _⟩ := h
  refine ⟨h1, by omega, h4, ?_⟩
  rw [List.isPrefixOf_iff_prefix] at h5
  exact (List.prefix_iff_eq_take.1 h5)

theorem isEmpty_list (r : ByteArray) : r.toList.isEmpty = r.data.toList.isEmpty := by rw [ByteArray.toList_eq]
theorem root_eq (r : ByteArray) (h0 : 0 < r.size) : ((r.extract 0 (Wd.rootLen r.data.toList)).toList == r.toList) = decide (Wd.rootLen r.data.toList = r.data.toList.length) := by
  have hb := rootLen_bounds r h0
  obtain ⟨e1, e2⟩ := extract_list r _ hb.2
  have hl : r.data.toList.length = r.size := by simp
  rw [ByteArray.toList_eq, ByteArray.toList_eq, e1, Bool.eq_iff_iff]
  simp only [beq_iff_eq, decide_eq_true_eq]
  constructor
  · intro h
    have := congrArg List.length h
    rw [List.length_take] at this
    omega
  · intro h
    rw [h, List.take_of_length_le (Nat.le_refl _)]
theorem pref_eq (r t : ByteArray) (h : t.size ≤ r.size) : ((r.extract 0 t.size).toList == t.toList) = t.data.toList.isPrefixOf r.data.toList := by
  obtain ⟨e1, e2⟩ := extract_list r _ h
  have hl : t.data.toList.length = t.size := by simp
  rw [ByteArray.toList_eq, ByteArray.toList_eq, e1, Bool.eq_iff_iff, List.isPrefixOf_iff_prefix, List.prefix_iff_eq_take, hl]
  simp only [beq_iff_eq]
  exact ⟨fun h => h.symm, fun h => h.symm⟩

set_option maxRecDepth 100000 in
set_option maxHeartbeats 1600000 in
theorem specFam_any (b : Nat) (r t : ByteArray) (f : Int) (w : World) (c0 : w.cell? ⟨b, 0, none⟩ = some (.string r)) (c1 : w.cell? ⟨b, 1, none⟩ = some (.string t)) (c2 : w.cell? ⟨b, 2, none⟩ = some (.int .i64 f)) (hr : r.size ≤ maxLen) (ht : t.size ≤ maxLen) :
    Calls Try.prog 73 #[.pointer (some ⟨b, 0, none⟩)] w fun e w' => e = .returned (.bool (famL r.data.toList t.data.toList f)) ∧ ∃ m, w' = w.drewN m := by
  have hbl : b < w.heap.size := World.block_lt_of_cell? _ _ c0
  have HS := hidv (fun W (hW : Below w.heap.size w W) => (show W.cell? ⟨b, 0, none⟩ = some (.string r) ∧ W.cell? ⟨b, 1, none⟩ = some (.string t) ∧ W.cell? ⟨b, 2, none⟩ = some (.int .i64 f) ∧ Below w.heap.size w W from ⟨(hW.cell (p := ⟨b, 0, none⟩) hbl).trans c0, (hW.cell (p := ⟨b, 1, none⟩) hbl).trans c1, (hW.cell (p := ⟨b, 2, none⟩) hbl).trans c2, hW⟩))
  have c3 := fun W => specWord_any r W hr
  unfold famL
  rw [show t.data.toList.length = t.size by simp, show r.data.toList.length = r.size by simp]
  have hlen : r.data.toList.length = r.size := by simp
  have hie := isEmpty_list r
  cases h1 : Wd.wordB r.data.toList
  · rw [h1] at c3
    rw [Bool.false_and]
    have C3 := hidv c3
    clear c3 h1 hie
    go_enter Try.func73, Try.ntmps73
    go_wp2_with fail
    go_quiet (first | (go_at_call 83; exact Calls.quiet_of_same ((C3.out _).mono fun _ _ h => ⟨h.1, h.2.symm⟩)))
    go_wp2
    go_ret
    exact ⟨rfl, _, rfl⟩
  · have h60 := Wd.wordB_len h1
    rw [hlen] at h60
    rw [h1] at c3
    rw [Bool.true_and]
    have C3 := hidv c3
    clear c3 h1
    cases h2 : r.data.toList.isEmpty
    · rw [h2] at hie
      have h0 : 0 < r.size := by
        rcases Nat.eq_zero_or_pos r.size with h | h
        · rw [← hlen, List.length_eq_zero_iff] at h; rw [h] at h2; cases h2
        · exact h
      have c4 := fun W => specRootQ_any r W (by omega) h0
      have hre := root_eq r h0
      rw [hlen] at hre
      obtain ⟨y, hy⟩ : ∃ y, r.extract 0 (Wd.rootLen r.data.toList) = y := ⟨_, rfl⟩
      rw [hy] at c4 hre
      have C4 := hidv c4
      rw [Bool.not_false, Bool.true_and]
      clear c4 h2 hy
      cases h3 : decide (Wd.rootLen r.data.toList = r.size)
      · rw [h3] at hre
        rw [Bool.false_and]
        clear h3
        go_enter Try.func73, Try.ntmps73
        go_wp2_with fail
        go_quiet (first | (go_at_call 83; exact Calls.quiet_of_same ((C3.out _).mono fun _ _ h => ⟨h.1, h.2.symm⟩)) | (go_at_call 107; exact Calls.quiet_of (C4.out _)))
        go_wp2
        go_ret
        exact ⟨rfl, _, rfl⟩
      · rw [h3] at hre
        rw [Bool.true_and]
        clear h3
        by_cases h4 : t.size < r.size
        · have hpe := pref_eq r t (by omega)
          have i1 : (0 : Int) ≤ (t.size : Int) := by omega
          have i2 : (t.size : Int) ≤ (r.size : Int) := by omega
          have i3 : t.size ≤ r.size := by omega
          rw [decide_eq_true h4, Bool.true_and]
          cases h5 : t.data.toList.isPrefixOf r.data.toList
          · rw [h5] at hpe
            rw [Bool.false_and]
            clear h5
            go_enter Try.func73, Try.ntmps73
            go_wp2_with fail
            go_quiet (first | (go_at_call 83; exact Calls.quiet_of_same ((C3.out _).mono fun _ _ h => ⟨h.1, h.2.symm⟩)) | (go_at_call 107; exact Calls.quiet_of (C4.out _)))
            go_wp2
            go_ret
            exact ⟨rfl, _, rfl⟩
          · rw [h5] at hpe
            rw [Bool.true_and]
            clear h5
            obtain ⟨d, hd⟩ : ∃ d, (decide (0 ≤ f) && decide (f ≤ 60)) = d := ⟨_, rfl⟩
            have C5 := hidv (fun W => l00In_any f 0 60 W d hd)
            rw [hd]
            clear hd
            go_enter Try.func73, Try.ntmps73
            go_wp2_with fail
            go_quiet (first | (go_at_call 83; exact Calls.quiet_of_same ((C3.out _).mono fun _ _ h => ⟨h.1, h.2.symm⟩)) | (go_at_call 107; exact Calls.quiet_of (C4.out _)) | (go_at_call 68; exact Calls.quiet_of_same ((C5.out _).mono fun _ _ h => ⟨h.1, h.2.symm⟩)))
            go_wp2
            go_ret
            exact ⟨rfl, _, rfl⟩
        · rw [decide_eq_false h4, Bool.false_and]
          go_enter Try.func73, Try.ntmps73
          go_wp2_with fail
          go_quiet (first | (go_at_call 83; exact Calls.quiet_of_same ((C3.out _).mono fun _ _ h => ⟨h.1, h.2.symm⟩)) | (go_at_call 107; exact Calls.quiet_of (C4.out _)))
          go_wp2
          go_ret
          exact ⟨rfl, _, rfl⟩
    · rw [h2] at hie
      rw [Bool.not_true, Bool.false_and]
      clear h2
      go_enter Try.func73, Try.ntmps73
      go_wp2_with fail
      go_quiet (first | (go_at_call 83; exact Calls.quiet_of_same ((C3.out _).mono fun _ _ h => ⟨h.1, h.2.symm⟩)))
      go_wp2
      go_ret
      exact ⟨rfl, _, rfl⟩

end Go.Proofs.Ythomkmbobaehkaa
