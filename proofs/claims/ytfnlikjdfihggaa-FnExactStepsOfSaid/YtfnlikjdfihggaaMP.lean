/-
  Marks in slices of steps (written over; found marked): contracts.
-/
import Derived.Test.YtfnlikjdfihggaaMS
import Derived.Test.YtfnlikjdfihggaaStpR
import Derived.Deep.RegionHeld3
namespace Go.Proofs.Ytfnlikjdfihggaa
open Go.RowKit Go
set_option linter.unusedVariables false

def mps (m n : Nat) : List Stp := (List.range n).map fun i => (((m + 2 * i : Nat) : Int), mT (m + 2 * i + 1))
theorem mps_length (m n : Nat) : (mps m n).length = n := by simp [mps]
theorem mps_succ (m n : Nat) : mps m (n + 1) = mps m n ++ [(((m + 2 * n : Nat) : Int), mT (m + 2 * n + 1))] := by simp [mps, List.range_succ]
theorem mps_get {m n i : Nat} (h : i < (mps m n).length) : (mps m n)[i] = (((m + 2 * i : Nat) : Int), mT (m + 2 * i + 1)) := by simp [mps]
theorem set_mps (es : List Stp) (m k : Nat) (h : k < es.length) :
    ((flatP (mps m k ++ es.drop k)).set (k * 2) (.int .i64 ((m + 2 * k : Nat) : Int))).set (k * 2 + 1) (.string (mT (m + 2 * k + 1))) = flatP (mps m (k + 1) ++ es.drop (k + 1)) := by
  have hf : (flatP (mps m k)).length = k * 2 := by rw [flatP_length, mps_length]
  rw [flatP_app, List.set_append_right _ _ (by omega), List.set_append_right _ _ (by omega), hf, Nat.sub_self, show k * 2 + 1 - k * 2 = 1 by omega]
  rw [List.drop_eq_getElem_cons h, mps_succ, flatP_app, flatP_app, List.append_assoc]
  rfl

set_option maxRecDepth 100000 in
set_option maxHeartbeats 1600000 in
theorem markStps_any (v : Value) (es : List Stp) (base m : Nat) (w : World) (hv : Stps w base v es) (hm : 1 ≤ m) (hb : m + 2 * es.length ≤ 1000000) :
    Calls Try.prog 14 #[v, .int .i64 (m : Int)] w fun e w' => e = .returned (.int .i64 (m + 2 * es.length : Nat)) ∧ Stps w' base v (mps m es.length) ∧ w.grownBy w' v.ownBlock := by
  have hv' : w.ownsRow base 37 2 v es.length (flatP es) := hv
  obtain ⟨n, hn⟩ : ∃ n, es.length = n := ⟨_, rfl⟩
  have m1 : ∀ k, k < n → ∀ wx, Calls Try.prog 38 #[.int .i64 ((m : Int) + 2 * (k : Int) + 1)] wx fun e w' => e = .returned (.string (mT (m + 2 * k + 1))) ∧ Below wx.heap.size wx w' := by
    intro k hk wx
    have := markText_any (m + 2 * k + 1) wx (by omega) (by omega)
    rw [show (((m + 2 * k + 1 : Nat)) : Int) = (m : Int) + 2 * (k : Int) + 1 by omega] at this
    exact this
  have M1 := hidv m1
  clear m1
  rw [hn] at hv' hb ⊢
  have HN := hidv hn
  clear hn hv
  rcases hv'.2 with ⟨rfl, h0⟩ | ⟨g, cap, cur, rfl, hbb, hg, hnc, hcm, hs, ht⟩
  · subst h0
    have e1 : es = [] := List.eq_nil_of_length_eq_zero HN.out
    subst e1
    clear M1 HN
    go_enter Try.func14, Try.ntmps14
    go_wp2
    refine wp_loop_rounds 1 ?_
    rw [rounds_succ]
    go_wp2
    go_ret
    exact ⟨by simp, hv', World.grownBy.refl _ _⟩
  · have HV := hidv hv'
    have hnm : n ≤ 1000000 := by omega
    clear hbb hg hnc hcm hs ht hv'
    go_enter Try.func14, Try.ntmps14
    go_wp2
    go_loopw [1, 5] (fun q i wr => ∃ k : Nat, k ≤ n ∧ i = .int .i64 (k : Int) ∧ q = .int .i64 ((m : Int) + 2 * (k : Int)) ∧ Hid (wr.ownsRow base 37 2 (.slice (some ⟨g, 0, none⟩) n cap) n (flatP (mps m k ++ es.drop k))) ∧ Hid (w.grownBy wr (some g))) (fun _ i _ => n - (intOf i).toNat)
    case atStart => exact ⟨0, Nat.zero_le _, rfl, by simp, hidv (by simpa [mps] using HV.out), hidv (World.grownBy.refl _ _)⟩
    case round =>
      obtain ⟨k, hk, rfl, rfl, hown, hgr⟩ := hrel
      by_cases hlt : k < n
      · have hlr : (flatP (mps m k ++ es.drop k)).length = n * 2 := by
          have := HN.out
          rw [flatP_length, List.length_append, mps_length, List.length_drop]; omega
        have HLR := hidv hlr
        have hset := set_mps es m k (by have := HN.out; omega)
        have HSET := hidv hset
        clear hset hlr
        have hst1 := hown.out.stored (k * 2) (.int .i64 ((m + 2 * k : Nat) : Int))
        have HST1 := hidv hst1
        obtain ⟨z0, c0⟩ : ∃ z, wr.cell? ⟨g, k * 2, none⟩ = some z := by
          rw [hown.out.cellAt (k * 2) (by omega), List.getElem?_eq_getElem (by rw [HLR.out]; omega)]
          exact ⟨_, rfl⟩
        have f0 : wr.frozen? ⟨g, k * 2, none⟩ = false := hown.out.frozenAt _
        rw [show (((m + 2 * k : Nat)) : Int) = (m : Int) + 2 * (k : Int) by omega] at HST1
        clear hst1
        go_wp2_with fail
        refine (M1.out k hlt _).mono ?_
        rintro e w2 ⟨rfl, hb2⟩
        have hown2 := HST1.out.1.kept (row := none) ⟨hb2.os, hb2.tape, hb2.output, hb2.size, fun k hk _ => hb2.block k hk⟩ (.inr (by simp [Value.ownBlock]))
        have HST := hidv (hown2.stored (k * 2 + 1) (.string (mT (m + 2 * k + 1))))
        obtain ⟨z1, c1⟩ : ∃ z, w2.cell? ⟨g, k * 2 + 1, none⟩ = some z := by
          rw [hown2.cellAt (k * 2 + 1) (by omega), List.getElem?_eq_getElem (by rw [List.length_set, HLR.out]; omega)]
          exact ⟨_, rfl⟩
        have f1 : w2.frozen? ⟨g, k * 2 + 1, none⟩ = false := hown2.frozenAt _
        have HG := hidv (grown_trans hgr.out (grown_trans HST1.out.2 (grown_trans (grown_below hb2) (grown_at w2 g (k * 2 + 1) (.string (mT (m + 2 * k + 1)))))))
        clear hown2 hb2
        go_wp2_with fail
        go_roundw
        case rel =>
          refine ⟨k + 1, by omega, by go_num, by go_num, hidv ?_, HG⟩
          rw [← HSET.out]
          exact HST.out.1
        case measure => simp [intOf]; omega
      · obtain rfl : k = n := by omega
        go_wp2_with fail
        go_ret
        refine ⟨by simp, ?_, hgr.out⟩
        have h := hown.out
        rw [List.drop_eq_nil_of_le (by have := HN.out; omega), List.append_nil] at h
        unfold Stps
        rw [mps_length]
        exact h

set_option maxRecDepth 100000 in
set_option maxHeartbeats 1600000 in
theorem heldStps_any (v : Value) (n B m : Nat) (w : World) (hv : SRow w B v (mps m n)) (hB : B ≤ w.heap.size) (hm : 1 ≤ m) (hb : m + 2 * n ≤ 1000000) :
    Calls Try.prog 15 #[v, .int .i64 (m : Int)] w fun e w' => e = .returned (.int .i64 (m + 2 * n : Nat)) ∧ Below w.heap.size w w' := by
  obtain ⟨A, c, rfl, hA⟩ := hv
  rw [mps_length]
  have m1 : ∀ k, k < n → ∀ wx, Calls Try.prog 38 #[.int .i64 ((m : Int) + 2 * (k : Int) + 1)] wx fun e w' => e = .returned (.string (mT (m + 2 * k + 1))) ∧ Below wx.heap.size wx w' := by
    intro k hk wx
    have := markText_any (m + 2 * k + 1) wx (by omega) (by omega)
    rw [show (((m + 2 * k + 1 : Nat)) : Int) = (m : Int) + 2 * (k : Int) + 1 by omega] at this
    exact this
  have M1 := hidv m1
  have HA := hidv hA
  have hnm : n ≤ 1000000 := by omega
  clear m1 hA
  go_enter Try.func15, Try.ntmps15
  go_wp2
  go_loopw [1, 5] (fun q i wr => ∃ k : Nat, k ≤ n ∧ i = .int .i64 (k : Int) ∧ q = .int .i64 ((m : Int) + 2 * (k : Int)) ∧ Hid (Below w.heap.size w wr)) (fun _ i _ => n - (intOf i).toNat)
  case atStart => exact ⟨0, Nat.zero_le _, rfl, by simp, hidv (Below.refl _ _)⟩
  case round =>
    obtain ⟨k, hk, rfl, rfl, hbe⟩ := hrel
    by_cases hlt : k < n
    · obtain ⟨g, o, rfl, hg, hc⟩ := HA.out (by rw [mps_length]; omega)
      have hc1 := hc k (by rw [mps_length]; exact hlt)
      rw [mps_get] at hc1
      dsimp only at hc1
      obtain ⟨x, hx⟩ : ∃ x, mT (m + 2 * k + 1) = x := ⟨_, rfl⟩
      have hcall := M1.out k hlt
      rw [hx] at hc1 hcall
      have HC := hidv hcall
      have hS : ∀ w', Below w.heap.size w w' → w'.cell? ⟨g, o + k * 2, none⟩ = some (.int .i64 ((m + 2 * k : Nat) : Int)) ∧ w'.cell? ⟨g, o + k * 2 + 1, none⟩ = some (.string x) ∧ Below w.heap.size w w' := fun w' hw => ⟨(hw.cell (p := ⟨g, _, none⟩) (by show g < _; omega)).trans hc1.1, (hw.cell (p := ⟨g, _, none⟩) (by show g < _; omega)).trans hc1.2, hw⟩
      have HS := hidv hS
      have hb' := hbe.out
      have c0 := (hS _ hb').1
      clear hx hc hc1 hcall hS
      go_wp2_with fail
      go_region_held3 (fun w' => w'.cell? ⟨g, o + k * 2 + 1, none⟩ = some (.string x) ∧ Below w.heap.size w w') (first | exact (HS.out _ (Below.drew hb')).2 | exact (HS.out _ (below_on (Below.drew hb') hbw)).2) (first | (go_at_call 38; refine (HC.out _).mono ?_; rintro e w2 ⟨rfl, hbw⟩))
      go_wp2
      have hbe : Below w.heap.size w w2 := below_on (Below.drew hb') hbw
      go_roundw
      case rel => exact ⟨k + 1, by omega, by go_num, by go_num, hidv hbe⟩
      case measure => simp [intOf]; omega
    · obtain rfl : k = n := by omega
      go_wp2
      go_ret
      exact ⟨by simp, hbe.out⟩

end Go.Proofs.Ytfnlikjdfihggaa
