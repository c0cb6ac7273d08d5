/-
  Marks in slices of pieces (written over; found marked): contracts.
-/
import Derived.Test.YthomkmbobaehkaaMT
import Derived.Test.YthomkmbobaehkaaFy
import Derived.Test.YthomkmbobaehkaaStr
import Derived.Deep.RegionHeld3
namespace Go.Proofs.Ythomkmbobaehkaa
open Go.RowKit Go
set_option linter.unusedVariables false

def mqs (m n : Nat) : List Pc := (List.range n).map fun i => (mT (m + 3 * i), ((m + 3 * i + 1 : Nat) : Int), ((m + 3 * i + 2 : Nat) : Int))
theorem mqs_length (m n : Nat) : (mqs m n).length = n := by simp [mqs]
theorem mqs_succ (m n : Nat) : mqs m (n + 1) = mqs m n ++ [(mT (m + 3 * n), ((m + 3 * n + 1 : Nat) : Int), ((m + 3 * n + 2 : Nat) : Int))] := by simp [mqs, List.range_succ]
theorem mqs_get {m n i : Nat} (h : i < (mqs m n).length) : (mqs m n)[i] = (mT (m + 3 * i), ((m + 3 * i + 1 : Nat) : Int), ((m + 3 * i + 2 : Nat) : Int)) := by simp [mqs]
theorem set_mqs (es : List Pc) (m k : Nat) (h : k < es.length) :
    (((flatQ (mqs m k ++ es.drop k)).set (k * 3) (.string (mT (m + 3 * k)))).set (k * 3 + 1) (.int .i64 ((m + 3 * k + 1 : Nat) : Int))).set (k * 3 + 2) (.int .i64 ((m + 3 * k + 2 : Nat) : Int)) = flatQ (mqs m (k + 1) ++ es.drop (k + 1)) := by
  have hf : (flatQ (mqs m k)).length = k * 3 := by rw [flatQ_length, mqs_length]
  rw [flatQ_app, List.set_append_right _ _ (by omega), List.set_append_right _ _ (by omega), List.set_append_right _ _ (by omega), hf, Nat.sub_self, show k * 3 + 1 - k * 3 = 1 by omega, show k * 3 + 2 - k * 3 = 2 by omega]
  rw [List.drop_eq_getElem_cons h, mqs_succ, flatQ_app, flatQ_app, List.append_assoc]
  rfl
theorem grown_belowQ {w w' : World} {row : Option Nat} (h : Below w.heap.size w w') : w.grownBy w' row := ⟨h.os, h.tape, h.output, h.size, fun i hi _ => h.block i hi⟩
theorem grown_atQ (w : World) (g j : Nat) (v : Value) : w.grownBy (w.setCell ⟨g, j, none⟩ v) (some g) :=
  ⟨rfl, rfl, rfl, Nat.le_of_eq (by simp [World.setCell]), fun i _ hne => Below.heap_setCell _ _ _ _ (fun e => hne (by rw [e]))⟩

set_option maxRecDepth 100000 in
set_option maxHeartbeats 1600000 in
theorem markPcs_any (v : Value) (es : List Pc) (base m : Nat) (w : World) (hv : Qws w base v es) (hm : 1 ≤ m) (hb : m + 3 * es.length ≤ 8000000) :
    Calls Try.prog 101 #[v, .int .i64 (m : Int)] w fun e w' => e = .returned (.int .i64 (m + 3 * es.length : Nat)) ∧ Qws w' base v (mqs m es.length) ∧ w.grownBy w' v.ownBlock := by
  have hv' : w.ownsRow base 104 3 v es.length (flatQ es) := hv
  obtain ⟨n, hn⟩ : ∃ n, es.length = n := ⟨_, rfl⟩
  have m1 : ∀ k, k < n → ∀ wx, Calls Try.prog 67 #[.int .i64 ((m : Int) + 3 * (k : Int))] wx fun e w' => e = .returned (.string (mT (m + 3 * k))) ∧ Below wx.heap.size wx w' := by
    intro k hk wx
    have := markText_any (m + 3 * k) wx (by omega) (by omega)
    rw [show (((m + 3 * k : Nat)) : Int) = (m : Int) + 3 * (k : Int) by omega] at this
    exact this
  have M1 := hidv m1
  clear m1
  rw [hn] at hv' hb ⊢
  have HN := hidv hn
  clear hn hv
  rcases hv'.2 with ⟨rfl, h0⟩ | ⟨g, cap, cur, rfl, hbb, hg, hnc, hcm, hs, ht⟩
  · subst h0
    have e1 : es = [] := List.eq_nil_of_length_eq_zero HN.out
    subst e1
    clear M1 HN
    go_enter Try.func101, Try.ntmps101
    go_wp2
    refine wp_loop_rounds 1 ?_
    rw [rounds_succ]
    go_wp2
    go_ret
    exact ⟨by simp, hv', World.grownBy.refl _ _⟩
  · have HV := hidv hv'
    have hnm : n ≤ 8000000 := by omega
    clear hbb hg hnc hcm hs ht hv'
    go_enter Try.func101, Try.ntmps101
    go_wp2
    go_loopw [1, 5] (fun q i wr => ∃ k : Nat, k ≤ n ∧ i = .int .i64 (k : Int) ∧ q = .int .i64 ((m : Int) + 3 * (k : Int)) ∧ Hid (wr.ownsRow base 104 3 (.slice (some ⟨g, 0, none⟩) n cap) n (flatQ (mqs m k ++ es.drop k))) ∧ Hid (w.grownBy wr (some g))) (fun _ i _ => n - (intOf i).toNat)
    case atStart => exact ⟨0, Nat.zero_le _, rfl, by simp, hidv (by simpa [mqs] using HV.out), hidv (World.grownBy.refl _ _)⟩
    case round =>
      obtain ⟨k, hk, rfl, rfl, hown, hgr⟩ := hrel
      by_cases hlt : k < n
      · have hlr : (flatQ (mqs m k ++ es.drop k)).length = n * 3 := by
          have := HN.out
          rw [flatQ_length, List.length_append, mqs_length, List.length_drop]; omega
        have HLR := hidv hlr
        have hset := set_mqs es m k (by have := HN.out; omega)
        have HSET := hidv hset
        clear hset hlr
        go_wp2_with fail
        refine (M1.out k hlt _).mono ?_
        rintro e w2 ⟨rfl, hb2⟩
        have hown2 := hown.out.kept (row := none) ⟨hb2.os, hb2.tape, hb2.output, hb2.size, fun k hk _ => hb2.block k hk⟩ (.inr (by simp [Value.ownBlock]))
        have HST1 := hidv (hown2.stored (k * 3) (.string (mT (m + 3 * k))))
        have HST2 := hidv (HST1.out.1.stored (k * 3 + 1) (.int .i64 ((m + 3 * k + 1 : Nat) : Int)))
        have HST := hidv (HST2.out.1.stored (k * 3 + 2) (.int .i64 ((m + 3 * k + 2 : Nat) : Int)))
        rw [show (((m + 3 * k + 1 : Nat)) : Int) = (m : Int) + 3 * (k : Int) + 1 by omega] at HST2 HST
        rw [show (((m + 3 * k + 2 : Nat)) : Int) = (m : Int) + 3 * (k : Int) + 1 + 1 by omega] at HST
        obtain ⟨z0, c0⟩ : ∃ z, w2.cell? ⟨g, k * 3, none⟩ = some z := by
          rw [hown2.cellAt (k * 3) (by omega), List.getElem?_eq_getElem (by rw [HLR.out]; omega)]
          exact ⟨_, rfl⟩
        have f0 : w2.frozen? ⟨g, k * 3, none⟩ = false := hown2.frozenAt _
        obtain ⟨z1, c1⟩ : ∃ z, w2.cell? ⟨g, k * 3 + 1, none⟩ = some z := by
          rw [hown2.cellAt (k * 3 + 1) (by omega), List.getElem?_eq_getElem (by rw [HLR.out]; omega)]
          exact ⟨_, rfl⟩
        have f1 : w2.frozen? ⟨g, k * 3 + 1, none⟩ = false := hown2.frozenAt _
        obtain ⟨z2, c2⟩ : ∃ z, w2.cell? ⟨g, k * 3 + 2, none⟩ = some z := by
          rw [hown2.cellAt (k * 3 + 2) (by omega), List.getElem?_eq_getElem (by rw [HLR.out]; omega)]
          exact ⟨_, rfl⟩
        have f2 : w2.frozen? ⟨g, k * 3 + 2, none⟩ = false := hown2.frozenAt _
        have HG := hidv (grown_trans hgr.out (grown_trans (grown_belowQ hb2) (grown_trans HST1.out.2 (grown_trans HST2.out.2 HST.out.2))))
        clear hown2 hb2
        go_wp2_with fail
        go_roundw
        case rel =>
          refine ⟨k + 1, by omega, by go_num, by go_num, hidv ?_, HG⟩
          rw [← HSET.out, show (((m + 3 * k + 1 : Nat)) : Int) = (m : Int) + 3 * (k : Int) + 1 by omega, show (((m + 3 * k + 2 : Nat)) : Int) = (m : Int) + 3 * (k : Int) + 1 + 1 by omega]
          exact HST.out.1
        case measure => simp [intOf]; omega
      · obtain rfl : k = n := by omega
        go_wp2_with fail
        go_ret
        refine ⟨by simp, ?_, hgr.out⟩
        have h := hown.out
        rw [List.drop_eq_nil_of_le (by have := HN.out; omega), List.append_nil] at h
        unfold Qws
        rw [mqs_length]
        exact h

set_option maxRecDepth 100000 in
set_option maxHeartbeats 1600000 in
theorem heldPcs_any (v : Value) (n B m : Nat) (w : World) (hv : QRow w B v (mqs m n)) (hB : B ≤ w.heap.size) (hm : 1 ≤ m) (hb : m + 3 * n ≤ 8000000) :
    Calls Try.prog 110 #[v, .int .i64 (m : Int)] w fun e w' => e = .returned (.int .i64 (m + 3 * n : Nat)) ∧ Below w.heap.size w w' := by
  obtain ⟨A, c, rfl, hA⟩ := hv
  rw [mqs_length]
  have m1 : ∀ k, k < n → ∀ wx, Calls Try.prog 67 #[.int .i64 ((m : Int) + 3 * (k : Int))] wx fun e w' => e = .returned (.string (mT (m + 3 * k))) ∧ Below wx.heap.size wx w' := by
    intro k hk wx
    have := markText_any (m + 3 * k) wx (by omega) (by omega)
    rw [show (((m + 3 * k : Nat)) : Int) = (m : Int) + 3 * (k : Int) by omega] at this
    exact this
  have M1 := hidv m1
  have HA := hidv hA
  have hnm : n ≤ 8000000 := by omega
  clear m1 hA
  go_enter Try.func110, Try.ntmps110
  go_wp2
  go_loopw [1, 5] (fun q i wr => ∃ k : Nat, k ≤ n ∧ i = .int .i64 (k : Int) ∧ q = .int .i64 ((m : Int) + 3 * (k : Int)) ∧ Hid (Below w.heap.size w wr)) (fun _ i _ => n - (intOf i).toNat)
  case atStart => exact ⟨0, Nat.zero_le _, rfl, by simp, hidv (Below.refl _ _)⟩
  case round =>
    obtain ⟨k, hk, rfl, rfl, hbe⟩ := hrel
    by_cases hlt : k < n
    · obtain ⟨g, o, rfl, hg, hc⟩ := HA.out (by rw [mqs_length]; omega)
      have hc1 := hc k (by rw [mqs_length]; exact hlt)
      rw [mqs_get] at hc1
      dsimp only at hc1
      rw [show (((m + 3 * k + 1 : Nat)) : Int) = (m : Int) + 3 * (k : Int) + 1 by omega, show (((m + 3 * k + 2 : Nat)) : Int) = (m : Int) + 3 * (k : Int) + 1 + 1 by omega] at hc1
      obtain ⟨x, hx⟩ : ∃ x, mT (m + 3 * k) = x := ⟨_, rfl⟩
      have hcall := M1.out k hlt
      rw [hx] at hc1 hcall
      have HC := hidv hcall
      have hS : ∀ w', Below w.heap.size w w' → w'.cell? ⟨g, o + k * 3, none⟩ = some (.string x) ∧ Below w.heap.size w w' := fun w' hw => ⟨(hw.cell (p := ⟨g, _, none⟩) (by show g < _; omega)).trans hc1.1, hw⟩
      have hS2 : ∀ w', Below w.heap.size w w' → w'.cell? ⟨g, o + k * 3 + 1, none⟩ = some (.int .i64 ((m : Int) + 3 * (k : Int) + 1)) ∧ w'.cell? ⟨g, o + k * 3 + 2, none⟩ = some (.int .i64 ((m : Int) + 3 * (k : Int) + 1 + 1)) := fun w' hw => ⟨(hw.cell (p := ⟨g, _, none⟩) (by show g < _; omega)).trans hc1.2.1, (hw.cell (p := ⟨g, _, none⟩) (by show g < _; omega)).trans hc1.2.2⟩
      have HS := hidv hS
      have HS2 := hidv hS2
      have hb' := hbe.out
      clear hx hc hc1 hcall hS hS2
      go_wp2_with fail
      go_region_held3 (fun w' => w'.cell? ⟨g, o + k * 3, none⟩ = some (.string x) ∧ Below w.heap.size w w') (first | exact (HS.out _ (Below.drew hb')) | exact (HS.out _ (below_on (Below.drew hb') hbw))) (first | (go_at_call 67; refine (HC.out _).mono ?_; rintro e w2 ⟨rfl, hbw⟩))
      have hbe : Below w.heap.size w w2 := below_on (Below.drew hb') hbw
      obtain ⟨d1, d2⟩ := HS2.out _ hbe
      go_wp2
      go_roundw
      case rel => exact ⟨k + 1, by omega, by go_num, by go_num, hidv hbe⟩
      case measure => simp [intOf]; omega
    · obtain rfl : k = n := by omega
      go_wp2
      go_ret
      exact ⟨by simp, hbe.out⟩

end Go.Proofs.Ythomkmbobaehkaa
