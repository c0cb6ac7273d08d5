/-
  Marks in slices of equations (written over; found marked): contracts.
-/
import Derived.Test.YtamhhgcghjhifaaDoorMS
import Derived.Test.YtamhhgcghjhifaaDoorEqR
import Derived.Deep.RegionHeld3
namespace Go.Proofs.YtamhhgcghjhifaaDoor
open Go.RowKit Go
set_option linter.unusedVariables false

def mes (m n : Nat) : List Eqn := (List.range n).map fun i => (mT (m + 2 * i), mT (m + 2 * i + 1))
theorem mes_length (m n : Nat) : (mes m n).length = n := by simp [mes]
theorem mes_succ (m n : Nat) : mes m (n + 1) = mes m n ++ [(mT (m + 2 * n), mT (m + 2 * n + 1))] := by simp [mes, List.range_succ]
theorem mes_get {m n i : Nat} (h : i < (mes m n).length) : (mes m n)[i] = (mT (m + 2 * i), mT (m + 2 * i + 1)) := by simp [mes]
theorem set_mes (es : List Eqn) (m k : Nat) (h : k < es.length) :
    ((flatE (mes m k ++ es.drop k)).set (k * 2) (.string (mT (m + 2 * k)))).set (k * 2 + 1) (.string (mT (m + 2 * k + 1))) = flatE (mes m (k + 1) ++ es.drop (k + 1)) := by
  have hf : (flatE (mes m k)).length = k * 2 := by rw [flatE_length, mes_length]
  rw [flatE_app, List.set_append_right _ _ (by omega), List.set_append_right _ _ (by omega), hf, Nat.sub_self, show k * 2 + 1 - k * 2 = 1 by omega]
  rw [List.drop_eq_getElem_cons h, mes_succ, flatE_app, flatE_app, List.append_assoc]
  rfl

set_option maxRecDepth 100000 in
set_option maxHeartbeats 1600000 in
theorem markEqns_any (v : Value) (es : List Eqn) (base m : Nat) (w : World) (hv : Eqns w base v es) (hm : 1 ≤ m) (hb : m + 2 * es.length ≤ 3000000) :
    Calls Tryd.prog 12 #[v, .int .i64 (m : Int)] w fun e w' => e = .returned (.int .i64 (m + 2 * es.length : Nat)) ∧ Eqns w' base v (mes m es.length) ∧ w.grownBy w' v.ownBlock := by
  have hv' : w.ownsRow base 42 2 v es.length (flatE es) := hv
  obtain ⟨n, hn⟩ : ∃ n, es.length = n := ⟨_, rfl⟩
  have m0 : ∀ k, k < n → ∀ wx, Calls Tryd.prog 25 #[.int .i64 ((m : Int) + 2 * (k : Int))] wx fun e w' => e = .returned (.string (mT (m + 2 * k))) ∧ Below wx.heap.size wx w' := by
    intro k hk wx
    have := markText_any (m + 2 * k) wx (by omega) (by omega)
    rw [show (((m + 2 * k : Nat)) : Int) = (m : Int) + 2 * (k : Int) by omega] at this
    exact this
  have M0 := hidv m0
  clear m0
  have m1 : ∀ k, k < n → ∀ wx, Calls Tryd.prog 25 #[.int .i64 ((m : Int) + 2 * (k : Int) + 1)] wx fun e w' => e = .returned (.string (mT (m + 2 * k + 1))) ∧ Below wx.heap.size wx w' := by
    intro k hk wx
    have := markText_any (m + 2 * k + 1) wx (by omega) (by omega)
    rw [show (((m + 2 * k + 1 : Nat)) : Int) = (m : Int) + 2 * (k : Int) + 1 by omega] at this
    exact this
  have M1 := hidv m1
  clear m1
  rw [hn] at hv' hb ⊢
  have HN := hidv hn
  clear hn hv
  rcases hv'.2 with ⟨rfl, h0⟩ | ⟨g, cap, cur, rfl, hbb, hg, hnc, hcm, hs, ht⟩
  · subst h0
    have e1 : es = [] := List.eq_nil_of_length_eq_zero HN.out
    subst e1
    clear M1 HN M0
    go_enter Tryd.func12, Tryd.ntmps12
    go_wp2
    refine wp_loop_rounds 1 ?_
    rw [rounds_succ]
    go_wp2
    go_ret
    exact ⟨by simp, hv', World.grownBy.refl _ _⟩
  · have HV := hidv hv'
    have hnm : n ≤ 3000000 := by omega
    clear hbb hg hnc hcm hs ht hv'
    go_enter Tryd.func12, Tryd.ntmps12
    go_wp2
    go_loopw [1, 5] (fun q i wr => ∃ k : Nat, k ≤ n ∧ i = .int .i64 (k : Int) ∧ q = .int .i64 ((m : Int) + 2 * (k : Int)) ∧ Hid (wr.ownsRow base 42 2 (.slice (some ⟨g, 0, none⟩) n cap) n (flatE (mes m k ++ es.drop k))) ∧ Hid (w.grownBy wr (some g))) (fun _ i _ => n - (intOf i).toNat)
    case atStart => exact ⟨0, Nat.zero_le _, rfl, by simp, hidv (by simpa [mes] using HV.out), hidv (World.grownBy.refl _ _)⟩
    case round =>
      obtain ⟨k, hk, rfl, rfl, hown, hgr⟩ := hrel
      by_cases hlt : k < n
      · have hlr : (flatE (mes m k ++ es.drop k)).length = n * 2 := by
          have := HN.out
          rw [flatE_length, List.length_append, mes_length, List.length_drop]; omega
        have HLR := hidv hlr
        have hset := set_mes es m k (by have := HN.out; omega)
        have HSET := hidv hset
        clear hset hlr
        go_wp2_with fail
        refine (M0.out k hlt _).mono ?_
        rintro e w1 ⟨rfl, hb1⟩
        have hown1 := hown.out.kept (row := none) ⟨hb1.os, hb1.tape, hb1.output, hb1.size, fun k hk _ => hb1.block k hk⟩ (.inr (by simp [Value.ownBlock]))
        have HST1 := hidv (hown1.stored (k * 2) (.string (mT (m + 2 * k))))
        obtain ⟨z0, c0⟩ : ∃ z, w1.cell? ⟨g, k * 2, none⟩ = some z := by
          rw [hown1.cellAt (k * 2) (by omega), List.getElem?_eq_getElem (by rw [HLR.out]; omega)]
          exact ⟨_, rfl⟩
        have f0 : w1.frozen? ⟨g, k * 2, none⟩ = false := hown1.frozenAt _
        have HG1 := hidv (grown_trans hgr.out (grown_below (row := some g) hb1))
        clear hown1 hb1
        go_wp2_with fail
        refine (M1.out k hlt _).mono ?_
        rintro e w2 ⟨rfl, hb2⟩
        have hown2 := HST1.out.1.kept (row := none) ⟨hb2.os, hb2.tape, hb2.output, hb2.size, fun k hk _ => hb2.block k hk⟩ (.inr (by simp [Value.ownBlock]))
        have HST := hidv (hown2.stored (k * 2 + 1) (.string (mT (m + 2 * k + 1))))
        obtain ⟨z1, c1⟩ : ∃ z, w2.cell? ⟨g, k * 2 + 1, none⟩ = some z := by
          rw [hown2.cellAt (k * 2 + 1) (by omega), List.getElem?_eq_getElem (by rw [List.length_set, HLR.out]; omega)]
          exact ⟨_, rfl⟩
        have f1 : w2.frozen? ⟨g, k * 2 + 1, none⟩ = false := hown2.frozenAt _
        have HG := hidv (grown_trans HG1.out (grown_trans HST1.out.2 (grown_trans (grown_below hb2) (grown_at w2 g (k * 2 + 1) (.string (mT (m + 2 * k + 1)))))))
        clear hown2 hb2
        go_wp2_with fail
        go_roundw
        case rel =>
          refine ⟨k + 1, by omega, by go_num, by go_num, hidv ?_, HG⟩
          rw [← HSET.out]
          exact HST.out.1
        case measure => simp [intOf]; omega
      · obtain rfl : k = n := by omega
        go_wp2_with fail
        go_ret
        refine ⟨by simp, ?_, hgr.out⟩
        have h := hown.out
        rw [List.drop_eq_nil_of_le (by have := HN.out; omega), List.append_nil] at h
        unfold Eqns
        rw [mes_length]
        exact h

set_option maxRecDepth 100000 in
set_option maxHeartbeats 1600000 in
theorem heldEqns_any (v : Value) (n B m : Nat) (w : World) (hv : ERow w B v (mes m n)) (hB : B ≤ w.heap.size) (hm : 1 ≤ m) (hb : m + 2 * n ≤ 3000000) :
    Calls Tryd.prog 13 #[v, .int .i64 (m : Int)] w fun e w' => e = .returned (.int .i64 (m + 2 * n : Nat)) ∧ Below w.heap.size w w' := by
  obtain ⟨A, c, rfl, hA⟩ := hv
  rw [mes_length]
  have m0 : ∀ k, k < n → ∀ wx, Calls Tryd.prog 25 #[.int .i64 ((m : Int) + 2 * (k : Int))] wx fun e w' => e = .returned (.string (mT (m + 2 * k))) ∧ Below wx.heap.size wx w' := by
    intro k hk wx
    have := markText_any (m + 2 * k) wx (by omega) (by omega)
    rw [show (((m + 2 * k : Nat)) : Int) = (m : Int) + 2 * (k : Int) by omega] at this
    exact this
  have M0 := hidv m0
  clear m0
  have m1 : ∀ k, k < n → ∀ wx, Calls Tryd.prog 25 #[.int .i64 ((m : Int) + 2 * (k : Int) + 1)] wx fun e w' => e = .returned (.string (mT (m + 2 * k + 1))) ∧ Below wx.heap.size wx w' := by
    intro k hk wx
    have := markText_any (m + 2 * k + 1) wx (by omega) (by omega)
    rw [show (((m + 2 * k + 1 : Nat)) : Int) = (m : Int) + 2 * (k : Int) + 1 by omega] at this
    exact this
  have M1 := hidv m1
  have HA := hidv hA
  have hnm : n ≤ 3000000 := by omega
  clear m1 hA
  go_enter Tryd.func13, Tryd.ntmps13
  go_wp2
  go_loopw [1, 5] (fun q i wr => ∃ k : Nat, k ≤ n ∧ i = .int .i64 (k : Int) ∧ q = .int .i64 ((m : Int) + 2 * (k : Int)) ∧ Hid (Below w.heap.size w wr)) (fun _ i _ => n - (intOf i).toNat)
  case atStart => exact ⟨0, Nat.zero_le _, rfl, by simp, hidv (Below.refl _ _)⟩
  case round =>
    obtain ⟨k, hk, rfl, rfl, hbe⟩ := hrel
    by_cases hlt : k < n
    · obtain ⟨g, o, rfl, hg, hc⟩ := HA.out (by rw [mes_length]; omega)
      have hc1 := hc k (by rw [mes_length]; exact hlt)
      rw [mes_get] at hc1
      dsimp only at hc1
      obtain ⟨x, hx⟩ : ∃ x, mT (m + 2 * k + 1) = x := ⟨_, rfl⟩
      have hcall := M1.out k hlt
      rw [hx] at hc1 hcall
      obtain ⟨x0, hx0⟩ : ∃ x, mT (m + 2 * k) = x := ⟨_, rfl⟩
      have hcall0 := M0.out k hlt
      rw [hx0] at hc1 hcall0
      have HC0 := hidv hcall0
      have HC := hidv hcall
      have hS : ∀ w', Below w.heap.size w w' → w'.cell? ⟨g, o + k * 2, none⟩ = some (.string x0) ∧ w'.cell? ⟨g, o + k * 2 + 1, none⟩ = some (.string x) ∧ Below w.heap.size w w' := fun w' hw => ⟨(hw.cell (p := ⟨g, _, none⟩) (by show g < _; omega)).trans hc1.1, (hw.cell (p := ⟨g, _, none⟩) (by show g < _; omega)).trans hc1.2, hw⟩
      have HS := hidv hS
      have hb' := hbe.out
      clear hx hx0 hc hc1 hcall hcall0 hS
      go_wp2_with fail
      go_region_held3 (fun w' => w'.cell? ⟨g, o + k * 2, none⟩ = some (.string x0) ∧ Below w.heap.size w w') (first | exact ⟨(HS.out _ (Below.drew hb')).1, Below.drew hb'⟩ | exact ⟨(HS.out _ (below_on (Below.drew hb') hbw)).1, below_on (Below.drew hb') hbw⟩) (first | (go_at_call 25; refine (HC0.out _).mono ?_; rintro e w1 ⟨rfl, hbw⟩))
      go_wp2
      have hb1 : Below w.heap.size w w1 := below_on (Below.drew hb') hbw
      clear hbw
      go_region_held3 (fun w' => w'.cell? ⟨g, o + k * 2 + 1, none⟩ = some (.string x) ∧ Below w.heap.size w w') (first | exact (HS.out _ (Below.drew hb1)).2 | exact (HS.out _ (below_on (Below.drew hb1) hbw)).2) (first | (go_at_call 25; refine (HC.out _).mono ?_; rintro e w2 ⟨rfl, hbw⟩))
      go_wp2
      have hbe : Below w.heap.size w w2 := below_on (Below.drew hb1) hbw
      go_roundw
      case rel => exact ⟨k + 1, by omega, by go_num, by go_num, hidv hbe⟩
      case measure => simp [intOf]; omega
    · obtain rfl : k = n := by omega
      go_wp2
      go_ret
      exact ⟨by simp, hbe.out⟩

end Go.Proofs.YtamhhgcghjhifaaDoor
