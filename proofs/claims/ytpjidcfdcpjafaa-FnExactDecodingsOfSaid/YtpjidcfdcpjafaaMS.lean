/-
  Marks in slices of texts (written over; found marked): contracts.
-/
import Derived.Test.YtpjidcfdcpjafaaMT
import Derived.Test.YtpjidcfdcpjafaaStr
import Derived.Test.YtpjidcfdcpjafaaRow2
namespace Go.Proofs.Ytpjidcfdcpjafaa
open Go.RowKit Go
set_option linter.unusedVariables false

def mts (m n : Nat) : List ByteArray := (List.range n).map fun i => mT (m + i)
theorem mts_length (m n : Nat) : (mts m n).length = n := by simp [mts]
theorem mts_succ (m n : Nat) : mts m (n + 1) = mts m n ++ [mT (m + n)] := by simp [mts, List.range_succ]
theorem mts_get {m n i : Nat} (h : i < (mts m n).length) : (mts m n)[i] = mT (m + i) := by simp [mts]
theorem set_mts (xs : List ByteArray) (m k : Nat) (h : k < xs.length) :
    ((mts m k ++ xs.drop k).map Value.string).set k (.string (mT (m + k))) = (mts m (k + 1) ++ xs.drop (k + 1)).map Value.string := by
  rw [List.map_append, List.set_append_right _ _ (by simp [mts_length]), List.length_map, mts_length, Nat.sub_self]
  rw [List.drop_eq_getElem_cons h, List.map_cons, List.set_cons_zero, mts_succ]
  simp
theorem grown_at (w : World) (g j : Nat) (v : Value) : w.grownBy (w.setCell ⟨g, j, none⟩ v) (some g) :=
  ⟨rfl, rfl, rfl, Nat.le_of_eq (by simp [World.setCell]), fun i _ hne => Below.heap_setCell _ _ _ _ (fun e => hne (by rw [e]))⟩

set_option maxRecDepth 100000 in
set_option maxHeartbeats 800000 in
theorem markStrs_any (v : Value) (xs : List ByteArray) (base m : Nat) (w : World) (hv : Strs w base v xs) (hm : 1 ≤ m) (hb : m + xs.length ≤ 4000000) :
    Calls Try.prog 41 #[v, .int .i64 (m : Int)] w fun e w' => e = .returned (.int .i64 (m + xs.length : Nat)) ∧ Strs w' base v (mts m xs.length) ∧ w.grownBy w' v.ownBlock := by
  have hv' : w.ownsRow base 9 1 v xs.length (xs.map Value.string) := hv
  obtain ⟨n, hn⟩ : ∃ n, xs.length = n := ⟨_, rfl⟩
  have m1 : ∀ k, k < n → ∀ wx, Calls Try.prog 81 #[.int .i64 ((m : Int) + (k : Int))] wx fun e w' => e = .returned (.string (mT (m + k))) ∧ Below wx.heap.size wx w' := by
    intro k hk wx
    have := markText_any (m + k) wx (by omega) (by omega)
    rw [show (((m + k : Nat)) : Int) = (m : Int) + (k : Int) by omega] at this
    exact this
  have M1 := hidv m1
  clear m1
  rw [hn] at hv' hb ⊢
  have HN := hidv hn
  clear hn hv
  rcases hv'.2 with ⟨rfl, h0⟩ | ⟨g, cap, cur, rfl, hbb, hg, hnc, hcm, hs, ht⟩
  · subst h0
    have e1 : xs = [] := List.eq_nil_of_length_eq_zero HN.out
    subst e1
    clear M1 HN
    go_enter Try.func41, Try.ntmps41
    go_wp2
    refine wp_loop_rounds 1 ?_
    rw [rounds_succ]
    go_wp2
    go_ret
    exact ⟨by simp, hv', World.grownBy.refl _ _⟩
  · have HV := hidv hv'
    have hnm : n ≤ 4000000 := by omega
    clear hbb hg hnc hcm hs ht hv'
    go_enter Try.func41, Try.ntmps41
    go_wp2
    go_loopw [1, 5] (fun q i wr => ∃ k : Nat, k ≤ n ∧ i = .int .i64 (k : Int) ∧ q = .int .i64 ((m : Int) + (k : Int)) ∧ Hid (wr.ownsRow base 9 1 (.slice (some ⟨g, 0, none⟩) n cap) n ((mts m k ++ xs.drop k).map Value.string)) ∧ Hid (w.grownBy wr (some g))) (fun _ i _ => n - (intOf i).toNat)
    case atStart => exact ⟨0, Nat.zero_le _, rfl, by simp, hidv (by simpa [mts] using HV.out), hidv (World.grownBy.refl _ _)⟩
    case round =>
      obtain ⟨k, hk, rfl, rfl, hown, hgr⟩ := hrel
      by_cases hlt : k < n
      · go_wp2_with fail
        refine (M1.out k hlt _).mono ?_
        rintro e w2 ⟨rfl, hb2⟩
        have hown2 := hown.out.kept (row := none) ⟨hb2.os, hb2.tape, hb2.output, hb2.size, fun k hk _ => hb2.block k hk⟩ (.inr (by simp [Value.ownBlock]))
        have hst := hown2.stored k (.string (mT (m + k)))
        rw [set_mts xs m k (by have := HN.out; omega)] at hst
        have HST := hidv hst
        have hlr : ((mts m k ++ xs.drop k).map Value.string).length = n := by
          have := HN.out
          rw [List.length_map, List.length_append, mts_length, List.length_drop]; omega
        obtain ⟨z, c0⟩ : ∃ z, w2.cell? ⟨g, k, none⟩ = some z := by
          rw [hown2.cellAt k (by omega), List.getElem?_eq_getElem (by omega)]
          exact ⟨_, rfl⟩
        have f0 : w2.frozen? ⟨g, k, none⟩ = false := hown2.frozenAt k
        have HG := hidv (grown_trans hgr.out (grown_trans (grown_below hb2) (grown_at w2 g k (.string (mT (m + k))))))
        clear hst hown2 hlr hb2
        go_wp2_with fail
        go_roundw
        case rel => exact ⟨k + 1, by omega, by go_num, by go_num, hidv HST.out.1, HG⟩
        case measure => simp [intOf]; omega
      · obtain rfl : k = n := by omega
        go_wp2_with fail
        go_ret
        refine ⟨by simp, ?_, hgr.out⟩
        have h := hown.out
        rw [List.drop_eq_nil_of_le (by have := HN.out; omega), List.append_nil] at h
        unfold Strs
        rw [mts_length]
        exact h

set_option maxRecDepth 100000 in
set_option maxHeartbeats 800000 in
theorem heldStrs_any (v : Value) (n B m : Nat) (w : World) (hv : Row w B v ((mts m n).map Value.string)) (hB : B ≤ w.heap.size) (hm : 1 ≤ m) (hb : m + n ≤ 4000000) :
    Calls Try.prog 44 #[v, .int .i64 (m : Int)] w fun e w' => e = .returned (.int .i64 (m + n : Nat)) ∧ Below w.heap.size w w' := by
  obtain ⟨A, c, rfl, hA⟩ := strRow_at hv
  rw [mts_length]
  have m1 : ∀ k, k < n → ∀ wx, Calls Try.prog 81 #[.int .i64 ((m : Int) + (k : Int))] wx fun e w' => e = .returned (.string (mT (m + k))) ∧ Below wx.heap.size wx w' := by
    intro k hk wx
    have := markText_any (m + k) wx (by omega) (by omega)
    rw [show (((m + k : Nat)) : Int) = (m : Int) + (k : Int) by omega] at this
    exact this
  have M1 := hidv m1
  have HA := hidv hA
  have hnm : n ≤ 4000000 := by omega
  clear m1 hA hv
  go_enter Try.func44, Try.ntmps44
  go_wp2
  go_loopw [1, 5] (fun q i wr => ∃ k : Nat, k ≤ n ∧ i = .int .i64 (k : Int) ∧ q = .int .i64 ((m : Int) + (k : Int)) ∧ Hid (Below w.heap.size w wr)) (fun _ i _ => n - (intOf i).toNat)
  case atStart => exact ⟨0, Nat.zero_le _, rfl, by simp, hidv (Below.refl _ _)⟩
  case round =>
    obtain ⟨k, hk, rfl, rfl, hbe⟩ := hrel
    by_cases hlt : k < n
    · obtain ⟨g, o, rfl, hg, hc⟩ := HA.out (by rw [mts_length]; omega)
      have hc1 := hc k (by rw [mts_length]; exact hlt)
      rw [mts_get] at hc1
      obtain ⟨x, hx⟩ : ∃ x, mT (m + k) = x := ⟨_, rfl⟩
      have hcall := M1.out k hlt
      rw [hx] at hc1 hcall
      have HC := hidv hcall
      have hS : ∀ w', Below w.heap.size w w' → w'.cell? ⟨g, o + k, none⟩ = some (.string x) ∧ Below w.heap.size w w' := fun w' hw => ⟨(hw.cell (p := ⟨g, _, none⟩) (by show g < _; omega)).trans hc1, hw⟩
      have HS := hidv hS
      have hb' := hbe.out
      have c1 := (hS _ hb').1
      clear hx hc hc1 hcall hS
      go_wp2_with fail
      go_region_held3 (fun w' => w'.cell? ⟨g, o + k, none⟩ = some (.string x) ∧ Below w.heap.size w w') (first | exact HS.out _ (Below.drew hb') | exact HS.out _ (below_on (Below.drew hb') hbw)) (first | (go_at_call 81; refine (HC.out _).mono ?_; rintro e w2 ⟨rfl, hbw⟩))
      go_wp2
      have hbe : Below w.heap.size w w2 := below_on (Below.drew hb') hbw
      go_roundw
      case rel => exact ⟨k + 1, by omega, by go_num, by go_num, hidv hbe⟩
      case measure => simp [intOf]; omega
    · obtain rfl : k = n := by omega
      go_wp2
      go_ret
      exact ⟨by simp, hbe.out⟩

end Go.Proofs.Ytpjidcfdcpjafaa
