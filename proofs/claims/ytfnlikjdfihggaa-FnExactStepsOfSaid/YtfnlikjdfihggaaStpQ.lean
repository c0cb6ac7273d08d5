/-
  Slices of equal steps are told equal: a contract.
-/
import Derived.Test.YtfnlikjdfihggaaStpR
import Derived.Test.YtfnlikjdfihggaaStpE
import Derived.OwnWalk
import Derived.Deep.RegionHeld3
namespace Go.Proofs.Ytfnlikjdfihggaa
open Go.RowKit Go
set_option linter.unusedVariables false

set_option maxRecDepth 100000 in
set_option maxHeartbeats 800000 in
theorem eqStps_same {v u : Value} {L : List Stp} {B C : Nat} {w : World} (hv : SRow w B v L) (hu : SRow w C u L) (hB : B ≤ w.heap.size) (hC : C ≤ w.heap.size) (hl : L.length ≤ 1000000000) :
    Calls Try.prog 13 #[v, u] w fun e w' => e = .returned (.bool true) ∧ Below w.heap.size w w' := by
  obtain ⟨A, c, rfl, hA⟩ := hv
  obtain ⟨A', c', rfl, hA'⟩ := hu
  obtain ⟨n, hn⟩ : ∃ n, L.length = n := ⟨_, rfl⟩
  have HA := hidv hA
  have HA' := hidv hA'
  rw [hn] at hl ⊢
  have HN := hidv hn
  clear hn hA hA'
  go_enter Try.func13, Try.ntmps13
  go_wp2
  go_loopw [5] (fun i wr => ∃ k : Nat, k ≤ n ∧ i = .int .i64 k ∧ Hid (Below w.heap.size w wr)) (fun i _ => n - (intOf i).toNat)
  case atStart => exact ⟨0, Nat.zero_le _, rfl, hidv (Below.refl _ _)⟩
  case round =>
    obtain ⟨k, hk, rfl, hb⟩ := hrel
    by_cases hlt : k < n
    · have hkx : k < L.length := by have := HN.out; omega
      obtain ⟨g, o, rfl, hg, hc⟩ := HA.out (by omega)
      obtain ⟨g', o', rfl, hg', hc'⟩ := HA'.out (by omega)
      have hk1 := hc k hkx
      have hk2 := hc' k hkx
      obtain ⟨⟨x, y⟩, hx1⟩ : ∃ x, L[k] = x := ⟨_, rfl⟩
      rw [hx1] at hk1 hk2
      have hS : ∀ w', Below w.heap.size w w' → w'.cell? ⟨g, o + k * 2, none⟩ = some (.int .i64 x) ∧ w'.cell? ⟨g, o + k * 2 + 1, none⟩ = some (.string y) ∧ w'.cell? ⟨g', o' + k * 2, none⟩ = some (.int .i64 x) ∧ w'.cell? ⟨g', o' + k * 2 + 1, none⟩ = some (.string y) ∧ Below w.heap.size w w' := fun w' hw =>
        ⟨(hw.cell (p := ⟨g, _, none⟩) (by show g < _; omega)).trans hk1.1, (hw.cell (p := ⟨g, _, none⟩) (by show g < _; omega)).trans hk1.2, (hw.cell (p := ⟨g', _, none⟩) (by show g' < _; omega)).trans hk2.1, (hw.cell (p := ⟨g', _, none⟩) (by show g' < _; omega)).trans hk2.2, hw⟩
      have HS := hidv hS
      have hcall := fun W => eqStp_same x y W
      have HC := hidv hcall
      have hb' := hb.out
      have i1 : (0 : Int) ≤ (k : Int) := by omega
      have i2 : (k : Int) < (n : Int) := by omega
      clear hx1 hc hc' hk1 hk2 hS hcall
      go_wp2_with fail
      go_region_held3 (fun w' => w'.cell? ⟨g, o + k * 2, none⟩ = some (.int .i64 x) ∧ w'.cell? ⟨g, o + k * 2 + 1, none⟩ = some (.string y) ∧ w'.cell? ⟨g', o' + k * 2, none⟩ = some (.int .i64 x) ∧ w'.cell? ⟨g', o' + k * 2 + 1, none⟩ = some (.string y) ∧ Below w.heap.size w w') (first | exact HS.out _ (Below.drew hb') | exact HS.out _ (below_on (Below.drew hb') hbw)) (first | (go_at_call 22; refine (HC.out _).mono ?_; rintro e w2 ⟨rfl, hbw⟩))
      go_wp2
      have hbe : Below w.heap.size w w2 := below_on (Below.drew hb') hbw
      go_roundw
      case rel => exact ⟨k + 1, by omega, by go_num, hidv hbe⟩
      case measure => simp [intOf]; omega
    · go_wp2
      go_ret
      exact ⟨rfl, hb.out⟩


end Go.Proofs.Ytfnlikjdfihggaa
