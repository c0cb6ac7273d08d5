/-
  Slices of slices of texts: equal.
-/
import Derived.Test.YtebhifhcknbgaaaMark
namespace Go.Proofs.Ytebhifhcknbgaaa
open Go.RowKit Go

set_option maxRecDepth 100000 in
set_option maxHeartbeats 800000 in
theorem eqS_two (g g' : Nat) (a b : ByteArray) (w : World) (h : Two w g a b) (h' : Two w g' a b) :
    Calls Try.prog 72 #[.slice (some ⟨g, 0, none⟩) 2 2, .slice (some ⟨g', 0, none⟩) 2 2] w fun e w' => e = .returned (.bool true) ∧ ∃ m, w' = w.drewN m := by
  have c0 : w.cell? ⟨g, 0, none⟩ = some (.string a) := by rw [cell_of_row _ _ _ _ _ _ h]; rfl
  have c1 : w.cell? ⟨g, 1, none⟩ = some (.string b) := by rw [cell_of_row _ _ _ _ _ _ h]; rfl
  have d0 : w.cell? ⟨g', 0, none⟩ = some (.string a) := by rw [cell_of_row _ _ _ _ _ _ h']; rfl
  have d1 : w.cell? ⟨g', 1, none⟩ = some (.string b) := by rw [cell_of_row _ _ _ _ _ _ h']; rfl
  clear h h'
  go_enter Try.func72, Try.ntmps72
  go_wp2
  go_loopw [5] (fun i wr => ∃ k : Nat, k ≤ 2 ∧ i = .int .i64 k ∧ ∃ m, wr = w.drewN m) (fun i _ => 2 - (intOf i).toNat)
  case atStart => exact ⟨0, Nat.zero_le _, rfl, 0, rfl⟩
  case round =>
    obtain ⟨k, hk, rfl, m, rfl⟩ := hrel
    rcases (show k = 0 ∨ k = 1 ∨ k = 2 by omega) with rfl | rfl | rfl
    · go_wp2
      go_quiet (fail)
      go_wp2
      go_roundw
      case rel => exact ⟨1, by omega, by go_num, _, rfl⟩
      case measure => simp [intOf]
    · go_wp2
      go_quiet (fail)
      go_wp2
      go_roundw
      case rel => exact ⟨2, by omega, by go_num, _, rfl⟩
      case measure => simp [intOf]
    · go_wp2
      go_ret
      exact ⟨rfl, _, rfl⟩

set_option maxRecDepth 100000 in
set_option maxHeartbeats 800000 in
theorem eqSS_any (A A' : Option Addr) (c c' n : Nat) (gs gs' : List Nat) (w : World) (hn : gs.length = n) (hn' : gs'.length = n) (hA : 0 < n → ∃ a o, A = some ⟨a, o, none⟩ ∧ OuterAt w a o gs) (hA' : 0 < n → ∃ a o, A' = some ⟨a, o, none⟩ ∧ OuterAt w a o gs')
    (ht : ∀ j (h : j < gs.length) (h' : j < gs'.length), ∃ x y, Two w gs[j] x y ∧ Two w gs'[j] x y) (hm : n ≤ 1000) :
    Calls Try.prog 45 #[.slice A n c, .slice A' n c'] w fun e w' => e = .returned (.bool true) ∧ Below w.heap.size w w' := by
  have HA := hidv hA
  have HA' := hidv hA'
  have HT := hidv ht
  have HN := hidv hn
  have HN' := hidv hn'
  clear hA hA' ht hn hn'
  go_enter Try.func45, Try.ntmps45
  go_wp2
  go_loopw [5] (fun i wr => ∃ k : Nat, k ≤ n ∧ i = .int .i64 k ∧ ∃ m, wr = w.drewN m) (fun i _ => n - (intOf i).toNat)
  case atStart => exact ⟨0, Nat.zero_le _, rfl, 0, rfl⟩
  case round =>
    obtain ⟨k, hk, rfl, m, hwr⟩ := hrel
    have HW := hidv hwr
    by_cases hlt : k < n
    · have hkl : k < gs.length := by have := HN.out; omega
      have hkl' : k < gs'.length := by have := HN'.out; omega
      obtain ⟨a, o, rfl, ho⟩ := HA.out (by omega)
      obtain ⟨a', o', rfl, ho'⟩ := HA'.out (by omega)
      have c1 : wr.cell? ⟨a, o + k, none⟩ = some (.slice (some ⟨gs[k], 0, none⟩) 2 2) := by rw [hwr]; exact ho k hkl
      have d1 : wr.cell? ⟨a', o' + k, none⟩ = some (.slice (some ⟨gs'[k], 0, none⟩) 2 2) := by rw [hwr]; exact ho' k hkl'
      obtain ⟨x, y, t1, t2⟩ := HT.out k hkl hkl'
      have u1 : Two wr gs[k] x y := by rw [hwr]; exact t1
      have u2 : Two wr gs'[k] x y := by rw [hwr]; exact t2
      have hcall := fun m2 => eqS_two gs[k] gs'[k] x y (wr.drewN m2) u1 u2
      obtain ⟨g, hg⟩ : ∃ g, gs[k] = g := ⟨_, rfl⟩
      obtain ⟨g', hg'⟩ : ∃ g', gs'[k] = g' := ⟨_, rfl⟩
      rw [hg] at c1 hcall
      rw [hg'] at d1 hcall
      have HC := hidv hcall
      clear hcall hg hg' t1 t2 u1 u2 ho ho' hwr
      go_wp2
      go_quiet (first | (go_at_call 72; refine Calls.quiet_of (HC.out _)))
      go_wp2
      go_roundw
      case rel => exact ⟨k + 1, by omega, by go_num, m + nq, by rw [HW.out, World.drewN_drewN]⟩
      case measure => simp [intOf]; omega
    · subst hwr
      go_wp2
      go_ret
      exact ⟨rfl, below_drewN (Below.refl _ _) _⟩

end Go.Proofs.Ytebhifhcknbgaaa
