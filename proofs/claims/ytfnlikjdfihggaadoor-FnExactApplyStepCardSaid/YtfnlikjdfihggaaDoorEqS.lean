/-
  Slices of equations: the laws' own functions on them (bulk; copy; equal), and ValidSystem of the program and of the model: contracts.
-/
import Derived.Test.YtfnlikjdfihggaaDoorEq
import Derived.Test.YtfnlikjdfihggaaDoorEqR
import Derived.OwnWalk
import Derived.Deep.RegionHeld3
namespace Go.Proofs.YtfnlikjdfihggaaDoor
open Go.RowKit Go


theorem Tryd.infoE : (Tryd.prog.info? 25).map (fun i => (i.zero, i.size, i.bytes)) = some (some (.agg #[.string ⟨#[]⟩, .string ⟨#[]⟩]), 2, 32) := by kernel_rfl


theorem take_eq_succE {xs ys : List Eqn} {k : Nat} (hx : k < xs.length) (hy : k < ys.length) (h : xs.take k = ys.take k) (he : xs[k] = ys[k]) : xs.take (k + 1) = ys.take (k + 1) := by
  rw [List.take_succ_eq_append_getElem hx, List.take_succ_eq_append_getElem hy, h, he]

set_option maxRecDepth 100000 in
set_option maxHeartbeats 800000 in
theorem eqEqns_same {v u : Value} {L : List Eqn} {B C : Nat} {w : World} (hv : ERow w B v L) (hu : ERow w C u L) (hB : B ≤ w.heap.size) (hC : C ≤ w.heap.size) (hl : L.length ≤ 1000000000) :
    Calls Tryd.prog 59 #[v, u] w fun e w' => e = .returned (.bool true) ∧ Below w.heap.size w w' := by
  obtain ⟨A, c, rfl, hA⟩ := hv
  obtain ⟨A', c', rfl, hA'⟩ := hu
  obtain ⟨n, hn⟩ : ∃ n, L.length = n := ⟨_, rfl⟩
  have HA := hidv hA
  have HA' := hidv hA'
  rw [hn] at hl ⊢
  have HN := hidv hn
  clear hn hA hA'
  go_enter Tryd.func59, Tryd.ntmps59
  go_wp2
  go_loopw [5] (fun i wr => ∃ k : Nat, k ≤ n ∧ i = .int .i64 k ∧ Hid (Below w.heap.size w wr)) (fun i _ => n - (intOf i).toNat)
  case atStart => exact ⟨0, Nat.zero_le _, rfl, hidv (Below.refl _ _)⟩
  case round =>
    obtain ⟨k, hk, rfl, hb⟩ := hrel
    by_cases hlt : k < n
    · have hkx : k < L.length := by have := HN.out; omega
      obtain ⟨g, o, rfl, hg, hc⟩ := HA.out (by omega)
      obtain ⟨g', o', rfl, hg', hc'⟩ := HA'.out (by omega)
      have hk1 := hc k hkx
      have hk2 := hc' k hkx
      obtain ⟨⟨x, y⟩, hx1⟩ : ∃ x, L[k] = x := ⟨_, rfl⟩
      rw [hx1] at hk1 hk2
      have hS : ∀ w', Below w.heap.size w w' → w'.cell? ⟨g, o + k * 2, none⟩ = some (.string x) ∧ w'.cell? ⟨g, o + k * 2 + 1, none⟩ = some (.string y) ∧ w'.cell? ⟨g', o' + k * 2, none⟩ = some (.string x) ∧ w'.cell? ⟨g', o' + k * 2 + 1, none⟩ = some (.string y) ∧ Below w.heap.size w w' := fun w' hw =>
        ⟨(hw.cell (p := ⟨g, _, none⟩) (by show g < _; omega)).trans hk1.1, (hw.cell (p := ⟨g, _, none⟩) (by show g < _; omega)).trans hk1.2, (hw.cell (p := ⟨g', _, none⟩) (by show g' < _; omega)).trans hk2.1, (hw.cell (p := ⟨g', _, none⟩) (by show g' < _; omega)).trans hk2.2, hw⟩
      have HS := hidv hS
      have hcall := fun W => eqEqn_same x y W
      have HC := hidv hcall
      have hb' := hb.out
      have i1 : (0 : Int) ≤ (k : Int) := by omega
      have i2 : (k : Int) < (n : Int) := by omega
      clear hx1 hc hc' hk1 hk2 hS hcall
      go_wp2_with fail
      go_region_held3 (fun w' => w'.cell? ⟨g, o + k * 2, none⟩ = some (.string x) ∧ w'.cell? ⟨g, o + k * 2 + 1, none⟩ = some (.string y) ∧ w'.cell? ⟨g', o' + k * 2, none⟩ = some (.string x) ∧ w'.cell? ⟨g', o' + k * 2 + 1, none⟩ = some (.string y) ∧ Below w.heap.size w w') (first | exact HS.out _ (Below.drew hb') | exact HS.out _ (below_on (Below.drew hb') hbw)) (first | (go_at_call 25; refine (HC.out _).mono ?_; rintro e w2 ⟨rfl, hbw⟩))
      go_wp2
      have hbe : Below w.heap.size w w2 := below_on (Below.drew hb') hbw
      go_roundw
      case rel => exact ⟨k + 1, by omega, by go_num, hidv hbe⟩
      case measure => simp [intOf]; omega
    · go_wp2
      go_ret
      exact ⟨rfl, hb.out⟩

/-- What a list of equations has to be: at most four, each of two terms. -/
def sysB (es : List Eqn) : Bool := decide (es.length ≤ 4) && es.all fun e => eqnB e.1 e.2
theorem allE_succ (es : List Eqn) (k : Nat) (h : k < es.length) : ((es.take (k + 1)).all fun e => eqnB e.1 e.2) = (((es.take k).all fun e => eqnB e.1 e.2) && eqnB es[k].1 es[k].2) := by
  rw [List.take_succ_eq_append_getElem h, List.all_append]
  simp
theorem allE_false (es : List Eqn) (k : Nat) (h : k < es.length) (hf : eqnB es[k].1 es[k].2 = false) : (es.all fun e => eqnB e.1 e.2) = false := by
  rw [List.all_eq_false]
  exact ⟨es[k], List.getElem_mem h, by simp [hf]⟩

set_option maxHeartbeats 800000 in
theorem specSys_any (v : Value) (es : List Eqn) (B : Nat) (w : World) (hv : ERow w B v es) (hB : B ≤ w.heap.size) (hx : es.length ≤ 1048576) (hs : ∀ e ∈ es, e.1.size ≤ maxLen ∧ e.2.size ≤ maxLen) :
    Calls Tryd.prog 48 #[v] w fun e w' => e = .returned (.bool (sysB es)) ∧ Below w.heap.size w w' := by
  obtain ⟨A, c, rfl, hA⟩ := hv
  obtain ⟨n, hn⟩ : ∃ n, es.length = n := ⟨_, rfl⟩
  have HA := hidv hA
  rw [hn] at hx ⊢
  have HN := hidv hn
  have HS := hidv hs
  obtain ⟨b, hb⟩ : ∃ b, sysB es = b := ⟨_, rfl⟩
  rw [hb]
  have HB : Hid ((decide (es.length ≤ 4) && es.all fun e => eqnB e.1 e.2) = b) := hb
  clear hn hA hs hb
  go_enter Tryd.func48, Tryd.ntmps48
  go_wp2
  go_loopw [3] (fun i wr => ∃ k : Nat, k ≤ n ∧ i = .int .i64 k ∧ Hid (((es.take k).all fun e => eqnB e.1 e.2) = true) ∧ Hid (Below w.heap.size w wr)) (fun i _ => n - (intOf i).toNat)
  case atStart => exact ⟨0, Nat.zero_le _, rfl, hidv (by simp), hidv (Below.refl _ _)⟩
  case round =>
    obtain ⟨k, hk, rfl, hall, hbe⟩ := hrel
    by_cases hlt : k < n
    · have hkx : k < es.length := by have := HN.out; omega
      obtain ⟨g, o, rfl, hg, hce⟩ := HA.out (by omega)
      have c1 : wr.cell? ⟨g, o + k * 2, none⟩ = some (.string es[k].1) := (hbe.out.cell (p := ⟨g, _, none⟩) (by show g < _; omega)).trans (hce k hkx).1
      have c2 : wr.cell? ⟨g, o + k * 2 + 1, none⟩ = some (.string es[k].2) := (hbe.out.cell (p := ⟨g, _, none⟩) (by show g < _; omega)).trans (hce k hkx).2
      have hsz := HS.out es[k] (List.getElem_mem _)
      have hsu := allE_succ es k hkx
      have hfa := allE_false es k hkx
      rw [hall.out, Bool.true_and] at hsu
      obtain ⟨⟨x, y⟩, hxy⟩ : ∃ x, es[k] = x := ⟨_, rfl⟩
      rw [hxy] at c1 c2 hsz hsu hfa
      have hcall := fun W => specOk_any x y W hsz.1 hsz.2
      obtain ⟨q, hq⟩ : ∃ q, eqnB x y = q := ⟨_, rfl⟩
      dsimp only at hsu hfa c1 c2
      rw [hq] at hcall hsu hfa
      have HC := hidv hcall
      have HSU := hidv hsu
      have HFA := hidv hfa
      clear hxy hce hcall hsz hsu hfa hq
      go_wp2_with fail
      refine (HC.out _).mono ?_
      rintro e w2 ⟨rfl, hb2⟩
      have HB2 := hidv (hbe.out.trans (hb2.mono hbe.out.size))
      clear hb2
      cases q
      · go_wp2_with fail
        go_ret
        exact ⟨ret_bool (by rw [← HB.out, HFA.out (by trivial), Bool.and_false]), HB2.out⟩
      · go_wp2_with fail
        go_roundw
        case rel => exact ⟨k + 1, by omega, by go_num, HSU, HB2⟩
        case measure => simp [intOf]; omega
    · obtain rfl : k = n := by omega
      go_wp2
      go_ret
      refine ⟨ret_bool ?_, hbe.out⟩
      have h2 := hall.out
      rw [List.take_of_length_le (by have := HN.out; omega)] at h2
      rw [← HB.out, h2, Bool.and_true, Bool.eq_iff_iff]
      have := HN.out
      simp
      omega

set_option maxHeartbeats 800000 in
theorem implSys_any (v : Value) (es : List Eqn) (B : Nat) (w : World) (hv : ERow w B v es) (hB : B ≤ w.heap.size) (hx : es.length ≤ 1048576) (hs : ∀ e ∈ es, e.1.size ≤ maxLen ∧ e.2.size ≤ maxLen) :
    Calls Tryd.prog 110 #[v] w fun e w' => e = .returned (.bool (sysB es)) ∧ Below w.heap.size w w' := by
  obtain ⟨A, c, rfl, hA⟩ := hv
  obtain ⟨n, hn⟩ : ∃ n, es.length = n := ⟨_, rfl⟩
  have HA := hidv hA
  rw [hn] at hx ⊢
  have HN := hidv hn
  have HS := hidv hs
  obtain ⟨b, hb⟩ : ∃ b, sysB es = b := ⟨_, rfl⟩
  rw [hb]
  have HB : Hid ((decide (es.length ≤ 4) && es.all fun e => eqnB e.1 e.2) = b) := hb
  clear hn hA hs hb
  by_cases h4 : (4 : Int) < (n : Int)
  · obtain rfl : b = false := by
      rw [← HB.out, decide_eq_false (by have := HN.out; omega), Bool.false_and]
    go_enter Tryd.func110, Tryd.ntmps110
    go_wp2
    go_ret
    exact ⟨rfl, Below.refl _ _⟩
  go_enter Tryd.func110, Tryd.ntmps110
  go_wp2
  go_loopw [10] (fun i wr => ∃ k : Nat, k ≤ n ∧ i = .int .i64 k ∧ Hid (((es.take k).all fun e => eqnB e.1 e.2) = true) ∧ Hid (Below w.heap.size w wr)) (fun i _ => n - (intOf i).toNat)
  case atStart => exact ⟨0, Nat.zero_le _, rfl, hidv (by simp), hidv (Below.refl _ _)⟩
  case round =>
    obtain ⟨k, hk, rfl, hall, hbe⟩ := hrel
    by_cases hlt : k < n
    · have hkx : k < es.length := by have := HN.out; omega
      obtain ⟨g, o, rfl, hg, hce⟩ := HA.out (by omega)
      have c1 : wr.cell? ⟨g, o + k * 2, none⟩ = some (.string es[k].1) := (hbe.out.cell (p := ⟨g, _, none⟩) (by show g < _; omega)).trans (hce k hkx).1
      have c2 : wr.cell? ⟨g, o + k * 2 + 1, none⟩ = some (.string es[k].2) := (hbe.out.cell (p := ⟨g, _, none⟩) (by show g < _; omega)).trans (hce k hkx).2
      have hsz := HS.out es[k] (List.getElem_mem _)
      have hsu := allE_succ es k hkx
      have hfa := allE_false es k hkx
      rw [hall.out, Bool.true_and] at hsu
      obtain ⟨⟨x, y⟩, hxy⟩ : ∃ x, es[k] = x := ⟨_, rfl⟩
      rw [hxy] at c1 c2 hsz hsu hfa
      have hcall := fun W => implOk_any x y W hsz.1 hsz.2
      obtain ⟨q, hq⟩ : ∃ q, eqnB x y = q := ⟨_, rfl⟩
      dsimp only at hsu hfa c1 c2
      rw [hq] at hcall hsu hfa
      have HC := hidv hcall
      have HSU := hidv hsu
      have HFA := hidv hfa
      clear hxy hce hcall hsz hsu hfa hq
      go_wp2_with fail
      refine (HC.out _).mono ?_
      rintro e w2 ⟨rfl, hb2⟩
      have HB2 := hidv ((hbe.out.alloc hbe.out.size (.cells #[.string x, .string y] 25)).trans (hb2.mono (by have := hbe.out.size; simp; omega)))
      clear hb2
      cases q
      · go_wp2_with fail
        go_ret
        exact ⟨ret_bool (by rw [← HB.out, HFA.out (by trivial), Bool.and_false]), HB2.out⟩
      · go_wp2_with fail
        go_roundw
        case rel => exact ⟨k + 1, by omega, by go_num, HSU, HB2⟩
        case measure => simp [intOf]; omega
    · obtain rfl : k = n := by omega
      go_wp2
      go_ret
      refine ⟨ret_bool ?_, hbe.out⟩
      have h2 := hall.out
      rw [List.take_of_length_le (by have := HN.out; omega)] at h2
      rw [← HB.out, h2, Bool.and_true, Bool.eq_iff_iff]
      have := HN.out
      simp
      omega

end Go.Proofs.YtfnlikjdfihggaaDoor
