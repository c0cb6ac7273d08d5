/-
  Holds, of the program and of the model: contracts.
-/
import Derived.Test.YtjoleenehdfkkaaSysT
import Derived.Test.YtjoleenehdfkkaaPut
import Derived.Test.YtjoleenehdfkkaaSameS
namespace Go.Proofs.Ytjoleenehdfkkaa
open Go.RowKit Go
set_option linter.unusedVariables false

/-- Both terms of an equation become the same text by values. -/
def evenB (xs : List ByteArray) (e : Eqn) : Bool := decide (putL e.1.data.toList xs = putL e.2.data.toList xs)
def holdsB (es : List Eqn) (xs : List ByteArray) : Bool := es.all (evenB xs)
theorem all_succG {α : Type} (l : List α) (f : α → Bool) (k : Nat) (h : k < l.length) : (l.take (k + 1)).all f = ((l.take k).all f && f l[k]) := by
  rw [List.take_succ_eq_append_getElem h, List.all_append]
  simp
theorem all_falseG {α : Type} (l : List α) (f : α → Bool) (k : Nat) (h : k < l.length) (hf : f l[k] = false) : l.all f = false := by
  rw [List.all_eq_false]
  exact ⟨l[k], List.getElem_mem h, by simp [hf]⟩
theorem eqnB_terms {l r : ByteArray} (h : eqnB l r = true) : Wd.termB l.data.toList = true ∧ Wd.termB r.data.toList = true := by
  unfold eqnB at h
  rwa [Bool.and_eq_true] at h
theorem Row.drewN {w : World} {B : Nat} {v : Value} {xs : List Value} (h : Row w B v xs) (n : Nat) : Row (w.drewN n) B v xs := h
theorem ba_ne {p q : List UInt8} (h : p ≠ q) : (⟨⟨p⟩⟩ : ByteArray) ≠ ⟨⟨q⟩⟩ := fun e => h (by injection e with e; injection e)

set_option maxRecDepth 100000 in
set_option maxHeartbeats 800000 in
theorem specHolds_any (v u : Value) (es : List Eqn) (xs : List ByteArray) (B C : Nat) (w : World) (hv : ERow w B v es) (h : sysB es = true) (hr : Row w C u (xs.map Value.string)) (hx : valsB xs = true) :
    Calls Try.prog 40 #[v, u] w fun e w' => e = .returned (.bool (holdsB es xs)) ∧ Below w.heap.size w w' := by
  obtain ⟨A, c, rfl, hA⟩ := hv
  obtain ⟨n, hn⟩ : ∃ n, es.length = n := ⟨_, rfl⟩
  have HA := hidv hA
  rw [hn]
  have h4 : n ≤ 4 := by rw [← hn]; exact sysB_len h
  have HN := hidv hn
  have HSB := hidv h
  have HR := hidv hr
  have HX := hidv hx
  obtain ⟨b, hb⟩ : ∃ b, holdsB es xs = b := ⟨_, rfl⟩
  rw [hb]
  have HB := hidv hb
  clear hA hn h hx hr hb
  go_enter Try.func40, Try.ntmps40
  go_wp2
  go_loopw [5] (fun i wr => ∃ k : Nat, k ≤ n ∧ i = .int .i64 k ∧ Hid ((es.take k).all (evenB xs) = true) ∧ Hid (∃ m, wr = w.drewN m)) (fun i _ => n - (intOf i).toNat)
  case atStart => exact ⟨0, Nat.zero_le _, rfl, hidv (by simp), hidv ⟨0, rfl⟩⟩
  case round =>
    obtain ⟨k, hk, rfl, hall, hw⟩ := hrel
    have HBe : Hid (Below w.heap.size w wr) := by
      obtain ⟨m, rfl⟩ := hw.out
      exact below_drewN (Below.refl _ _) _
    by_cases hlt : k < n
    · have hkx : k < es.length := by have := HN.out; omega
      obtain ⟨g, o, rfl, hg, hce⟩ := HA.out (by omega)
      have hc := hce k hkx
      have c1 : wr.cell? ⟨g, o + k * 2, none⟩ = some (.string es[k].1) := by obtain ⟨m, rfl⟩ := hw.out; exact hc.1
      have c2 : wr.cell? ⟨g, o + k * 2 + 1, none⟩ = some (.string es[k].2) := by obtain ⟨m, rfl⟩ := hw.out; exact hc.2
      have hrr : Row wr C u (xs.map Value.string) := by obtain ⟨m, rfl⟩ := hw.out; exact HR.out
      have hsz := sysB_szAt HSB.out k hkx
      have htm := eqnB_terms (sysB_at HSB.out k hkx)
      have hsu := all_succG es (evenB xs) k hkx
      have hfa := all_falseG es (evenB xs) k hkx
      rw [hall.out, Bool.true_and] at hsu
      obtain ⟨⟨x, y⟩, hxy⟩ : ∃ x, es[k] = x := ⟨_, rfl⟩
      rw [hxy] at c1 c2 hsz htm hsu hfa
      dsimp only at c1 c2 hsz htm
      have C1 := hidv (fun m => (specPut_any x u xs C (wr.drewN m) hsz.1 htm.1 (hrr.drewN m) HX.out).mono (R' := fun e w' => e = .returned (.string ⟨⟨putL x.data.toList xs⟩⟩) ∧ w' = wr.drewN m) fun e w' hh => ⟨hh.1, hh.2.symm⟩)
      have C2 := hidv (fun m => (specPut_any y u xs C (wr.drewN m) hsz.2 htm.2 (hrr.drewN m) HX.out).mono (R' := fun e w' => e = .returned (.string ⟨⟨putL y.data.toList xs⟩⟩) ∧ w' = wr.drewN m) fun e w' hh => ⟨hh.1, hh.2.symm⟩)
      have i1 : (0 : Int) ≤ (k : Int) := by omega
      have i2 : (k : Int) < (n : Int) := by omega
      by_cases hpq : putL x.data.toList xs = putL y.data.toList xs
      · rw [hpq] at C1
        have HSU := hidv (hsu.trans (decide_eq_true hpq))
        obtain ⟨p, hp⟩ : ∃ p : ByteArray, ⟨⟨putL y.data.toList xs⟩⟩ = p := ⟨_, rfl⟩
        rw [hp] at C1 C2
        clear hce hc hxy hsz htm hsu hfa hrr hpq hp
        go_wp2
        go_quiet (first | (with_reducible exact Calls.quiet_of_same (C1.out _)) | (with_reducible exact Calls.quiet_of_same (C2.out _)))
        go_wp2
        go_roundw
        case rel => exact ⟨k + 1, by omega, by go_num, HSU, hidv (by obtain ⟨m, rfl⟩ := hw.out; exact ⟨_, World.drewN_drewN _ _ _⟩)⟩
        case measure => simp [intOf]; omega
      · have HFA := hidv (hfa (decide_eq_false hpq))
        have hne := ba_ne hpq
        obtain ⟨p, hp⟩ : ∃ p : ByteArray, ⟨⟨putL x.data.toList xs⟩⟩ = p := ⟨_, rfl⟩
        obtain ⟨q, hq⟩ : ∃ p : ByteArray, ⟨⟨putL y.data.toList xs⟩⟩ = p := ⟨_, rfl⟩
        rw [hp] at C1 hne
        rw [hq] at C2 hne
        have hb1 := toList_ne hne
        clear hce hc hxy hsz htm hsu hfa hrr hpq hp hq hne
        go_wp2
        go_quiet (first | (with_reducible exact Calls.quiet_of_same (C1.out _)) | (with_reducible exact Calls.quiet_of_same (C2.out _)))
        go_wp2
        go_ret
        exact ⟨ret_bool (by rw [← HB.out]; exact HFA.out.symm), below_drewN HBe.out _⟩
    · go_wp2
      go_ret
      refine ⟨ret_bool ?_, HBe.out⟩
      have h2 := hall.out
      rw [List.take_of_length_le (by have := HN.out; omega)] at h2
      rw [← HB.out]
      exact h2.symm

end Go.Proofs.Ytjoleenehdfkkaa
