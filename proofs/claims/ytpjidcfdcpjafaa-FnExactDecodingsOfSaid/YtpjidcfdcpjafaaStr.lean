/-
  Slices of texts in memory, and the laws' own functions on them (equal; copied; their bulk): contracts.
-/
import Derived.Test.YtpjidcfdcpjafaaRow
import Derived.OwnWalk
namespace Go.Proofs.Ytpjidcfdcpjafaa
open Go.RowKit Go

theorem Try.infoS : (Try.prog.info? 9).map (fun i => (i.zero, i.size, i.bytes)) = some (some (.string ⟨#[]⟩), 1, 16) := by kernel_rfl

/-- A slice of texts in memory of the call's own, from block 'base' on. -/
def Strs (w : World) (base : Nat) (v : Value) (xs : List ByteArray) : Prop := w.ownsRow base 9 1 v xs.length (xs.map Value.string)
theorem Strs.row {w : World} {base : Nat} {v : Value} {xs : List ByteArray} (h : Strs w base v xs) : Row w w.heap.size v (xs.map Value.string) := Row.of_own (show w.ownsRow base 9 1 v xs.length (xs.map Value.string) from h)
theorem Strs.below {w w' : World} {base : Nat} {v : Value} {xs : List ByteArray} (h : Strs w base v xs) (hb : Below w.heap.size w w') : Strs w' base v xs := by
  have h' : w.ownsRow base 9 1 v xs.length (xs.map Value.string) := h
  exact h'.kept (row := none) ⟨hb.os, hb.tape, hb.output, hb.size, fun k hk _ => hb.block k hk⟩ (by
    rcases hv : v.ownBlock with _ | k
    · exact .inl rfl
    · exact .inr (by simp))

theorem map_str_at {xs : List ByteArray} {k : Nat} (h : k < xs.length) : (xs.map Value.string)[k]? = some (.string xs[k]) := by
  rw [List.getElem?_map, List.getElem?_eq_getElem h]; rfl
theorem strRow_at {w : World} {B : Nat} {v : Value} {xs : List ByteArray} (h : Row w B v (xs.map Value.string)) : ∃ A c, v = .slice A xs.length c ∧ (0 < xs.length → ∃ g o, A = some ⟨g, o, none⟩ ∧ g < B ∧ ∀ i (hi : i < xs.length), w.cell? ⟨g, o + i, none⟩ = some (.string xs[i])) := by
  obtain ⟨A, c, rfl, hA⟩ := h
  rw [List.length_map] at hA ⊢
  refine ⟨A, c, rfl, fun h0 => ?_⟩
  obtain ⟨g, o, hA1, hg, hc⟩ := hA h0
  exact ⟨g, o, hA1, hg, fun i hi => hc i _ (map_str_at hi)⟩

set_option maxHeartbeats 400000 in
theorem eqStrs_same {v u : Value} {L : List ByteArray} {B C : Nat} {w : World} (hv : Row w B v (L.map Value.string)) (hu : Row w C u (L.map Value.string)) (hl : L.length ≤ 1000000000) :
    Calls Try.prog 38 #[v, u] w fun e w' => e = .returned (.bool true) ∧ Below w.heap.size w w' := by
  obtain ⟨A, c, rfl, hA⟩ := strRow_at hv
  obtain ⟨A', c', rfl, hA'⟩ := strRow_at hu
  obtain ⟨n, hn⟩ : ∃ n, L.length = n := ⟨_, rfl⟩
  have HA := hidv hA
  have HA' := hidv hA'
  rw [hn] at hl ⊢
  have HN := hidv hn
  clear hn hA hA' hv hu
  go_enter Try.func38, Try.ntmps38
  go_wp2
  go_loopw [5] (fun i wr => ∃ k : Nat, k ≤ n ∧ i = .int .i64 k ∧ ∃ m, wr = w.drewN m) (fun i _ => n - (intOf i).toNat)
  case atStart => exact ⟨0, Nat.zero_le _, rfl, 0, rfl⟩
  case round =>
    obtain ⟨k, hk, rfl, m, rfl⟩ := hrel
    by_cases hlt : k < n
    · have hkx : k < L.length := by have := HN.out; omega
      obtain ⟨g, o, rfl, hg, hc⟩ := HA.out (by omega)
      obtain ⟨g', o', rfl, hg', hc'⟩ := HA'.out (by omega)
      have c1 := hc k hkx
      have c2 := hc' k hkx
      obtain ⟨x, hx1⟩ : ∃ x, L[k] = x := ⟨_, rfl⟩
      rw [hx1] at c1 c2
      clear hx1 hc hc'
      go_wp2
      go_quiet (fail)
      go_wp2
      go_roundw
      case rel => exact ⟨k + 1, by omega, by go_num, _, rfl⟩
      case measure => simp [intOf]; omega
    · go_wp2
      go_ret
      exact ⟨rfl, below_drewN (Below.refl _ _) _⟩

end Go.Proofs.Ytpjidcfdcpjafaa
