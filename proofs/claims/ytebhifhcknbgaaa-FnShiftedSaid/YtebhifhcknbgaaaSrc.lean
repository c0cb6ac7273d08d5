/-
  The laws' source of choices: it reads bytes, and goes on behind their end. Contracts.
-/
import Derived.Test.YtebhifhcknbgaaaMem
import Derived.OwnWalk
import Derived.Lib.HexFns2
import Derived.Laws.BitsAllLaws
namespace Go.Proofs.Ytebhifhcknbgaaa
open Go.RowKit Go

/-- The source lies in block b, reads 'code' and has come to place k. -/
def SrcAt (w : World) (b : Nat) (code : Value) (k : Nat) : Prop :=
  ∃ seed : Int, 0 ≤ seed ∧ seed < 18446744073709551616 ∧ w.heap[b]? = some (.cells #[code, .int .i64 k, .int .u64 seed] 86 (0, 0))
def Byts (w : World) (B : Nat) (v : Value) (xs : List Int) : Prop := Row w B v (xs.map (Value.int .u8)) ∧ ∀ x ∈ xs, 0 ≤ x ∧ x ≤ 255

theorem byts_at {w : World} {B : Nat} {v : Value} {xs : List Int} (h : Byts w B v xs) : ∃ A c, v = .slice A xs.length c ∧ (0 < xs.length → ∃ g o, A = some ⟨g, o, none⟩ ∧ g < B ∧ ∀ i (hi : i < xs.length), w.cell? ⟨g, o + i, none⟩ = some (.int .u8 xs[i]) ∧ 0 ≤ xs[i] ∧ xs[i] ≤ 255) := by
  obtain ⟨⟨A, c, rfl, hA⟩, hx⟩ := h
  rw [List.length_map] at hA ⊢
  refine ⟨A, c, rfl, fun h0 => ?_⟩
  obtain ⟨g, o, hA1, hg, hc⟩ := hA h0
  exact ⟨g, o, hA1, hg, fun i hi => ⟨hc i _ (by rw [List.getElem?_map, List.getElem?_eq_getElem hi]; rfl), hx _ (List.getElem_mem hi)⟩⟩
theorem Byts.keep {w w' : World} {B : Nat} {v : Value} {xs : List Int} (h : Byts w B v xs) (hk : ∀ p : Addr, p.block < B → w'.cell? p = w.cell? p) : Byts w' B v xs := ⟨h.1.keep hk, h.2⟩
theorem Byts.below {w w' : World} {B : Nat} {v : Value} {xs : List Int} (h : Byts w B v xs) (hb : Below B w w') : Byts w' B v xs := ⟨h.1.below hb, h.2⟩

theorem u64_range (x : Int) : 0 ≤ IntKind.u64.wrap x ∧ IntKind.u64.wrap x < 18446744073709551616 := by
  have h : IntKind.u64.wrap x = x % 18446744073709551616 := by kernel_rfl
  rw [h]
  omega

theorem u64_top (x : Int) : 0 ≤ wrap64 (bits .and .u64 (IntKind.u64.wrap x / 1099511627776) 255) ∧ wrap64 (bits .and .u64 (IntKind.u64.wrap x / 1099511627776) 255) ≤ 255 := by
  obtain ⟨h0, h1⟩ := u64_range x
  rw [u64_and _ _ (by omega) (by omega) (by omega) (by omega)]
  have h2 : ((IntKind.u64.wrap x / 1099511627776).toNat &&& (255 : Int).toNat) ≤ 255 := Nat.and_le_right
  generalize ((IntKind.u64.wrap x / 1099511627776).toNat &&& (255 : Int).toNat) = y at h2
  have h3 : wrap64 (y : Int) = y := by
    unfold wrap64
    omega
  omega

theorem src_step {w : World} {b k : Nat} {v : Value} {s : Int} (hb : w.heap[b]? = some (.cells #[v, .int .i64 (k : Int), .int .u64 s] 86 (0, 0))) (m1 m2 : Nat) (x : Int) :
    SrcAt ((((w.drewN m1).setCell ⟨b, 1, none⟩ (.int .i64 ((k : Int) + 1))).setCell ⟨b, 2, none⟩ (.int .u64 (IntKind.u64.wrap x))).drewN m2) b v (k + 1) ∧
    w.grownBy ((((w.drewN m1).setCell ⟨b, 1, none⟩ (.int .i64 ((k : Int) + 1))).setCell ⟨b, 2, none⟩ (.int .u64 (IntKind.u64.wrap x))).drewN m2) (some b) := by
  refine ⟨⟨IntKind.u64.wrap x, (u64_range x).1, (u64_range x).2, ?_⟩, ?_⟩
  · show (((w.drewN m1).setCell ⟨b, 1, none⟩ (.int .i64 ((k : Int) + 1))).setCell ⟨b, 2, none⟩ (.int .u64 (IntKind.u64.wrap x))).heap[b]? = _
    have hb' : (w.drewN m1).heap[b]? = some (.cells #[v, .int .i64 (k : Int), .int .u64 s] 86 (0, 0)) := hb
    have h1 : ((w.drewN m1).setCell ⟨b, 1, none⟩ (.int .i64 ((k : Int) + 1))).heap[b]? = some (.cells #[v, .int .i64 ((k : Int) + 1), .int .u64 s] 86 (0, 0)) := by
      show ((w.drewN m1).heap.modify b _)[b]? = _
      rw [Array.getElem?_modify, if_pos rfl, hb']
      rfl
    show ((((w.drewN m1).setCell ⟨b, 1, none⟩ (.int .i64 ((k : Int) + 1)))).heap.modify b _)[b]? = _
    rw [Array.getElem?_modify, if_pos rfl, h1]
    rfl
  · refine ⟨rfl, rfl, rfl, by show w.heap.size ≤ (((w.drewN m1).setCell ⟨b, 1, none⟩ _).setCell ⟨b, 2, none⟩ _).heap.size; exact Nat.le_of_eq (by simp [World.setCell]), fun i hi hne => ?_⟩
    have hne' : i ≠ b := fun e => hne (by rw [e])
    show (((w.drewN m1).setCell ⟨b, 1, none⟩ _).setCell ⟨b, 2, none⟩ _).heap[i]? = _
    rw [Below.heap_setCell _ _ _ _ hne', Below.heap_setCell _ _ _ _ hne']
    rfl

set_option maxRecDepth 100000 in
set_option maxHeartbeats 800000 in
theorem next_any (b k B : Nat) (v : Value) (xs : List Int) (w : World) (hs : SrcAt w b v k) (hv : Byts w B v xs) (hk : k ≤ 1000000) (hx : xs.length ≤ 1000000) :
    Calls Try.prog 91 #[.pointer (some ⟨b, 0, none⟩)] w fun e w' => ∃ r : Int, e = .returned (.int .i64 r) ∧ 0 ≤ r ∧ r ≤ 255 ∧ SrcAt w' b v (k + 1) ∧ w.grownBy w' (some b) := by
  obtain ⟨A, c, rfl, hA⟩ := byts_at hv
  obtain ⟨seed, hs0, hs1, hb⟩ := hs
  obtain ⟨n, hn⟩ : ∃ n, xs.length = n := ⟨_, rfl⟩
  have HA := hidv hA
  have HB := hidv hb
  rw [hn] at hx HB ⊢
  have HN := hidv hn
  have c0 : w.cell? ⟨b, 0, none⟩ = some (.slice A n c) := by rw [cell_of_row _ _ _ _ _ _ HB.out]; rfl
  have c1 : w.cell? ⟨b, 1, none⟩ = some (.int .i64 (k : Int)) := by rw [cell_of_row _ _ _ _ _ _ HB.out]; rfl
  have c2 : w.cell? ⟨b, 2, none⟩ = some (.int .u64 seed) := by rw [cell_of_row _ _ _ _ _ _ HB.out]; rfl
  have f1 : w.frozen? ⟨b, 1, none⟩ = false := frozen_of_row _ _ _ _ _ HB.out
  have f2 : w.frozen? ⟨b, 2, none⟩ = false := frozen_of_row _ _ _ _ _ HB.out
  clear hb hA hv hn
  by_cases hkn : k < n
  · obtain ⟨g, o, rfl, hg, hce⟩ := HA.out (by have := HN.out; omega)
    obtain ⟨d0, hy0, hy1⟩ := hce k (by have := HN.out; omega)
    obtain ⟨y, hy⟩ : ∃ y, xs[k]'(by have := HN.out; omega) = y := ⟨_, rfl⟩
    rw [hy] at d0 hy0 hy1
    clear hy hce
    go_enter Try.func91, Try.ntmps91
    go_wp2
    go_quiet (fail)
    go_wp2
    go_quiet (fail)
    go_wp2
    go_quiet (fail)
    go_wp2
    go_ret
    exact ⟨y, rfl, hy0, hy1, src_step HB.out _ _ _⟩
  · go_enter Try.func91, Try.ntmps91
    go_wp2
    go_quiet (fail)
    go_wp2
    go_quiet (fail)
    go_wp2
    go_ret
    exact ⟨_, rfl, (u64_top _).1, (u64_top _).2, src_step HB.out _ _ _⟩

theorem Byts.grown {w w' : World} {B b : Nat} {v : Value} {xs : List Int} (h : Byts w B v xs) (hg : w.grownBy w' (some b)) (hB : B ≤ b) : Byts w' B v xs := by
  obtain ⟨⟨A, c, rfl, hA⟩, hx⟩ := h
  refine ⟨⟨A, c, rfl, fun h0 => ?_⟩, hx⟩
  obtain ⟨g, o, hA1, hgB, hc⟩ := hA h0
  exact ⟨g, o, hA1, hgB, fun i u hi => hg.cell (hc i u hi) (fun e => by have := Option.some.inj e; simp at this; omega)⟩

set_option maxHeartbeats 800000 in
theorem pick_any (b k B : Nat) (v : Value) (xs : List Int) (w : World) (n : Int) (hs : SrcAt w b v k) (hv : Byts w B v xs) (hk : k ≤ 1000000) (hx : xs.length ≤ 1000000) (hn : n ≤ 200) :
    Calls Try.prog 75 #[.pointer (some ⟨b, 0, none⟩), .int .i64 n] w fun e w' => ∃ (r : Int) (k' : Nat), e = .returned (.int .i64 r) ∧ 0 ≤ r ∧ (r < n ∨ r = 0) ∧ k' ≤ k + 1 ∧ SrcAt w' b v k' ∧ w.grownBy w' (some b) := by
  have hnx := next_any b k B v xs w hs hv hk hx
  by_cases h1 : n ≤ 1
  · go_enter Try.func75, Try.ntmps75
    go_wp2
    go_ret
    exact ⟨0, k, rfl, by omega, .inr rfl, by omega, hs, World.grownBy.refl _ _⟩
  · clear hs hv
    go_enter Try.func75, Try.ntmps75
    go_wp2_with (go_at_call 91; refine hnx.mono ?_; rintro e w' ⟨r, rfl, hr0, hr1, hs', hg'⟩)
    go_ret
    refine ⟨_, k + 1, rfl, ?_, .inl ?_, by omega, hs', hg'⟩
    · exact Int.emod_nonneg _ (by omega)
    · exact Int.emod_lt_of_pos _ (by omega)

set_option maxHeartbeats 800000 in
theorem one_any (b k B : Nat) (v : Value) (xs : List Int) (w : World) (n : Int) (hs : SrcAt w b v k) (hv : Byts w B v xs) (hk : k ≤ 1000000) (hx : xs.length ≤ 1000000) (hn : n ≤ 200) :
    Calls Try.prog 76 #[.pointer (some ⟨b, 0, none⟩), .int .i64 n] w fun e w' => ∃ (r : Bool) (k' : Nat), e = .returned (.bool r) ∧ k' ≤ k + 1 ∧ SrcAt w' b v k' ∧ w.grownBy w' (some b) := by
  have hnx := pick_any b k B v xs w n hs hv hk hx hn
  clear hs hv
  go_enter Try.func76, Try.ntmps76
  go_wp2_with (go_at_call 75; refine hnx.mono ?_; rintro e w' ⟨r, k', rfl, _, _, hk', hs', hg'⟩)
  go_ret
  exact ⟨_, k', rfl, hk', hs', hg'⟩

end Go.Proofs.Ytebhifhcknbgaaa
