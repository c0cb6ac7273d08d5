/-
  The laws' own copy of a slice of texts, and its bulk: contracts.
-/
import Derived.Test.YtpjidcfdcpjafaaStr
namespace Go.Proofs.Ytpjidcfdcpjafaa
open Go.RowKit Go

theorem set_copyS (xs : List ByteArray) (k n : Nat) (h : k < xs.length) (hn : xs.length = n) :
    ((xs.take k ++ List.replicate (n - k) (⟨#[]⟩ : ByteArray)).map Value.string).set k (.string xs[k]) = (xs.take (k + 1) ++ List.replicate (n - (k + 1)) (⟨#[]⟩ : ByteArray)).map Value.string := by
  have hl : (xs.take k).length = k := by rw [List.length_take]; omega
  rw [List.map_append, List.set_append_right _ _ (by simp; omega), List.length_map, hl, Nat.sub_self]
  rw [show n - k = (n - (k + 1)) + 1 by omega, List.replicate_succ, List.map_cons, List.set_cons_zero, List.take_succ_eq_append_getElem h]
  simp only [List.map_append, List.map_cons, List.map_replicate, List.append_assoc, List.singleton_append]

set_option maxRecDepth 100000 in
set_option maxHeartbeats 800000 in
theorem toStrs_any (v : Value) (xs : List ByteArray) (B : Nat) (w : World) (hv : Row w B v (xs.map Value.string)) (hB : B ≤ w.heap.size) (hx : xs.length ≤ 1048576) :
    Calls Try.prog 37 #[v] w fun e w' => ∃ u, e = .returned u ∧ Strs w' w.heap.size u xs ∧ Below w.heap.size w w' := by
  obtain ⟨i0, hi, hz0, hz1, hz2⟩ := info_parts Try.infoS
  obtain ⟨A, c, rfl, hA⟩ := strRow_at hv
  have HA := hidv hA
  clear hA hv
  obtain ⟨n, hn⟩ : ∃ n, xs.length = n := ⟨_, rfl⟩
  rw [hn] at hx ⊢
  have HN := hidv hn
  clear hn
  go_enter Try.func37, Try.ntmps37
  go_wp2_with (at_make; refine wpList_make_full _ rfl _ _ 24 rfl w.heap.size 9 i0 (.string ⟨#[]⟩) 1 Try.underlying24 hi hz0 hz1 _ _ _ _ n rfl rfl rfl rfl (by rw [hz2]; omega) (by unfold maxLen; omega) (Nat.le_refl _) ?_; intro w0 hown0 hgr0)
  have hb0 : Below w.heap.size w w0 := below_grown hgr0 (Nat.le_refl _) (fun k hk => by cases hk)
  have hown1 : w0.ownsRow w.heap.size 9 1 (.slice (some ⟨w.heap.size, 0, none⟩) n n) n ((xs.take 0 ++ List.replicate (n - 0) (⟨#[]⟩ : ByteArray)).map Value.string) := by
    have : (madeCells (Value.string ⟨#[]⟩).cells (n * 1)).toList = (xs.take 0 ++ List.replicate (n - 0) (⟨#[]⟩ : ByteArray)).map Value.string := by
      rw [List.take_zero, List.nil_append, Nat.sub_zero, List.map_replicate, Nat.mul_one]
      exact toList_madeCells_one _ _
    rw [← this]; exact hown0
  have HO0 := hidv hown1
  clear hown0 hgr0 hown1
  go_loopw [4] (fun i wr => ∃ k : Nat, k ≤ n ∧ i = .int .i64 k ∧ Hid (wr.ownsRow w.heap.size 9 1 (.slice (some ⟨w.heap.size, 0, none⟩) n n) n ((xs.take k ++ List.replicate (n - k) (⟨#[]⟩ : ByteArray)).map Value.string)) ∧ Hid (Below w.heap.size w wr)) (fun i _ => n - (intOf i).toNat)
  case atStart => exact ⟨0, Nat.zero_le _, rfl, HO0, hidv hb0⟩
  case round =>
    obtain ⟨k, hk, rfl, hown, hb⟩ := hrel
    by_cases hlt : k < n
    · have hkx : k < xs.length := by have := HN.out; omega
      obtain ⟨g, o, rfl, hg, hce⟩ := HA.out (by omega)
      have c1 : wr.cell? ⟨g, o + k, none⟩ = some (.string xs[k]) := by
        rw [hb.out.cell (p := ⟨g, o + k, none⟩) (by show g < w.heap.size; omega)]
        exact hce k hkx
      obtain ⟨x, hx1⟩ : ∃ x, xs[k] = x := ⟨_, rfl⟩
      rw [hx1] at c1
      have hst := hown.out.stored k (.string x)
      have hset := set_copyS xs k n hkx HN.out
      rw [hx1] at hset
      rw [hset] at hst
      have hlr : k < ((xs.take k ++ List.replicate (n - k) (⟨#[]⟩ : ByteArray)).map Value.string).length := by
        rw [List.length_map, List.length_append, List.length_take, List.length_replicate]; omega
      obtain ⟨z, c2⟩ : ∃ z, wr.cell? ⟨w.heap.size, k, none⟩ = some (.string z) := by
        rw [hown.out.cellAt k (by omega), List.getElem?_eq_getElem hlr, List.getElem_map]
        exact ⟨_, rfl⟩
      have hf2 : wr.frozen? ⟨w.heap.size, k, none⟩ = false := hown.out.frozenAt k
      have HST := hidv hst
      clear hst hset hx1 hlr hce
      go_wp2
      go_roundw
      case rel => exact ⟨k + 1, by omega, by go_num, hidv HST.out.1, hidv (hb.out.setCell (Nat.le_refl _) _)⟩
      case measure => simp [intOf]; omega
    · obtain rfl : k = n := by omega
      go_wp2
      go_ret
      refine ⟨_, rfl, ?_, hb.out⟩
      have h := hown.out
      rw [List.take_of_length_le (by have := HN.out; omega), Nat.sub_self, List.replicate_zero, List.append_nil] at h
      unfold Strs
      rw [HN.out]
      exact h

/-- The bulk of texts: what is left of a number; -1 where it does not suffice. -/
def SzOk (n m r : Int) : Prop := 0 ≤ r → n ≤ m

set_option maxHeartbeats 400000 in
theorem szStrs_any (v : Value) (xs : List ByteArray) (B : Nat) (w : World) (hv : Row w B v (xs.map Value.string)) (hx : xs.length ≤ maxLen) (hs : ∀ s ∈ xs, s.size ≤ maxLen) (m : Int) (hm0 : 0 ≤ m) (hm1 : m ≤ 1048576) :
    Calls Try.prog 35 #[v, .int .i64 m] w fun e w' => ∃ r, e = .returned (.int .i64 r) ∧ SzOk xs.length m r ∧ w = w' := by
  obtain ⟨A, c, rfl, hA⟩ := strRow_at hv
  unfold maxLen at hx hs
  obtain ⟨n, hn⟩ : ∃ n, xs.length = n := ⟨_, rfl⟩
  have HA := hidv hA
  rw [hn] at hx ⊢
  have HN := hidv hn
  have HS := hidv hs
  clear hn hA hv hs
  by_cases hnm : m < (n : Int)
  · go_enter Try.func35, Try.ntmps35
    go_wp2
    go_ret
    exact ⟨_, rfl, fun h => by omega, rfl⟩
  · go_enter Try.func35, Try.ntmps35
    go_wp2
    go_loop [1, 5] (fun l i => ∃ (k : Nat) (q : Int), k ≤ n ∧ i = .int .i64 k ∧ l = .int .i64 q ∧ 0 ≤ q ∧ q ≤ 1048576) (fun _ i => n - (intOf i).toNat)
    case atStart => exact ⟨0, _, Nat.zero_le _, rfl, rfl, by omega, by omega⟩
    case round =>
      obtain ⟨k, q, hk, rfl, rfl, hq0, hq1⟩ := hrel
      by_cases hlt : k < n
      · have hkx : k < xs.length := by have := HN.out; omega
        obtain ⟨g, o, rfl, hg, hce⟩ := HA.out (by omega)
        have c1 := hce k hkx
        have hsz := HS.out xs[k] (List.getElem_mem _)
        obtain ⟨x, hx1⟩ : ∃ x, xs[k] = x := ⟨_, rfl⟩
        rw [hx1] at c1 hsz
        clear hx1 hce
        by_cases hqs : q < (x.size : Int)
        · go_wp2
          go_ret
          exact ⟨_, rfl, fun h => by omega, rfl⟩
        · go_wp2
          go_round
          case rel => exact ⟨k + 1, q - x.size, by omega, by go_num, rfl, by omega, by omega⟩
          case measure => simp [intOf]; omega
      · go_wp2
        go_ret
        exact ⟨_, rfl, fun h => by omega, rfl⟩

end Go.Proofs.Ytpjidcfdcpjafaa
