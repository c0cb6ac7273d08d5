/-
  The laws' own copy of a slice of numbers: a contract.
-/
import Derived.Test.YtpjflakialomaaaRow
import Derived.OwnWalk
namespace Go.Proofs.Ytpjflakialomaaa
open Go.RowKit Go

theorem Try.infoN : (Try.prog.info? 2).map (fun i => (i.zero, i.size, i.bytes)) = some (some (.int .i64 0), 1, 8) := by kernel_rfl

theorem set_copy (xs : List Int) (k n : Nat) (h : k < xs.length) (hn : xs.length = n) :
    ((xs.take k ++ List.replicate (n - k) 0).map (Value.int .i64)).set k (.int .i64 xs[k]) = (xs.take (k + 1) ++ List.replicate (n - (k + 1)) 0).map (Value.int .i64) := by
  have hl : (xs.take k).length = k := by rw [List.length_take]; omega
  rw [List.map_append, List.set_append_right _ _ (by simp; omega), List.length_map, hl, Nat.sub_self]
  rw [show n - k = (n - (k + 1)) + 1 by omega, List.replicate_succ, List.map_cons, List.set_cons_zero, List.take_succ_eq_append_getElem h]
  simp only [List.map_append, List.map_cons, List.map_replicate, List.append_assoc, List.singleton_append]

set_option maxRecDepth 100000 in
set_option maxHeartbeats 800000 in
theorem toInts_any (v : Value) (xs : List Int) (B : Nat) (w : World) (hv : Row w B v (xs.map (Value.int .i64))) (hB : B ≤ w.heap.size) (hx : xs.length ≤ 1048576) :
    Calls Try.prog 25 #[v] w fun e w' => ∃ u, e = .returned u ∧ IntsT 2 w' w.heap.size u xs ∧ Below w.heap.size w w' := by
  obtain ⟨i0, hi, hz0, hz1, hz2⟩ := info_parts Try.infoN
  obtain ⟨A, c, rfl, hA⟩ := hv
  rw [List.length_map] at hA ⊢
  have HA := hidv hA
  clear hA
  obtain ⟨n, hn⟩ : ∃ n, xs.length = n := ⟨_, rfl⟩
  rw [hn] at hx ⊢
  have HN := hidv hn
  clear hn
  go_enter Try.func25, Try.ntmps25
  go_wp2_with (at_make; refine wpList_make_full _ rfl _ _ 32 rfl w.heap.size 2 i0 (.int .i64 0) 1 Try.underlying32 hi hz0 hz1 _ _ _ _ n rfl rfl rfl rfl (by rw [hz2]; omega) (by unfold maxLen; omega) (Nat.le_refl _) ?_; intro w0 hown0 hgr0)
  have hb0 : Below w.heap.size w w0 := below_grown hgr0 (Nat.le_refl _) (fun k hk => by cases hk)
  have hown1 : w0.ownsRow w.heap.size 2 1 (.slice (some ⟨w.heap.size, 0, none⟩) n n) n ((xs.take 0 ++ List.replicate (n - 0) 0).map (Value.int .i64)) := by
    have : (madeCells (Value.int IntKind.i64 0).cells (n * 1)).toList = (xs.take 0 ++ List.replicate (n - 0) 0).map (Value.int .i64) := by
      rw [List.take_zero, List.nil_append, Nat.sub_zero, List.map_replicate, Nat.mul_one]
      exact toList_madeCells_one _ _
    rw [← this]; exact hown0
  have HO0 := hidv hown1
  clear hown0 hgr0 hown1
  go_loopw [4] (fun i wr => ∃ k : Nat, k ≤ n ∧ i = .int .i64 k ∧ Hid (wr.ownsRow w.heap.size 2 1 (.slice (some ⟨w.heap.size, 0, none⟩) n n) n ((xs.take k ++ List.replicate (n - k) 0).map (Value.int .i64))) ∧ Hid (Below w.heap.size w wr)) (fun i _ => n - (intOf i).toNat)
  case atStart => exact ⟨0, Nat.zero_le _, rfl, HO0, hidv hb0⟩
  case round =>
    obtain ⟨k, hk, rfl, hown, hb⟩ := hrel
    by_cases hlt : k < n
    · obtain ⟨g, o, rfl, hg, hce⟩ := HA.out (by have := HN.out; omega)
      have hkx : k < xs.length := by have := HN.out; omega
      have c1 : wr.cell? ⟨g, o + k, none⟩ = some (.int .i64 xs[k]) := by
        rw [hb.out.cell (p := ⟨g, o + k, none⟩) (by show g < w.heap.size; omega)]
        exact hce k _ (map_int_at hkx)
      obtain ⟨x, hx1⟩ : ∃ x, xs[k] = x := ⟨_, rfl⟩
      rw [hx1] at c1
      have hst := hown.out.stored k (.int .i64 x)
      have hset := set_copy xs k n hkx HN.out
      rw [hx1] at hset
      rw [hset] at hst
      have hlr : k < ((xs.take k ++ List.replicate (n - k) 0).map (Value.int .i64)).length := by
        rw [List.length_map, List.length_append, List.length_take, List.length_replicate]; omega
      obtain ⟨z, c2⟩ : ∃ z, wr.cell? ⟨w.heap.size, k, none⟩ = some (.int .i64 z) := by
        rw [hown.out.cellAt k (by omega), List.getElem?_eq_getElem hlr, List.getElem_map]
        exact ⟨_, rfl⟩
      have hf2 : wr.frozen? ⟨w.heap.size, k, none⟩ = false := hown.out.frozenAt k
      have HST := hidv hst
      have HCE := hidv hce
      clear hst hset hx1 hlr hce
      go_wp2
      go_roundw
      case rel => exact ⟨k + 1, by omega, by go_num, hidv HST.out.1, hidv (hb.out.setCell (Nat.le_refl _) _)⟩
      case measure => simp [intOf]; omega
    · obtain rfl : k = n := by omega
      go_wp2
      go_ret
      refine ⟨_, rfl, ?_, hb.out⟩
      have h := hown.out
      rw [List.take_of_length_le (by have := HN.out; omega), Nat.sub_self, List.replicate_zero, List.append_nil] at h
      unfold IntsT
      rw [HN.out]
      exact h

end Go.Proofs.Ytpjflakialomaaa
