/-
  The laws' own functions on pieces and slices of them (bulk; copy; equal): contracts.
-/
import Derived.Test.YtdnkdmmockoehaaGreatPcR
import Derived.Test.YtdnkdmmockoehaaGreatStrA
import Derived.Deep.RegionHeld3
namespace Go.Proofs.YtdnkdmmockoehaaGreat
open Go.RowKit Go
set_option linter.unusedVariables false

theorem szPc_any (r : ByteArray) (t f m : Int) (w : World) (hr : r.size ≤ maxLen) (hm0 : 0 ≤ m) (hm1 : m ≤ 1048576) :
    Calls Tryz.prog 49 #[.agg #[.string r, .int .i64 t, .int .i64 f], .int .i64 m] w fun e w' => ∃ q, e = .returned (.int .i64 q) ∧ q ≤ m ∧ Below w.heap.size w w' := by
  unfold maxLen at hr
  by_cases h1 : m < (r.size : Int)
  · go_enter Tryz.func49, Tryz.ntmps49
    go_wp2
    go_ret
    exact ⟨_, rfl, by omega, (Below.refl _ _).alloc (Nat.le_refl _) _⟩
  · go_enter Tryz.func49, Tryz.ntmps49
    go_wp2
    go_ret
    exact ⟨_, rfl, by omega, (Below.refl _ _).alloc (Nat.le_refl _) _⟩

theorem szPcs_any (v : Value) (es : List Pc) (B : Nat) (w : World) (hv : QRow w B v es) (hB : B ≤ w.heap.size) (hx : es.length ≤ maxLen) (hs : ∀ e ∈ es, e.1.size ≤ maxLen) (m : Int) (hm0 : 0 ≤ m) (hm1 : m ≤ 1048576) :
    Calls Tryz.prog 28 #[v, .int .i64 m] w fun e w' => ∃ r, e = .returned (.int .i64 r) ∧ (0 ≤ r → r + es.length ≤ m) ∧ r ≤ m ∧ Below w.heap.size w w' := by
  obtain ⟨A, c, rfl, hA⟩ := hv
  unfold maxLen at hx
  obtain ⟨n, hn⟩ : ∃ n, es.length = n := ⟨_, rfl⟩
  have HA := hidv hA
  rw [hn] at hx ⊢
  have HN := hidv hn
  have HS := hidv hs
  clear hn hA hs
  by_cases hnm : m < (n : Int)
  · go_enter Tryz.func28, Tryz.ntmps28
    go_wp2
    go_ret
    exact ⟨_, rfl, fun h => by omega, by omega, Below.refl _ _⟩
  · go_enter Tryz.func28, Tryz.ntmps28
    go_wp2
    go_loopw [1, 5] (fun l i wr => ∃ (k : Nat) (q : Int), k ≤ n ∧ i = .int .i64 k ∧ l = .int .i64 q ∧ 0 ≤ q ∧ q + n ≤ m ∧ Hid (Below w.heap.size w wr)) (fun _ i _ => n - (intOf i).toNat)
    case atStart => exact ⟨0, _, Nat.zero_le _, rfl, rfl, by omega, by omega, hidv (Below.refl _ _)⟩
    case round =>
      obtain ⟨k, q, hk, rfl, rfl, hq0, hq1, hbe⟩ := hrel
      by_cases hlt : k < n
      · have hkx : k < es.length := by have := HN.out; omega
        obtain ⟨g, o, rfl, hg, hce⟩ := HA.out (by omega)
        have c1 : wr.cell? ⟨g, o + k * 3, none⟩ = some (.string es[k].1) := (hbe.out.cell (p := ⟨g, _, none⟩) (by show g < _; omega)).trans (hce k hkx).1
        have c2 : wr.cell? ⟨g, o + k * 3 + 1, none⟩ = some (.int .i64 es[k].2.1) := (hbe.out.cell (p := ⟨g, _, none⟩) (by show g < _; omega)).trans (hce k hkx).2.1
        have c3 : wr.cell? ⟨g, o + k * 3 + 2, none⟩ = some (.int .i64 es[k].2.2) := (hbe.out.cell (p := ⟨g, _, none⟩) (by show g < _; omega)).trans (hce k hkx).2.2
        have hsz := HS.out es[k] (List.getElem_mem _)
        obtain ⟨⟨x, y, z⟩, hxy⟩ : ∃ x, es[k] = x := ⟨_, rfl⟩
        rw [hxy] at c1 c2 c3 hsz
        have hcall := fun W => szPc_any x y z q W hsz (by omega) (by omega)
        have HC := hidv hcall
        clear hxy hce hcall hsz
        dsimp only at c1 c2 c3
        go_wp2_with fail
        refine (HC.out _).mono ?_
        rintro e w2 ⟨r, rfl, hrq, hb2⟩
        have HB2 := hidv (hbe.out.trans (hb2.mono hbe.out.size))
        clear hb2
        by_cases hr : r < 0
        · go_wp2_with fail
          go_ret
          exact ⟨_, rfl, fun h => by omega, by omega, HB2.out⟩
        · go_wp2_with fail
          go_roundw
          case rel => exact ⟨k + 1, r, by omega, by go_num, rfl, by omega, by omega, HB2⟩
          case measure => simp [intOf]; omega
      · go_wp2
        go_ret
        exact ⟨_, rfl, fun h => by omega, by omega, hbe.out⟩

set_option maxHeartbeats 400000 in
theorem toPc_any (r : ByteArray) (t f : Int) (w : World) :
    Calls Tryz.prog 57 #[.agg #[.string r, .int .i64 t, .int .i64 f]] w fun e w' => e = .returned (.agg #[.string r, .int .i64 t, .int .i64 f]) ∧ Below w.heap.size w w' := by
  go_enter Tryz.func57, Tryz.ntmps57
  go_wp2
  exact bodyPost_ret (v := .agg #[.string r, .int .i64 t, .int .i64 f]) (by simp [results, Tryz.results57, go_sem]) rfl ⟨rfl, (((Below.refl _ _).alloc (Nat.le_refl _) _).alloc (by simp) _).alloc (by simp; omega) _⟩

theorem Tryz.infoPc : (Tryz.prog.info? 88).map (fun i => (i.zero, i.size, i.bytes)) = some (some (.agg #[.string ⟨#[]⟩, .int .i64 0, .int .i64 0]), 3, 32) := by kernel_rfl

set_option maxRecDepth 100000 in
set_option maxHeartbeats 800000 in
theorem toPcs_any (v : Value) (es : List Pc) (B : Nat) (w : World) (hv : QRow w B v es) (hB : B ≤ w.heap.size) (hx : es.length ≤ 1048576) :
    Calls Tryz.prog 36 #[v] w fun e w' => ∃ u, e = .returned u ∧ Qws w' w.heap.size u es ∧ Below w.heap.size w w' := by
  obtain ⟨i0, hi, hz0, hz1, hz2⟩ := info_parts Tryz.infoPc
  obtain ⟨A, c, rfl, hA⟩ := hv
  have HA := hidv hA
  clear hA
  obtain ⟨n, hn⟩ : ∃ n, es.length = n := ⟨_, rfl⟩
  rw [hn] at hx ⊢
  have HN := hidv hn
  clear hn
  go_enter Tryz.func36, Tryz.ntmps36
  go_wp2_with (at_make; refine wpList_make_full _ rfl _ _ 70 rfl w.heap.size 88 i0 (.agg #[.string ⟨#[]⟩, .int .i64 0, .int .i64 0]) 3 Tryz.underlying70 hi hz0 hz1 _ _ _ _ n rfl rfl rfl rfl (by rw [hz2]; omega) (by unfold maxLen; omega) (Nat.le_refl _) ?_; intro w0 hown0 hgr0)
  have hb0 : Below w.heap.size w w0 := below_grown hgr0 (Nat.le_refl _) (fun k hk => by cases hk)
  have hown1 : w0.ownsRow w.heap.size 88 3 (.slice (some ⟨w.heap.size, 0, none⟩) n n) n (flatQ (es.take 0 ++ List.replicate (n - 0) pc0)) := by
    rw [List.take_zero, List.nil_append, Nat.sub_zero, ← made_threeQ]
    exact hown0
  have HO0 := hidv hown1
  clear hown0 hgr0 hown1
  go_loopw [4] (fun i wr => ∃ k : Nat, k ≤ n ∧ i = .int .i64 k ∧ Hid (wr.ownsRow w.heap.size 88 3 (.slice (some ⟨w.heap.size, 0, none⟩) n n) n (flatQ (es.take k ++ List.replicate (n - k) pc0))) ∧ Hid (Below w.heap.size w wr)) (fun i _ => n - (intOf i).toNat)
  case atStart => exact ⟨0, Nat.zero_le _, rfl, HO0, hidv hb0⟩
  case round =>
    obtain ⟨k, hk, rfl, hown, hb⟩ := hrel
    by_cases hlt : k < n
    · have hkx : k < es.length := by have := HN.out; omega
      obtain ⟨g, o, rfl, hg, hce⟩ := HA.out (by have := HN.out; omega)
      have c1 : wr.cell? ⟨g, o + k * 3, none⟩ = some (.string es[k].1) := (hb.out.cell (p := ⟨g, _, none⟩) (by show g < _; omega)).trans (hce k hkx).1
      have c2 : wr.cell? ⟨g, o + k * 3 + 1, none⟩ = some (.int .i64 es[k].2.1) := (hb.out.cell (p := ⟨g, _, none⟩) (by show g < _; omega)).trans (hce k hkx).2.1
      have c3 : wr.cell? ⟨g, o + k * 3 + 2, none⟩ = some (.int .i64 es[k].2.2) := (hb.out.cell (p := ⟨g, _, none⟩) (by show g < _; omega)).trans (hce k hkx).2.2
      have hset := set_copyQ es k n hkx HN.out
      obtain ⟨⟨x, y, z⟩, hxy⟩ : ∃ x, es[k] = x := ⟨_, rfl⟩
      rw [hxy] at c1 c2 c3 hset
      have HSET := hidv hset
      clear hxy hce hset
      dsimp only at c1 c2 c3
      go_wp2_with fail
      refine (toPc_any x y z _).mono ?_
      rintro e w2 ⟨rfl, hb2⟩
      have hlr : (flatQ (es.take k ++ List.replicate (n - k) pc0)).length = n * 3 := by
        rw [flatQ_length, List.length_append, List.length_take, List.length_replicate]; omega
      have hown2 := hown.out.kept (row := none) ⟨hb2.os, hb2.tape, hb2.output, hb2.size, fun k hk _ => hb2.block k hk⟩ (.inr (by simp [Value.ownBlock]))
      have HS1 := hidv (hown2.stored (k * 3) (.string x))
      have HS2 := hidv (HS1.out.1.stored (k * 3 + 1) (.int .i64 y))
      have HS3 := hidv (HS2.out.1.stored (k * 3 + 2) (.int .i64 z))
      obtain ⟨z0, d0⟩ : ∃ z, w2.cell? ⟨w.heap.size, k * 3, none⟩ = some z := by
        rw [hown2.cellAt (k * 3) (by omega), List.getElem?_eq_getElem (by omega)]
        exact ⟨_, rfl⟩
      obtain ⟨z1, d1⟩ : ∃ z, w2.cell? ⟨w.heap.size, k * 3 + 1, none⟩ = some z := by
        rw [hown2.cellAt (k * 3 + 1) (by omega), List.getElem?_eq_getElem (by omega)]
        exact ⟨_, rfl⟩
      obtain ⟨z2, d2⟩ : ∃ z, w2.cell? ⟨w.heap.size, k * 3 + 2, none⟩ = some z := by
        rw [hown2.cellAt (k * 3 + 2) (by omega), List.getElem?_eq_getElem (by omega)]
        exact ⟨_, rfl⟩
      have f0 : w2.frozen? ⟨w.heap.size, k * 3, none⟩ = false := hown2.frozenAt _
      have f1 : w2.frozen? ⟨w.heap.size, k * 3 + 1, none⟩ = false := hown2.frozenAt _
      have f2 : w2.frozen? ⟨w.heap.size, k * 3 + 2, none⟩ = false := hown2.frozenAt _
      have HB2 := hidv (hb.out.trans (hb2.mono hb.out.size))
      clear hb2 hown2 hlr
      go_wp2
      go_roundw
      case rel =>
        refine ⟨k + 1, by omega, by go_num, hidv ?_, hidv (((HB2.out.setCell (Nat.le_refl _) _).setCell (Nat.le_refl _) _).setCell (Nat.le_refl _) _)⟩
        rw [← HSET.out]
        exact HS3.out.1
      case measure => simp [intOf]; omega
    · obtain rfl : k = n := by omega
      go_wp2
      go_ret
      refine ⟨_, rfl, ?_, hb.out⟩
      have h := hown.out
      rw [List.take_of_length_le (by have := HN.out; omega), Nat.sub_self, List.replicate_zero, List.append_nil] at h
      unfold Qws
      rw [HN.out]
      exact h

set_option maxHeartbeats 400000 in
theorem eqPc_same (r : ByteArray) (t f : Int) (w : World) :
    Calls Tryz.prog 74 #[.agg #[.string r, .int .i64 t, .int .i64 f], .agg #[.string r, .int .i64 t, .int .i64 f]] w fun e w' => e = .returned (.bool true) ∧ Below w.heap.size w w' := by
  go_enter Tryz.func74, Tryz.ntmps74
  go_wp2
  go_ret
  exact ⟨rfl, ((Below.refl _ _).alloc (Nat.le_refl _) _).alloc (by simp) _⟩

set_option maxRecDepth 100000 in
set_option maxHeartbeats 800000 in
theorem eqPcs_same {v u : Value} {L : List Pc} {B C : Nat} {w : World} (hv : QRow w B v L) (hu : QRow w C u L) (hB : B ≤ w.heap.size) (hC : C ≤ w.heap.size) (hl : L.length ≤ 1000000000) :
    Calls Tryz.prog 46 #[v, u] w fun e w' => e = .returned (.bool true) ∧ Below w.heap.size w w' := by
  obtain ⟨A, c, rfl, hA⟩ := hv
  obtain ⟨A', c', rfl, hA'⟩ := hu
  obtain ⟨n, hn⟩ : ∃ n, L.length = n := ⟨_, rfl⟩
  have HA := hidv hA
  have HA' := hidv hA'
  rw [hn] at hl ⊢
  have HN := hidv hn
  clear hn hA hA'
  go_enter Tryz.func46, Tryz.ntmps46
  go_wp2
  go_loopw [5] (fun i wr => ∃ k : Nat, k ≤ n ∧ i = .int .i64 k ∧ Hid (Below w.heap.size w wr)) (fun i _ => n - (intOf i).toNat)
  case atStart => exact ⟨0, Nat.zero_le _, rfl, hidv (Below.refl _ _)⟩
  case round =>
    obtain ⟨k, hk, rfl, hb⟩ := hrel
    by_cases hlt : k < n
    · have hkx : k < L.length := by have := HN.out; omega
      obtain ⟨g, o, rfl, hg, hc⟩ := HA.out (by omega)
      obtain ⟨g', o', rfl, hg', hc'⟩ := HA'.out (by omega)
      have hk1 := hc k hkx
      have hk2 := hc' k hkx
      obtain ⟨⟨x, y, z⟩, hx1⟩ : ∃ x, L[k] = x := ⟨_, rfl⟩
      rw [hx1] at hk1 hk2
      have hS : ∀ w', Below w.heap.size w w' → w'.cell? ⟨g, o + k * 3, none⟩ = some (.string x) ∧ w'.cell? ⟨g, o + k * 3 + 1, none⟩ = some (.int .i64 y) ∧ w'.cell? ⟨g, o + k * 3 + 2, none⟩ = some (.int .i64 z) ∧ w'.cell? ⟨g', o' + k * 3, none⟩ = some (.string x) ∧ w'.cell? ⟨g', o' + k * 3 + 1, none⟩ = some (.int .i64 y) ∧ w'.cell? ⟨g', o' + k * 3 + 2, none⟩ = some (.int .i64 z) ∧ Below w.heap.size w w' := fun w' hw =>
        ⟨(hw.cell (p := ⟨g, _, none⟩) (by show g < _; omega)).trans hk1.1, (hw.cell (p := ⟨g, _, none⟩) (by show g < _; omega)).trans hk1.2.1, (hw.cell (p := ⟨g, _, none⟩) (by show g < _; omega)).trans hk1.2.2, (hw.cell (p := ⟨g', _, none⟩) (by show g' < _; omega)).trans hk2.1, (hw.cell (p := ⟨g', _, none⟩) (by show g' < _; omega)).trans hk2.2.1, (hw.cell (p := ⟨g', _, none⟩) (by show g' < _; omega)).trans hk2.2.2, hw⟩
      have HS := hidv hS
      have hcall := fun W => eqPc_same x y z W
      have HC := hidv hcall
      have hb' := hb.out
      have i1 : (0 : Int) ≤ (k : Int) := by omega
      have i2 : (k : Int) < (n : Int) := by omega
      clear hx1 hc hc' hk1 hk2 hS hcall
      go_wp2_with fail
      go_region_held3 (fun w' => w'.cell? ⟨g, o + k * 3, none⟩ = some (.string x) ∧ w'.cell? ⟨g, o + k * 3 + 1, none⟩ = some (.int .i64 y) ∧ w'.cell? ⟨g, o + k * 3 + 2, none⟩ = some (.int .i64 z) ∧ w'.cell? ⟨g', o' + k * 3, none⟩ = some (.string x) ∧ w'.cell? ⟨g', o' + k * 3 + 1, none⟩ = some (.int .i64 y) ∧ w'.cell? ⟨g', o' + k * 3 + 2, none⟩ = some (.int .i64 z) ∧ Below w.heap.size w w') (first | exact HS.out _ (Below.drew hb') | exact HS.out _ (below_on (Below.drew hb') hbw)) (first | (go_at_call 74; refine (HC.out _).mono ?_; rintro e w2 ⟨rfl, hbw⟩))
      go_wp2
      have hbe : Below w.heap.size w w2 := below_on (Below.drew hb') hbw
      go_roundw
      case rel => exact ⟨k + 1, by omega, by go_num, hidv hbe⟩
      case measure => simp [intOf]; omega
    · go_wp2
      go_ret
      exact ⟨rfl, hb.out⟩

end Go.Proofs.YtdnkdmmockoehaaGreat
