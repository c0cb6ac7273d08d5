/-
  Slices of equations: the laws' own functions on them (bulk; copy; equal), and ValidSystem of the program and of the model: contracts.
-/
import Derived.Test.YtgfdcpmjaamhdaaEq
import Derived.Test.YtgfdcpmjaamhdaaEqR
import Derived.OwnWalk
import Derived.Deep.RegionHeld3
namespace Go.Proofs.Ytgfdcpmjaamhdaa
open Go.RowKit Go

theorem szEqns_any (v : Value) (es : List Eqn) (B : Nat) (w : World) (hv : ERow w B v es) (hB : B ≤ w.heap.size) (hx : es.length ≤ maxLen) (hs : ∀ e ∈ es, e.1.size ≤ maxLen ∧ e.2.size ≤ maxLen) (m : Int) (hm0 : 0 ≤ m) (hm1 : m ≤ 1048576) :
    Calls Try.prog 4 #[v, .int .i64 m] w fun e w' => ∃ r, e = .returned (.int .i64 r) ∧ (0 ≤ r → es.length ≤ m) ∧ r ≤ m ∧ Below w.heap.size w w' := by
  obtain ⟨A, c, rfl, hA⟩ := hv
  unfold maxLen at hx
  obtain ⟨n, hn⟩ : ∃ n, es.length = n := ⟨_, rfl⟩
  have HA := hidv hA
  rw [hn] at hx ⊢
  have HN := hidv hn
  have HS := hidv hs
  clear hn hA hs
  by_cases hnm : m < (n : Int)
  · go_enter Try.func4, Try.ntmps4
    go_wp2
    go_ret
    exact ⟨_, rfl, fun h => by omega, by omega, Below.refl _ _⟩
  · go_enter Try.func4, Try.ntmps4
    go_wp2
    go_loopw [1, 5] (fun l i wr => ∃ (k : Nat) (q : Int), k ≤ n ∧ i = .int .i64 k ∧ l = .int .i64 q ∧ 0 ≤ q ∧ q ≤ m ∧ Hid (Below w.heap.size w wr)) (fun _ i _ => n - (intOf i).toNat)
    case atStart => exact ⟨0, _, Nat.zero_le _, rfl, rfl, by omega, by omega, hidv (Below.refl _ _)⟩
    case round =>
      obtain ⟨k, q, hk, rfl, rfl, hq0, hq1, hbe⟩ := hrel
      by_cases hlt : k < n
      · have hkx : k < es.length := by have := HN.out; omega
        obtain ⟨g, o, rfl, hg, hce⟩ := HA.out (by omega)
        have c1 : wr.cell? ⟨g, o + k * 2, none⟩ = some (.string es[k].1) := (hbe.out.cell (p := ⟨g, _, none⟩) (by show g < _; omega)).trans (hce k hkx).1
        have c2 : wr.cell? ⟨g, o + k * 2 + 1, none⟩ = some (.string es[k].2) := (hbe.out.cell (p := ⟨g, _, none⟩) (by show g < _; omega)).trans (hce k hkx).2
        have hsz := HS.out es[k] (List.getElem_mem _)
        obtain ⟨⟨x, y⟩, hxy⟩ : ∃ x, es[k] = x := ⟨_, rfl⟩
        rw [hxy] at c1 c2 hsz
        have hcall := fun W => szEqn_any x y q W hsz.1 hsz.2 (by omega) (by omega)
        have HC := hidv hcall
        clear hxy hce hcall hsz
        dsimp only at c1 c2
        go_wp2_with fail
        refine (HC.out _).mono ?_
        rintro e w2 ⟨r, rfl, _, hrq, hb2⟩
        have HB2 := hidv (hbe.out.trans (hb2.mono hbe.out.size))
        clear hb2
        by_cases hr : r < 0
        · go_wp2_with fail
          go_ret
          exact ⟨_, rfl, fun h => by omega, by omega, HB2.out⟩
        · go_wp2_with fail
          go_roundw
          case rel => exact ⟨k + 1, r, by omega, by go_num, rfl, by omega, by omega, HB2⟩
          case measure => simp [intOf]; omega
      · go_wp2
        go_ret
        exact ⟨_, rfl, fun h => by omega, by omega, hbe.out⟩

theorem Try.infoE : (Try.prog.info? 41).map (fun i => (i.zero, i.size, i.bytes)) = some (some (.agg #[.string ⟨#[]⟩, .string ⟨#[]⟩]), 2, 32) := by kernel_rfl

set_option maxRecDepth 100000 in
set_option maxHeartbeats 800000 in
theorem toEqns_any (v : Value) (es : List Eqn) (B : Nat) (w : World) (hv : ERow w B v es) (hB : B ≤ w.heap.size) (hx : es.length ≤ 1048576) :
    Calls Try.prog 6 #[v] w fun e w' => ∃ u, e = .returned u ∧ Eqns w' w.heap.size u es ∧ Below w.heap.size w w' := by
  obtain ⟨i0, hi, hz0, hz1, hz2⟩ := info_parts Try.infoE
  obtain ⟨A, c, rfl, hA⟩ := hv
  have HA := hidv hA
  clear hA
  obtain ⟨n, hn⟩ : ∃ n, es.length = n := ⟨_, rfl⟩
  rw [hn] at hx ⊢
  have HN := hidv hn
  clear hn
  go_enter Try.func6, Try.ntmps6
  go_wp2_with (at_make; refine wpList_make_full _ rfl _ _ 27 rfl w.heap.size 41 i0 (.agg #[.string ⟨#[]⟩, .string ⟨#[]⟩]) 2 Try.underlying27 hi hz0 hz1 _ _ _ _ n rfl rfl rfl rfl (by rw [hz2]; omega) (by unfold maxLen; omega) (Nat.le_refl _) ?_; intro w0 hown0 hgr0)
  have hb0 : Below w.heap.size w w0 := below_grown hgr0 (Nat.le_refl _) (fun k hk => by cases hk)
  have hown1 : w0.ownsRow w.heap.size 41 2 (.slice (some ⟨w.heap.size, 0, none⟩) n n) n (flatE (es.take 0 ++ List.replicate (n - 0) (⟨#[]⟩, ⟨#[]⟩))) := by
    rw [List.take_zero, List.nil_append, Nat.sub_zero, flatE_rep, ← made_two]
    exact hown0
  have HO0 := hidv hown1
  clear hown0 hgr0 hown1
  go_loopw [4] (fun i wr => ∃ k : Nat, k ≤ n ∧ i = .int .i64 k ∧ Hid (wr.ownsRow w.heap.size 41 2 (.slice (some ⟨w.heap.size, 0, none⟩) n n) n (flatE (es.take k ++ List.replicate (n - k) (⟨#[]⟩, ⟨#[]⟩)))) ∧ Hid (Below w.heap.size w wr)) (fun i _ => n - (intOf i).toNat)
  case atStart => exact ⟨0, Nat.zero_le _, rfl, HO0, hidv hb0⟩
  case round =>
    obtain ⟨k, hk, rfl, hown, hb⟩ := hrel
    by_cases hlt : k < n
    · have hkx : k < es.length := by have := HN.out; omega
      obtain ⟨g, o, rfl, hg, hce⟩ := HA.out (by have := HN.out; omega)
      have c1 : wr.cell? ⟨g, o + k * 2, none⟩ = some (.string es[k].1) := (hb.out.cell (p := ⟨g, _, none⟩) (by show g < _; omega)).trans (hce k hkx).1
      have c2 : wr.cell? ⟨g, o + k * 2 + 1, none⟩ = some (.string es[k].2) := (hb.out.cell (p := ⟨g, _, none⟩) (by show g < _; omega)).trans (hce k hkx).2
      have hset := set_copyE es k n hkx HN.out
      obtain ⟨⟨x, y⟩, hxy⟩ : ∃ x, es[k] = x := ⟨_, rfl⟩
      rw [hxy] at c1 c2 hset
      have HSET := hidv hset
      clear hxy hce hset
      dsimp only at c1 c2
      go_wp2_with fail
      refine (toEqn_any x y _).mono ?_
      rintro e w2 ⟨rfl, hb2⟩
      have hlr : (flatE (es.take k ++ List.replicate (n - k) (⟨#[]⟩, ⟨#[]⟩))).length = n * 2 := by
        rw [flatE_length, List.length_append, List.length_take, List.length_replicate]; omega
      have hown2 := hown.out.kept (row := none) ⟨hb2.os, hb2.tape, hb2.output, hb2.size, fun k hk _ => hb2.block k hk⟩ (.inr (by simp [Value.ownBlock]))
      have HS1 := hidv (hown2.stored (k * 2) (.string x))
      have HS2 := hidv (HS1.out.1.stored (k * 2 + 1) (.string y))
      obtain ⟨z0, d0⟩ : ∃ z, w2.cell? ⟨w.heap.size, k * 2, none⟩ = some z := by
        rw [hown2.cellAt (k * 2) (by omega), List.getElem?_eq_getElem (by omega)]
        exact ⟨_, rfl⟩
      obtain ⟨z1, d1⟩ : ∃ z, w2.cell? ⟨w.heap.size, k * 2 + 1, none⟩ = some z := by
        rw [hown2.cellAt (k * 2 + 1) (by omega), List.getElem?_eq_getElem (by omega)]
        exact ⟨_, rfl⟩
      have f0 : w2.frozen? ⟨w.heap.size, k * 2, none⟩ = false := hown2.frozenAt _
      have f1 : w2.frozen? ⟨w.heap.size, k * 2 + 1, none⟩ = false := hown2.frozenAt _
      have HB2 := hidv (hb.out.trans (hb2.mono hb.out.size))
      clear hb2 hown2 hlr
      go_wp2
      go_roundw
      case rel =>
        refine ⟨k + 1, by omega, by go_num, hidv ?_, hidv ((HB2.out.setCell (Nat.le_refl _) _).setCell (Nat.le_refl _) _)⟩
        rw [← HSET.out]
        exact HS2.out.1
      case measure => simp [intOf]; omega
    · obtain rfl : k = n := by omega
      go_wp2
      go_ret
      refine ⟨_, rfl, ?_, hb.out⟩
      have h := hown.out
      rw [List.take_of_length_le (by have := HN.out; omega), Nat.sub_self, List.replicate_zero, List.append_nil] at h
      unfold Eqns
      rw [HN.out]
      exact h

theorem take_eq_succE {xs ys : List Eqn} {k : Nat} (hx : k < xs.length) (hy : k < ys.length) (h : xs.take k = ys.take k) (he : xs[k] = ys[k]) : xs.take (k + 1) = ys.take (k + 1) := by
  rw [List.take_succ_eq_append_getElem hx, List.take_succ_eq_append_getElem hy, h, he]

set_option maxRecDepth 100000 in
set_option maxHeartbeats 800000 in
theorem eqEqns_same {v u : Value} {L : List Eqn} {B C : Nat} {w : World} (hv : ERow w B v L) (hu : ERow w C u L) (hB : B ≤ w.heap.size) (hC : C ≤ w.heap.size) (hl : L.length ≤ 1000000000) :
    Calls Try.prog 9 #[v, u] w fun e w' => e = .returned (.bool true) ∧ Below w.heap.size w w' := by
  obtain ⟨A, c, rfl, hA⟩ := hv
  obtain ⟨A', c', rfl, hA'⟩ := hu
  obtain ⟨n, hn⟩ : ∃ n, L.length = n := ⟨_, rfl⟩
  have HA := hidv hA
  have HA' := hidv hA'
  rw [hn] at hl ⊢
  have HN := hidv hn
  clear hn hA hA'
  go_enter Try.func9, Try.ntmps9
  go_wp2
  go_loopw [5] (fun i wr => ∃ k : Nat, k ≤ n ∧ i = .int .i64 k ∧ Hid (Below w.heap.size w wr)) (fun i _ => n - (intOf i).toNat)
  case atStart => exact ⟨0, Nat.zero_le _, rfl, hidv (Below.refl _ _)⟩
  case round =>
    obtain ⟨k, hk, rfl, hb⟩ := hrel
    by_cases hlt : k < n
    · have hkx : k < L.length := by have := HN.out; omega
      obtain ⟨g, o, rfl, hg, hc⟩ := HA.out (by omega)
      obtain ⟨g', o', rfl, hg', hc'⟩ := HA'.out (by omega)
      have hk1 := hc k hkx
      have hk2 := hc' k hkx
      obtain ⟨⟨x, y⟩, hx1⟩ : ∃ x, L[k] = x := ⟨_, rfl⟩
      rw [hx1] at hk1 hk2
      have hS : ∀ w', Below w.heap.size w w' → w'.cell? ⟨g, o + k * 2, none⟩ = some (.string x) ∧ w'.cell? ⟨g, o + k * 2 + 1, none⟩ = some (.string y) ∧ w'.cell? ⟨g', o' + k * 2, none⟩ = some (.string x) ∧ w'.cell? ⟨g', o' + k * 2 + 1, none⟩ = some (.string y) ∧ Below w.heap.size w w' := fun w' hw =>
        ⟨(hw.cell (p := ⟨g, _, none⟩) (by show g < _; omega)).trans hk1.1, (hw.cell (p := ⟨g, _, none⟩) (by show g < _; omega)).trans hk1.2, (hw.cell (p := ⟨g', _, none⟩) (by show g' < _; omega)).trans hk2.1, (hw.cell (p := ⟨g', _, none⟩) (by show g' < _; omega)).trans hk2.2, hw⟩
      have HS := hidv hS
      have hcall := fun W => eqEqn_same x y W
      have HC := hidv hcall
      have hb' := hb.out
      have i1 : (0 : Int) ≤ (k : Int) := by omega
      have i2 : (k : Int) < (n : Int) := by omega
      clear hx1 hc hc' hk1 hk2 hS hcall
      go_wp2_with fail
      go_region_held3 (fun w' => w'.cell? ⟨g, o + k * 2, none⟩ = some (.string x) ∧ w'.cell? ⟨g, o + k * 2 + 1, none⟩ = some (.string y) ∧ w'.cell? ⟨g', o' + k * 2, none⟩ = some (.string x) ∧ w'.cell? ⟨g', o' + k * 2 + 1, none⟩ = some (.string y) ∧ Below w.heap.size w w') (first | exact HS.out _ (Below.drew hb') | exact HS.out _ (below_on (Below.drew hb') hbw)) (first | (go_at_call 20; refine (HC.out _).mono ?_; rintro e w2 ⟨rfl, hbw⟩))
      go_wp2
      have hbe : Below w.heap.size w w2 := below_on (Below.drew hb') hbw
      go_roundw
      case rel => exact ⟨k + 1, by omega, by go_num, hidv hbe⟩
      case measure => simp [intOf]; omega
    · go_wp2
      go_ret
      exact ⟨rfl, hb.out⟩

/-- What a list of equations has to be: at most four, each of two terms. -/
def sysB (es : List Eqn) : Bool := decide (es.length ≤ 4) && es.all fun e => eqnB e.1 e.2
theorem allE_succ (es : List Eqn) (k : Nat) (h : k < es.length) : ((es.take (k + 1)).all fun e => eqnB e.1 e.2) = (((es.take k).all fun e => eqnB e.1 e.2) && eqnB es[k].1 es[k].2) := by
  rw [List.take_succ_eq_append_getElem h, List.all_append]
  simp
theorem allE_false (es : List Eqn) (k : Nat) (h : k < es.length) (hf : eqnB es[k].1 es[k].2 = false) : (es.all fun e => eqnB e.1 e.2) = false := by
  rw [List.all_eq_false]
  exact ⟨es[k], List.getElem_mem h, by simp [hf]⟩

set_option maxHeartbeats 800000 in
theorem specSys_any (v : Value) (es : List Eqn) (B : Nat) (w : World) (hv : ERow w B v es) (hB : B ≤ w.heap.size) (hx : es.length ≤ 1048576) (hs : ∀ e ∈ es, e.1.size ≤ maxLen ∧ e.2.size ≤ maxLen) :
    Calls Try.prog 12 #[v] w fun e w' => e = .returned (.bool (sysB es)) ∧ Below w.heap.size w w' := by
  obtain ⟨A, c, rfl, hA⟩ := hv
  obtain ⟨n, hn⟩ : ∃ n, es.length = n := ⟨_, rfl⟩
  have HA := hidv hA
  rw [hn] at hx ⊢
  have HN := hidv hn
  have HS := hidv hs
  obtain ⟨b, hb⟩ : ∃ b, sysB es = b := ⟨_, rfl⟩
  rw [hb]
  have HB : Hid ((decide (es.length ≤ 4) && es.all fun e => eqnB e.1 e.2) = b) := hb
  clear hn hA hs hb
  go_enter Try.func12, Try.ntmps12
  go_wp2
  go_loopw [3] (fun i wr => ∃ k : Nat, k ≤ n ∧ i = .int .i64 k ∧ Hid (((es.take k).all fun e => eqnB e.1 e.2) = true) ∧ Hid (Below w.heap.size w wr)) (fun i _ => n - (intOf i).toNat)
  case atStart => exact ⟨0, Nat.zero_le _, rfl, hidv (by simp), hidv (Below.refl _ _)⟩
  case round =>
    obtain ⟨k, hk, rfl, hall, hbe⟩ := hrel
    by_cases hlt : k < n
    · have hkx : k < es.length := by have := HN.out; omega
      obtain ⟨g, o, rfl, hg, hce⟩ := HA.out (by omega)
      have c1 : wr.cell? ⟨g, o + k * 2, none⟩ = some (.string es[k].1) := (hbe.out.cell (p := ⟨g, _, none⟩) (by show g < _; omega)).trans (hce k hkx).1
      have c2 : wr.cell? ⟨g, o + k * 2 + 1, none⟩ = some (.string es[k].2) := (hbe.out.cell (p := ⟨g, _, none⟩) (by show g < _; omega)).trans (hce k hkx).2
      have hsz := HS.out es[k] (List.getElem_mem _)
      have hsu := allE_succ es k hkx
      have hfa := allE_false es k hkx
      rw [hall.out, Bool.true_and] at hsu
      obtain ⟨⟨x, y⟩, hxy⟩ : ∃ x, es[k] = x := ⟨_, rfl⟩
      rw [hxy] at c1 c2 hsz hsu hfa
      have hcall := fun W => specOk_any x y W hsz.1 hsz.2
      obtain ⟨q, hq⟩ : ∃ q, eqnB x y = q := ⟨_, rfl⟩
      dsimp only at hsu hfa c1 c2
      rw [hq] at hcall hsu hfa
      have HC := hidv hcall
      have HSU := hidv hsu
      have HFA := hidv hfa
      clear hxy hce hcall hsz hsu hfa hq
      go_wp2_with fail
      refine (HC.out _).mono ?_
      rintro e w2 ⟨rfl, hb2⟩
      have HB2 := hidv (hbe.out.trans (hb2.mono hbe.out.size))
      clear hb2
      cases q
      · go_wp2_with fail
        go_ret
        exact ⟨ret_bool (by rw [← HB.out, HFA.out (by trivial), Bool.and_false]), HB2.out⟩
      · go_wp2_with fail
        go_roundw
        case rel => exact ⟨k + 1, by omega, by go_num, HSU, HB2⟩
        case measure => simp [intOf]; omega
    · obtain rfl : k = n := by omega
      go_wp2
      go_ret
      refine ⟨ret_bool ?_, hbe.out⟩
      have h2 := hall.out
      rw [List.take_of_length_le (by have := HN.out; omega)] at h2
      rw [← HB.out, h2, Bool.and_true, Bool.eq_iff_iff]
      have := HN.out
      simp
      omega

set_option maxHeartbeats 800000 in
theorem implSys_any (v : Value) (es : List Eqn) (B : Nat) (w : World) (hv : ERow w B v es) (hB : B ≤ w.heap.size) (hx : es.length ≤ 1048576) (hs : ∀ e ∈ es, e.1.size ≤ maxLen ∧ e.2.size ≤ maxLen) :
    Calls Try.prog 17 #[v] w fun e w' => e = .returned (.bool (sysB es)) ∧ Below w.heap.size w w' := by
  obtain ⟨A, c, rfl, hA⟩ := hv
  obtain ⟨n, hn⟩ : ∃ n, es.length = n := ⟨_, rfl⟩
  have HA := hidv hA
  rw [hn] at hx ⊢
  have HN := hidv hn
  have HS := hidv hs
  obtain ⟨b, hb⟩ : ∃ b, sysB es = b := ⟨_, rfl⟩
  rw [hb]
  have HB : Hid ((decide (es.length ≤ 4) && es.all fun e => eqnB e.1 e.2) = b) := hb
  clear hn hA hs hb
  by_cases h4 : (4 : Int) < (n : Int)
  · obtain rfl : b = false := by
      rw [← HB.out, decide_eq_false (by have := HN.out; omega), Bool.false_and]
    go_enter Try.func17, Try.ntmps17
    go_wp2
    go_ret
    exact ⟨rfl, Below.refl _ _⟩
  go_enter Try.func17, Try.ntmps17
  go_wp2
  go_loopw [10] (fun i wr => ∃ k : Nat, k ≤ n ∧ i = .int .i64 k ∧ Hid (((es.take k).all fun e => eqnB e.1 e.2) = true) ∧ Hid (Below w.heap.size w wr)) (fun i _ => n - (intOf i).toNat)
  case atStart => exact ⟨0, Nat.zero_le _, rfl, hidv (by simp), hidv (Below.refl _ _)⟩
  case round =>
    obtain ⟨k, hk, rfl, hall, hbe⟩ := hrel
    by_cases hlt : k < n
    · have hkx : k < es.length := by have := HN.out; omega
      obtain ⟨g, o, rfl, hg, hce⟩ := HA.out (by omega)
      have c1 : wr.cell? ⟨g, o + k * 2, none⟩ = some (.string es[k].1) := (hbe.out.cell (p := ⟨g, _, none⟩) (by show g < _; omega)).trans (hce k hkx).1
      have c2 : wr.cell? ⟨g, o + k * 2 + 1, none⟩ = some (.string es[k].2) := (hbe.out.cell (p := ⟨g, _, none⟩) (by show g < _; omega)).trans (hce k hkx).2
      have hsz := HS.out es[k] (List.getElem_mem _)
      have hsu := allE_succ es k hkx
      have hfa := allE_false es k hkx
      rw [hall.out, Bool.true_and] at hsu
      obtain ⟨⟨x, y⟩, hxy⟩ : ∃ x, es[k] = x := ⟨_, rfl⟩
      rw [hxy] at c1 c2 hsz hsu hfa
      have hcall := fun W => implOk_any x y W hsz.1 hsz.2
      obtain ⟨q, hq⟩ : ∃ q, eqnB x y = q := ⟨_, rfl⟩
      dsimp only at hsu hfa c1 c2
      rw [hq] at hcall hsu hfa
      have HC := hidv hcall
      have HSU := hidv hsu
      have HFA := hidv hfa
      clear hxy hce hcall hsz hsu hfa hq
      go_wp2_with fail
      refine (HC.out _).mono ?_
      rintro e w2 ⟨rfl, hb2⟩
      have HB2 := hidv ((hbe.out.alloc hbe.out.size (.cells #[.string x, .string y] 41)).trans (hb2.mono (by have := hbe.out.size; simp; omega)))
      clear hb2
      cases q
      · go_wp2_with fail
        go_ret
        exact ⟨ret_bool (by rw [← HB.out, HFA.out (by trivial), Bool.and_false]), HB2.out⟩
      · go_wp2_with fail
        go_roundw
        case rel => exact ⟨k + 1, by omega, by go_num, HSU, HB2⟩
        case measure => simp [intOf]; omega
    · obtain rfl : k = n := by omega
      go_wp2
      go_ret
      refine ⟨ret_bool ?_, hbe.out⟩
      have h2 := hall.out
      rw [List.take_of_length_le (by have := HN.out; omega)] at h2
      rw [← HB.out, h2, Bool.and_true, Bool.eq_iff_iff]
      have := HN.out
      simp
      omega

end Go.Proofs.Ytgfdcpmjaamhdaa
