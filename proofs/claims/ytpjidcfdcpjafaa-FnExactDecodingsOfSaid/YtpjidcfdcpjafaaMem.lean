/-
  The laws' own functions on slices of numbers (equal; written over by marks; found marked): contracts.
-/
import Derived.Test.YtpjidcfdcpjafaaRow
namespace Go.Proofs.Ytpjidcfdcpjafaa
open Go.RowKit Go

set_option maxHeartbeats 400000 in
theorem eqInts_any (v u : Value) (xs ys : List Int) (B C : Nat) (w : World) (hv : Row w B v (xs.map (Value.int .i64))) (hu : Row w C u (ys.map (Value.int .i64))) (hx : xs.length ≤ maxLen) (hy : ys.length ≤ maxLen) :
    Calls Try.prog 80 #[v, u] w fun e w' => e = .returned (.bool (decide (xs = ys))) ∧ Below w.heap.size w w' := by
  unfold maxLen at hx hy
  obtain ⟨A, c, rfl, hA⟩ := hv
  obtain ⟨A', c', rfl, hA'⟩ := hu
  rw [List.length_map] at hA hA' ⊢
  rw [List.length_map]
  obtain ⟨r, hr⟩ : ∃ r, decide (xs = ys) = r := ⟨_, rfl⟩
  rw [hr]
  have HR := hidv hr
  clear hr
  by_cases hl : xs.length = ys.length
  · have hlb : ((xs.length : Int) != (ys.length : Int)) = false := by simp [hl]
    have HL := hidv hl
    have hl1 : xs.length ≤ ys.length := by omega
    clear hl
    by_cases h0 : xs.length = 0
    · have h1 : ys.length = 0 := by have := HL.out; omega
      have e1 : xs = [] := List.eq_nil_of_length_eq_zero h0
      have e2 : ys = [] := List.eq_nil_of_length_eq_zero h1
      subst e1 e2
      obtain rfl : r = true := by have := HR.out; simpa using this.symm
      clear HR HL hl1 hlb hA hA' hx hy h0 h1
      go_enter Try.func80, Try.ntmps80
      go_wp2
      refine wp_loop_rounds 1 ?_
      rw [rounds_succ]
      go_wp2
      go_ret
      exact ⟨rfl, Below.refl _ _⟩
    · obtain ⟨g, o, rfl, hg, hc⟩ := hA (by omega)
      obtain ⟨g', o', rfl, hg', hc'⟩ := hA' (by have := HL.out; omega)
      have HC := hidv hc
      have HC' := hidv hc'
      clear hc hc' hA hA' h0
      go_enter Try.func80, Try.ntmps80
      go_wp2
      go_loopw [5] (fun i wr => ∃ k : Nat, k ≤ xs.length ∧ i = .int .i64 k ∧ Hid (xs.take k = ys.take k) ∧ ∃ n, wr = w.drewN n) (fun i _ => xs.length - (intOf i).toNat)
      case atStart => exact ⟨0, Nat.zero_le _, rfl, hidv (by simp), 0, rfl⟩
      case round =>
        obtain ⟨k, hk, rfl, heq, n, rfl⟩ := hrel
        by_cases hlt : k < xs.length
        · have hlt2 : k < ys.length := by have := HL.out; omega
          have c1 : w.cell? ⟨g, o + k, none⟩ = some (.int .i64 xs[k]) := HC.out k _ (map_int_at hlt)
          have c2 : w.cell? ⟨g', o' + k, none⟩ = some (.int .i64 ys[k]) := HC'.out k _ (map_int_at hlt2)
          obtain ⟨x, hx1⟩ : ∃ x, xs[k] = x := ⟨_, rfl⟩
          obtain ⟨y, hy1⟩ : ∃ y, ys[k] = y := ⟨_, rfl⟩
          rw [hx1] at c1
          rw [hy1] at c2
          have HX := hidv hx1
          have HY := hidv hy1
          clear hx1 hy1
          go_wp2
          go_quiet (fail)
          go_wp2
          · have hne : (x != y) = true := by assumption
            go_ret
            refine ⟨ret_bool ?_, below_drewN (below_drewN (Below.refl _ _) _) _⟩
            rw [← HR.out]
            symm
            simp only [decide_eq_false_iff_not]
            intro he
            have : xs[k] = ys[k] := by simp [he]
            rw [HX.out, HY.out] at this
            simp [this] at hne
          · have hne : (x != y) = false := by assumption
            go_roundw
            case rel =>
              refine ⟨k + 1, by omega, by go_num, hidv (take_eq_succ hlt hlt2 heq.out ?_), _, rfl⟩
              rw [HX.out, HY.out]
              simpa using hne
            case measure => simp [intOf]; omega
        · go_wp2
          go_ret
          have he := heq.out
          rw [List.take_of_length_le (by omega), List.take_of_length_le (by have := HL.out; omega)] at he
          refine ⟨ret_bool ?_, below_drewN (Below.refl _ _) _⟩
          rw [← HR.out, he]
          simp
  · have hlb : ((xs.length : Int) != (ys.length : Int)) = true := by
      rw [bne_iff_ne]; omega
    obtain rfl : r = false := by
      have := HR.out
      rw [← this]
      simp
      intro h
      exact hl (by rw [h])
    clear HR hl hA hA'
    go_enter Try.func80, Try.ntmps80
    go_wp2
    go_ret
    exact ⟨rfl, Below.refl _ _⟩


set_option maxHeartbeats 400000 in
theorem markInts_any (v : Value) (xs : List Int) (base e m : Nat) (w : World) (hv : w.ownsRow base e 1 v xs.length (xs.map (Value.int .i64))) (hx : xs.length ≤ maxLen) (hm : m ≤ 1000000000) (hxm : xs.length ≤ 1000000000) :
    Calls Try.prog 82 #[v, .int .i64 m] w fun e' w' => e' = .returned (.int .i64 (m + xs.length : Nat)) ∧ w'.ownsRow base e 1 v xs.length ((marks m xs.length).map (Value.int .i64)) ∧ w.grownBy w' v.ownBlock := by
  unfold maxLen at hx
  rcases hv.2 with ⟨rfl, h0⟩ | ⟨g, cap, cur, rfl, hb, hg, hnc, hcm, hs, ht⟩
  · have e1 : xs = [] := List.eq_nil_of_length_eq_zero h0
    subst e1
    clear hx hm hxm h0
    go_enter Try.func82, Try.ntmps82
    go_wp2
    refine wp_loop_rounds 1 ?_
    rw [rounds_succ]
    go_wp2
    go_ret
    exact ⟨rfl, hv, World.grownBy.refl _ _⟩
  · clear hb hg hnc hcm hs ht
    go_enter Try.func82, Try.ntmps82
    go_wp2
    go_loopw [1, 5] (fun q i wr => ∃ k : Nat, k ≤ xs.length ∧ i = .int .i64 k ∧ q = .int .i64 (m + k : Nat) ∧ wr.ownsRow base e 1 (.slice (some ⟨g, 0, none⟩) xs.length cap) xs.length ((marks m k ++ xs.drop k).map (Value.int .i64)) ∧ w.grownBy wr (some g)) (fun _ i _ => xs.length - (intOf i).toNat)
    case atStart => exact ⟨0, Nat.zero_le _, rfl, rfl, by simpa [marks] using hv, World.grownBy.refl _ _⟩
    case round =>
      obtain ⟨k, hk, rfl, rfl, hown, hgr⟩ := hrel
      by_cases hlt : k < xs.length
      · have hcell : wr.cell? ⟨g, k, none⟩ = some (.int .i64 xs[k]) := by
          rw [hown.cellAt k (by omega), List.getElem?_map, List.getElem?_append_right (by rw [marks_length]; exact Nat.le_refl _), marks_length, Nat.sub_self, List.getElem?_drop, Nat.add_zero, List.getElem?_eq_getElem hlt]
          rfl
        have hfr : wr.frozen? ⟨g, k, none⟩ = false := hown.frozenAt k
        have hst := hown.stored k (.int .i64 ((m + k : Nat) : Int))
        rw [set_marks xs m k hlt] at hst
        have HST := hidv hst
        have HOWN := hidv hown
        clear hst hown
        go_wp2
        go_roundw
        case rel =>
          refine ⟨k + 1, by omega, by go_num, by go_num, HST.out.1, ?_⟩
          exact grown_trans hgr HST.out.2
        case measure => simp [intOf]; omega
      · have hkn : k = xs.length := by omega
        subst hkn
        go_wp2
        go_ret
        refine ⟨rfl, ?_, hgr⟩
        simpa using hown

theorem held_ne {m k : Nat} {x : Int} (h : x = ((m + k : Nat) : Int)) : (x != (m : Int) + (k : Int)) = false := by
  rw [h]; simp

set_option maxHeartbeats 400000 in
theorem heldInts_any (v : Value) (n B m : Nat) (w : World) (hv : Row w B v ((marks m n).map (Value.int .i64))) (hx : n ≤ maxLen) (hm : m ≤ 1000000000) (hxm : n ≤ 1000000000) :
    Calls Try.prog 83 #[v, .int .i64 m] w fun e' w' => e' = .returned (.int .i64 (m + n : Nat)) ∧ w = w' := by
  unfold maxLen at hx
  obtain ⟨A, c, rfl, hA⟩ := hv
  rw [List.length_map, marks_length] at hA ⊢
  by_cases h0 : n = 0
  · subst h0
    clear hA hx hxm
    go_enter Try.func83, Try.ntmps83
    go_wp2
    refine wp_loop_rounds 1 ?_
    rw [rounds_succ]
    go_wp2
    go_ret
    exact ⟨rfl, rfl⟩
  · obtain ⟨g, o, rfl, hg, hc⟩ := hA (by omega)
    have HC := hidv hc
    clear hc hA
    go_enter Try.func83, Try.ntmps83
    go_wp2
    go_loop [1, 5] (fun q i => ∃ k : Nat, k ≤ n ∧ i = .int .i64 k ∧ q = .int .i64 (m + k : Nat)) (fun _ i => n - (intOf i).toNat)
    case atStart => exact ⟨0, Nat.zero_le _, rfl, rfl⟩
    case round =>
      obtain ⟨k, hk, rfl, rfl⟩ := hrel
      by_cases hlt : k < n
      · have c1 : w.cell? ⟨g, o + k, none⟩ = some (.int .i64 ((m + k : Nat) : Int)) := HC.out k _ (by rw [List.getElem?_map, marks_at hlt]; rfl)
        go_wp2
        go_round
        case rel => exact ⟨k + 1, by omega, by go_num, by go_num⟩
        case measure => simp [intOf]; omega
      · obtain rfl : k = n := by omega
        go_wp2
        go_ret
        exact ⟨rfl, rfl⟩


theorem eqInts_same {v u : Value} {L : List Int} {B C : Nat} {w : World} (hv : Row w B v (L.map (Value.int .i64))) (hu : Row w C u (L.map (Value.int .i64))) (hl : L.length ≤ 1000000000) :
    Calls Try.prog 80 #[v, u] w fun e w' => e = .returned (.bool true) ∧ Below w.heap.size w w' := by
  have h := eqInts_any v u L L B C w hv hu (by unfold maxLen; omega) (by unfold maxLen; omega)
  rw [show decide (L = L) = true from by simp] at h
  exact h

theorem markInts_ownT {e : TypeId} {v : Value} {L : List Int} {base : Nat} {w : World} (hv : IntsT e w base v L) (hl : L.length ≤ 1000000) (hbase : base ≤ w.heap.size) :
    Calls Try.prog 82 #[v, .int .i64 1] w fun e' w' => e' = .returned (.int .i64 (1 + L.length : Nat)) ∧ IntsT e w' base v (marks 1 L.length) ∧ Below base w w' := by
  refine (markInts_any v L base e 1 w hv (by unfold maxLen; omega) (by omega) (by omega)).mono ?_
  rintro e' w' ⟨rfl, hown, hg⟩
  refine ⟨rfl, ?_, below_grown hg hbase fun k hk => (World.ownsRow.lt hv k hk).1⟩
  unfold IntsT
  rw [marks_length]
  exact hown

theorem markInts_own {v : Value} {L : List Int} {base : Nat} {w : World} (hv : Ints w base v L) (hl : L.length ≤ 1000000) (hbase : base ≤ w.heap.size) :
    Calls Try.prog 82 #[v, .int .i64 1] w fun e' w' => e' = .returned (.int .i64 (1 + L.length : Nat)) ∧ Ints w' base v (marks 1 L.length) ∧ Below base w w' := by
  refine (markInts_any v L base 2 1 w hv (by unfold maxLen; omega) (by omega) (by omega)).mono ?_
  rintro e w' ⟨rfl, hown, hg⟩
  refine ⟨rfl, ?_, below_grown hg hbase fun k hk => (World.ownsRow.lt hv k hk).1⟩
  unfold Ints
  rw [marks_length]
  exact hown

theorem heldInts_own {v : Value} {n B : Nat} {w : World} (hv : Row w B v ((marks 1 n).map (Value.int .i64))) (hn : n ≤ 1000000) :
    Calls Try.prog 83 #[v, .int .i64 1] w fun e' w' => e' = .returned (.int .i64 (1 + n : Nat)) ∧ w = w' :=
  heldInts_any v n B 1 w hv (by unfold maxLen; omega) (by omega) (by omega)

end Go.Proofs.Ytpjidcfdcpjafaa
