/-
  Slices of states with words, in memory; slices.ContainsFunc over them by a closure that holds a state: contracts.
-/
import Derived.Test.YtncjfafailefoaaFa
import Derived.Test.YtncjfafailefoaaRow2
namespace Go.Proofs.Ytncjfafailefoaa
open Go.RowKit Go
set_option linter.unusedVariables false

theorem own_far2 {w : World} {base e size g1 n c g j n' : Nat} {x : Value} {xs : List Value} (h : w.ownsRow base e size (.slice (some ⟨g1, 0, none⟩) n c) n' xs) (hne : g1 ≠ g) : (w.setCell ⟨g, j, none⟩ x).ownsRow base e size (.slice (some ⟨g1, 0, none⟩) n c) n' xs :=
  h.kept (row := some g) (grown_setCell _ _ _ _) (.inr (by simp [Value.ownBlock]; omega))
theorem two_newF (w : World) (x y : Value) (t : TypeId) : ∀ (j : Nat) (u : Value), [x, y][j]? = some u → (w.alloc (.cells #[x, y] t)).cell? ((⟨w.heap.size, 0, none⟩ : Addr).add j) = some u := by
  intro j u hu
  match j, hu with
  | 0, hu =>
    obtain rfl : x = u := by simpa using hu
    exact (Bx.new w t #[x, y]).cell 0
  | 1, hu =>
    obtain rfl : y = u := by simpa using hu
    exact (Bx.new w t #[x, y]).cell 1
theorem two_cellF (t : Int) (x : ByteArray) : ∀ u : Value, u ∈ [Value.int .i64 t, Value.string x] → u.oneCell' = true := by
  intro u hu
  simp only [List.mem_cons, List.not_mem_nil, or_false] at hu
  rcases hu with rfl | rfl <;> rfl
theorem Try.infoAr : (Try.prog.info? 69).map (fun i => (i.zero, i.size, i.bytes)) = some (some (.agg #[.int .i64 0, .string ⟨#[]⟩]), 2, 24) := by kernel_rfl
/-- The cells of states with words. -/
def arV (L : List (Int × ByteArray)) : List Value := L.flatMap fun a => [.int .i64 a.1, .string a.2]
theorem arV_length (L : List (Int × ByteArray)) : (arV L).length = L.length * 2 := by
  induction L with
  | nil => rfl
  | cons e es ih => simp only [arV, List.flatMap_cons, List.length_append, List.length_cons, List.length_nil] at ih ⊢; omega
theorem arV_at : ∀ (L : List (Int × ByteArray)) (i : Nat) (h : i < L.length), (arV L)[i * 2]? = some (.int .i64 L[i].1) ∧ (arV L)[i * 2 + 1]? = some (.string L[i].2)
  | e :: es, 0, _ => ⟨rfl, rfl⟩
  | e :: es, i + 1, h => by
    have ih := arV_at es i (by simpa using h)
    have e1 : (i + 1) * 2 = i * 2 + 1 + 1 := by omega
    constructor
    · rw [e1]; exact ih.1
    · rw [e1]; exact ih.2
theorem arV_app (L : List (Int × ByteArray)) (a : Int × ByteArray) : arV (L ++ [a]) = arV L ++ [.int .i64 a.1, .string a.2] := by simp [arV]
theorem ar_cells {w : World} {base g n c : Nat} {e : TypeId} {L : List (Int × ByteArray)} (h : w.ownsRow base e 2 (.slice (some ⟨g, 0, none⟩) n c) n (arV L)) (i : Nat) (hi : i < L.length) :
    w.cell? ⟨g, i * 2, none⟩ = some (.int .i64 L[i].1) ∧ w.cell? ⟨g, i * 2 + 1, none⟩ = some (.string L[i].2) := by
  have hl : L.length * 2 = n * 2 := by rw [← arV_length]; exact h.1
  obtain ⟨h1, h2⟩ := arV_at L i hi
  exact ⟨by rw [h.cellAt (i * 2) (by omega), h1], by rw [h.cellAt (i * 2 + 1) (by omega), h2]⟩

set_option maxHeartbeats 400000 in
theorem closF_any (y t : Int) (x : ByteArray) (b : Nat) (w : World) (c0 : w.cell? ⟨b, 0, none⟩ = some (.int .i64 t)) :
    Calls Try.prog 49 #[.agg #[.int .i64 y, .string x], .pointer (some ⟨b, 0, none⟩)] w fun e w' => e = .returned (.bool (decide (y = t))) ∧ Below w.heap.size w w' := by
  have hlt : b < w.heap.size := World.block_lt_of_cell? _ _ c0
  by_cases h : y = t
  · subst h
    rw [decide_eq_true rfl]
    go_enter Try.func49, Try.ntmps49
    go_wp2_with fail
    go_ret
    exact ⟨rfl, below_al (Below.refl _ _) _⟩
  · rw [decide_eq_false h]
    go_enter Try.func49, Try.ntmps49
    go_wp2_with fail
    go_ret
    exact ⟨by simp [h], below_al (Below.refl _ _) _⟩

set_option maxRecDepth 100000 in
set_option maxHeartbeats 800000 in
theorem indexF_any (g c b : Nat) (t : Int) (L : List (Int × ByteArray)) (w : World) (hv : ∀ W, Below w.heap.size w W → ∀ i (hi : i < L.length), W.cell? ⟨g, i * 2, none⟩ = some (.int .i64 L[i].1) ∧ W.cell? ⟨g, i * 2 + 1, none⟩ = some (.string L[i].2))
    (hb : ∀ W, Below w.heap.size w W → W.cell? ⟨b, 0, none⟩ = some (.int .i64 t)) (hl : L.length ≤ 1048576) :
    Calls Try.prog 61 #[.slice (some ⟨g, 0, none⟩) L.length c, .func (.func 49) #[] #[.pointer (some ⟨b, 0, none⟩)]] w fun e w' => ∃ i : Int, e = .returned (.int .i64 i) ∧ (0 ≤ i ↔ t ∈ L.map Prod.fst) ∧ -1 ≤ i ∧ i ≤ 1048576 ∧ Below w.heap.size w w' := by
  obtain ⟨n, hn⟩ : ∃ n, L.length = n := ⟨_, rfl⟩
  have HV := hidv hv
  have HF := hidv (fun y x W hW => closF_any y t x b W (hb W hW))
  rw [hn] at hl ⊢
  have HN := hidv hn
  clear hv hb hn
  go_enter Try.func61, Try.ntmps61
  go_wp2
  go_loopw [8] (fun i wr => ∃ k : Nat, k ≤ n ∧ i = .int .i64 k ∧ Hid (∀ j (h : j < L.length), j < k → L[j].1 ≠ t) ∧ Hid (Below w.heap.size w wr)) (fun i _ => n - (intOf i).toNat)
  case atStart => exact ⟨0, Nat.zero_le _, rfl, hidv (fun j h hj => by omega), hidv (Below.refl _ _)⟩
  case round =>
    obtain ⟨k, hk, rfl, hall, hbe⟩ := hrel
    by_cases hlt : k < n
    · have hkx : k < L.length := by have := HN.out; omega
      obtain ⟨c1, c2⟩ := HV.out wr hbe.out k hkx
      have hmem := List.getElem_mem hkx
      obtain ⟨⟨y, x⟩, hyx⟩ : ∃ a, L[k] = a := ⟨_, rfl⟩
      rw [hyx] at c1 c2 hmem
      dsimp only at c1 c2
      have HC := hidv (HF.out y x wr hbe.out)
      obtain ⟨q, hq⟩ : ∃ q, decide (y = t) = q := ⟨_, rfl⟩
      rw [hq] at HC
      have HQ := hidv hq
      have HME := hidv hmem
      have HYX := hidv hyx
      clear hq hyx hmem
      go_wp2_with fail
      refine HC.out.mono ?_
      rintro e w2 ⟨rfl, hb2⟩
      have HB2 := hidv (below_on hbe.out hb2)
      clear hb2
      cases q
      · have hne : y ≠ t := of_decide_eq_false HQ.out
        have hall2 : ∀ j (h : j < L.length), j < k + 1 → L[j].1 ≠ t := fun j h hj => by
          rcases Nat.lt_or_ge j k with h2 | h2
          · exact hall.out j h h2
          · obtain rfl : j = k := by omega
            rw [HYX.out]
            exact hne
        have HALL := hidv hall2
        clear hall2
        go_wp2_with fail
        go_roundw
        case rel => exact ⟨k + 1, by omega, by go_num, HALL, HB2⟩
        case measure => simp [intOf]; omega
      · have he : y = t := of_decide_eq_true HQ.out
        subst he
        go_wp2_with fail
        go_ret
        exact ⟨_, rfl, ⟨fun _ => List.mem_map.2 ⟨_, HME.out, rfl⟩, fun _ => by omega⟩, by omega, by omega, HB2.out⟩
    · obtain rfl : k = n := by omega
      go_wp2
      go_ret
      exact ⟨_, rfl, ⟨fun h => absurd h (by omega), fun h => by
        obtain ⟨a, ha, he⟩ := List.mem_map.1 h
        obtain ⟨j, hj, rfl⟩ := List.mem_iff_getElem.1 ha
        exact absurd he (hall.out j hj (by have := HN.out; omega))⟩, by omega, by omega, hbe.out⟩

theorem containsF_any (g c b : Nat) (t : Int) (L : List (Int × ByteArray)) (w : World) (hv : ∀ W, Below w.heap.size w W → ∀ i (hi : i < L.length), W.cell? ⟨g, i * 2, none⟩ = some (.int .i64 L[i].1) ∧ W.cell? ⟨g, i * 2 + 1, none⟩ = some (.string L[i].2))
    (hb : ∀ W, Below w.heap.size w W → W.cell? ⟨b, 0, none⟩ = some (.int .i64 t)) (hl : L.length ≤ 1048576) (d : Bool) (hd : d = true ↔ t ∈ L.map Prod.fst) :
    Calls Try.prog 48 #[.slice (some ⟨g, 0, none⟩) L.length c, .func (.func 49) #[] #[.pointer (some ⟨b, 0, none⟩)]] w fun e w' => e = .returned (.bool d) ∧ Below w.heap.size w w' := by
  have C1 := hidv (indexF_any g c b t L w hv hb hl)
  obtain ⟨n, hn⟩ : ∃ n, L.length = n := ⟨_, rfl⟩
  rw [hn] at C1 ⊢
  clear hv hb hl hn
  go_enter Try.func48, Try.ntmps48
  go_wp2_with fail
  refine C1.out.mono ?_
  rintro e w1 ⟨i, rfl, hi, hi1, hi2, hb⟩
  cases d
  · have h0 : ¬ (0 ≤ i) := fun h => absurd (hd.mpr (hi.mp h)) (by simp)
    go_wp2_with fail
    go_ret
    exact ⟨ret_bool (a := decide (0 ≤ i)) (decide_eq_false (by omega)), hb⟩
  · have h0 : 0 ≤ i := hi.mpr (hd.mp rfl)
    go_wp2_with fail
    go_ret
    exact ⟨ret_bool (a := decide (0 ≤ i)) (decide_eq_true (by omega)), hb⟩

end Go.Proofs.Ytncjfafailefoaa
