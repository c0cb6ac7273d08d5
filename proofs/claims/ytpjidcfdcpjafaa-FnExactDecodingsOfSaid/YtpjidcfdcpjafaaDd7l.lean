/-
  The laws' marks in a list of rows that are apart, and what they find again: contracts.
-/
import Derived.Test.YtpjidcfdcpjafaaDd7f
import Derived.Test.YtpjidcfdcpjafaaI3
import Derived.Test.YtpjidcfdcpjafaaMem
namespace Go.Proofs.Ytpjidcfdcpjafaa
open Go.RowKit Go
set_option linter.unusedVariables false

theorem FoA.row {w : World} {base : Nat} {v : Value} {L : List (List Int)} (h : FoA w base v L) : IRows w w.heap.size v L := by
  obtain ⟨us, h1, h2, h3⟩ := h
  exact IG.row ⟨us, h1, h2⟩
theorem FoA.other {w w' : World} {base : Nat} {v : Value} {L : List (List Int)} {row : Option Nat} (h : FoA w base v L) (hg : w.grownBy w' row) (hr : ∀ k, row = some k → k < base) : FoA w' base v L := by
  obtain ⟨us, h1, h2, h3⟩ := h
  exact ⟨us, own_other h1 hg hr, ⟨h2.1, fun i hi => by
    obtain ⟨hq, h4⟩ := h2.2 i hi
    exact ⟨hq, own_other h4 hg hr⟩⟩, h3⟩
theorem FoA.below {w w' : World} {base : Nat} {v : Value} {L : List (List Int)} (h : FoA w base v L) (hb : Below w.heap.size w w') : FoA w' base v L := h.other (row := none) (grown_below hb) (fun k hk => by cases hk)
theorem eqIS_same {v u : Value} {L : List (List Int)} {w : World} (hv : IRows w w.heap.size v L) (hu : IRows w w.heap.size u L) (hl : L.length ≤ 200) (hr : ∀ r ∈ L, r.length ≤ 60) :
    Calls Try.prog 40 #[v, u] w fun e w' => e = .returned (.bool true) ∧ Below w.heap.size w w' := by
  have h := eqIS_any v u L L w hv hu (by unfold maxLen; omega) (by unfold maxLen; omega) (fun r h => by have := hr r h; unfold maxLen; omega) (fun r h => by have := hr r h; unfold maxLen; omega)
  rw [show decide (L = L) = true from by simp] at h
  exact h

def offs (L : List (List Int)) (i : Nat) : Nat := ((L.take i).map List.length).sum
theorem offs_succ (L : List (List Int)) (i : Nat) (h : i < L.length) : offs L (i + 1) = offs L i + L[i].length := by
  unfold offs
  rw [List.take_succ_eq_append_getElem h, List.map_append, List.sum_append]
  simp
theorem offs_le (L : List (List Int)) (hr : ∀ r ∈ L, r.length ≤ 60) : ∀ i, i ≤ L.length → offs L i ≤ 60 * i
  | 0, _ => by simp [offs]
  | i + 1, h => by
    rw [offs_succ L i (by omega)]
    have := offs_le L hr i (by omega)
    have := hr _ (List.getElem_mem (show i < L.length by omega))
    omega
/-- The rows: those of the first i marked. -/
def MkD (w : World) (base : Nat) (v : Value) (L : List (List Int)) (us : List Value) (i : Nat) : Prop :=
  w.ownsRow base 26 1 v L.length us ∧ us.length = L.length ∧ ∀ j (h : j < us.length), ∃ hr : j < L.length, w.ownsRow base 2 1 us[j] L[j].length ((if j < i then marks (1 + offs L j) L[j].length else L[j]).map (Value.int .i64))
/-- All marked. -/
def FoM (w : World) (base : Nat) (v : Value) (L : List (List Int)) : Prop := ∃ us, MkD w base v L us L.length
theorem FoM.below {w w' : World} {base : Nat} {v : Value} {L : List (List Int)} (h : FoM w base v L) (hb : Below w.heap.size w w') : FoM w' base v L := by
  obtain ⟨us, h1, h2, h3⟩ := h
  exact ⟨us, own_below h1 hb, h2, fun i hi => by
    obtain ⟨hq, h4⟩ := h3 i hi
    exact ⟨hq, own_below h4 hb⟩⟩
theorem MkD.next {w w' : World} {base i : Nat} {v : Value} {L : List (List Int)} {us : List Value} (h : MkD w base v L us i) (hp : us.Pairwise AP) (hi : i < us.length) (hr : i < L.length) (hm : w'.ownsRow base 2 1 us[i] L[i].length ((marks (1 + offs L i) L[i].length).map (Value.int .i64))) (hg : w.grownBy w' us[i].ownBlock) : MkD w' base v L us (i + 1) := by
  obtain ⟨h1, h2, h3⟩ := h
  obtain ⟨hq0, h40⟩ := h3 i hi
  refine ⟨own_kindsD h40 h1 (by decide) hg, h2, fun j hj => ?_⟩
  obtain ⟨hq, h4⟩ := h3 j hj
  refine ⟨hq, ?_⟩
  by_cases hji : j = i
  · subst hji
    rw [if_pos (Nat.lt_succ_self j)]
    exact hm
  · have hap : AP us[i] us[j] := by
      rcases Nat.lt_or_ge i j with h5 | h5
      · exact List.pairwise_iff_getElem.1 hp i j hi hj h5
      · exact (List.pairwise_iff_getElem.1 hp j i hj hi (by omega)).symm
    have h6 : w'.ownsRow base 2 1 us[j] L[j].length ((if j < i then marks (1 + offs L j) L[j].length else L[j]).map (Value.int .i64)) := h4.kept (row := us[i].ownBlock) hg (by
      rcases hu : us[j].ownBlock with _ | k
      · exact .inl rfl
      · exact .inr (fun e => hap k e.symm hu))
    have e : (if j < i + 1 then marks (1 + offs L j) L[j].length else L[j]) = (if j < i then marks (1 + offs L j) L[j].length else L[j]) := by
      by_cases h7 : j < i
      · rw [if_pos h7, if_pos (by omega)]
      · rw [if_neg h7, if_neg (by omega)]
    rw [e]
    exact h6

set_option maxRecDepth 100000 in
set_option maxHeartbeats 800000 in
theorem markFo_any (v : Value) (L : List (List Int)) (base : Nat) (w : World) (h : FoA w base v L) (hb : base ≤ w.heap.size) (hl : L.length ≤ 200) (hr : ∀ r ∈ L, r.length ≤ 60) :
    Calls Try.prog 42 #[v, .int .i64 1] w fun e w' => e = .returned (.int .i64 ((1 + offs L L.length : Nat) : Int)) ∧ FoM w' base v L ∧ Below base w w' := by
  obtain ⟨us, h1, h2, h3⟩ := h
  obtain ⟨A, c, hv, _⟩ := Row.of_own h1
  rw [h2.1] at hv
  subst hv
  have h0 : MkD w base (.slice A L.length c) L us 0 := ⟨h1, h2.1, fun j hj => by
    obtain ⟨hq, h4⟩ := h2.2 j hj
    exact ⟨hq, by rw [if_neg (Nat.not_lt_zero j)]; exact h4⟩⟩
  have hul := h2.1
  have HUL := hidv hul
  have HP := hidv h3
  have HR := hidv hr
  have H0 := hidv h0
  have HOF := hidv (offs_le L hr)
  have HOS := hidv (offs_succ L)
  obtain ⟨n, hn⟩ : ∃ n, L.length = n := ⟨_, rfl⟩
  rw [hn] at hl H0 HUL ⊢
  have HN := hidv hn
  clear h1 h2 h3 h0 hul hr hn
  go_enter Try.func42, Try.ntmps42
  go_wp2_with fail
  go_loopw [1, 5] (fun q i wr => ∃ k : Nat, k ≤ n ∧ i = .int .i64 (k : Int) ∧ q = .int .i64 ((1 + offs L k : Nat) : Int) ∧ Hid (MkD wr base (.slice A n c) L us k) ∧ Hid (Below base w wr)) (fun _ i _ => n - (intOf i).toNat)
  case atStart => exact ⟨0, Nat.zero_le _, rfl, rfl, H0, hidv (Below.refl _ _)⟩
  case round =>
    obtain ⟨k, hk, rfl, rfl, hm, hbe⟩ := hrel
    by_cases hlt : k < n
    · have hkx : k < L.length := by have := HN.out; omega
      have hku : k < us.length := by have := HUL.out; omega
      have hof := HOF.out k (by omega)
      have hos := HOS.out k hkx
      have hrk := HR.out L[k] (List.getElem_mem _)
      have hM := hm.out
      obtain ⟨hq, h4⟩ := hM.2.2 k hku
      rw [if_neg (Nat.lt_irrefl k)] at h4
      obtain ⟨A0, c0, hv0, hc0⟩ := Row.of_own hM.1
      have hc1 := hc0 (by omega)
      obtain ⟨g, o, hA, _, hce⟩ := hc1
      have c1 := hce k us[k] (List.getElem?_eq_getElem hku)
      simp only [Value.slice.injEq] at hv0
      obtain ⟨rfl, -, -⟩ := hv0
      subst hA
      have HC := hidv (markInts_any us[k] L[k] base 2 (1 + offs L k) wr h4 (by unfold maxLen; omega) (by omega) (by omega))
      have HX := hidv (fun w' h5 h6 => MkD.next (w' := w') hM HP.out hku hkx h5 h6)
      have HBB := hidv (fun w' (h6 : wr.grownBy w' us[k].ownBlock) => below_grown h6 (Nat.le_trans hb hbe.out.size) (fun q hq => (World.ownsRow.lt h4 q hq).1))
      obtain ⟨a1, n1, cp1, hu1⟩ : ∃ a n c, us[k] = .slice a n c := by
        obtain ⟨A, c, h, _⟩ := Row.of_own h4
        exact ⟨A, _, c, h⟩
      rw [hu1] at c1 HC
      have HU1 := hidv hu1
      clear hM h4 hc0 hce hu1
      go_wp2_with fail
      refine HC.out.mono ?_
      rintro e w2 ⟨rfl, h5, h6⟩
      rw [← HU1.out] at h5 h6
      have HM2 := hidv (HX.out w2 h5 h6)
      have HB2 := hidv (hbe.out.trans (HBB.out w2 h6))
      clear h5 h6 c1
      go_wp2_with fail
      go_roundw
      case rel => exact ⟨k + 1, by omega, by go_num, by rw [hos]; go_num, HM2, HB2⟩
      case measure => simp [intOf]; omega
    · obtain rfl : k = n := by omega
      go_wp2_with fail
      go_ret
      exact ⟨rfl, ⟨us, by rw [HN.out]; exact hm.out⟩, hbe.out⟩

set_option maxRecDepth 100000 in
set_option maxHeartbeats 800000 in
theorem heldFo_any (v : Value) (L : List (List Int)) (base : Nat) (w : World) (h : FoM w base v L) (hl : L.length ≤ 200) (hr : ∀ r ∈ L, r.length ≤ 60) :
    Calls Try.prog 43 #[v, .int .i64 1] w fun e w' => e = .returned (.int .i64 ((1 + offs L L.length : Nat) : Int)) ∧ w = w' := by
  obtain ⟨us, hm⟩ := h
  have hM := hm
  obtain ⟨A, c, hv, hcc⟩ := Row.of_own hm.1
  rw [hm.2.1] at hv
  subst hv
  have HUL := hidv hm.2.1
  have HR := hidv hr
  have HM := hidv hm
  have HOF := hidv (offs_le L hr)
  have HOS := hidv (offs_succ L)
  have HCC := hidv hcc
  obtain ⟨n, hn⟩ : ∃ n, L.length = n := ⟨_, rfl⟩
  rw [hn] at hl HM HUL ⊢
  have HN := hidv hn
  clear hm hM hr hn hcc
  go_enter Try.func43, Try.ntmps43
  go_wp2_with fail
  go_loop [1, 5] (fun q i => ∃ k : Nat, k ≤ n ∧ i = .int .i64 (k : Int) ∧ q = .int .i64 ((1 + offs L k : Nat) : Int)) (fun _ i => n - (intOf i).toNat)
  case atStart => exact ⟨0, Nat.zero_le _, rfl, rfl⟩
  case round =>
    obtain ⟨k, hk, rfl, rfl⟩ := hrel
    by_cases hlt : k < n
    · have hkx : k < L.length := by have := HN.out; omega
      have hku : k < us.length := by have := HUL.out; omega
      have hof := HOF.out k (by omega)
      have hos := HOS.out k hkx
      have hrk := HR.out L[k] (List.getElem_mem _)
      obtain ⟨hq, h4⟩ := HM.out.2.2 k hku
      rw [if_pos hlt] at h4
      obtain ⟨g, o, rfl, _, hce⟩ := HCC.out (by omega)
      have c1 := hce k us[k] (List.getElem?_eq_getElem hku)
      have hrw := Row.of_own h4
      have HC := hidv (heldInts_any us[k] L[k].length w.heap.size (1 + offs L k) w hrw (by unfold maxLen; omega) (by omega) (by omega))
      obtain ⟨a1, n1, cp1, hu1⟩ : ∃ a n c, us[k] = .slice a n c := by
        obtain ⟨A, c, h, _⟩ := hrw
        exact ⟨A, _, c, h⟩
      rw [hu1] at c1 HC
      clear h4 hrw hce hu1
      go_wp2_with fail
      refine HC.out.mono ?_
      rintro e w2 ⟨rfl, rfl⟩
      go_wp2_with fail
      go_round
      case rel => exact ⟨k + 1, by omega, by go_num, by rw [hos]; go_num⟩
      case measure => simp [intOf]; omega
    · obtain rfl : k = n := by omega
      go_wp2_with fail
      go_ret
      exact ⟨rfl, rfl⟩

end Go.Proofs.Ytpjidcfdcpjafaa
