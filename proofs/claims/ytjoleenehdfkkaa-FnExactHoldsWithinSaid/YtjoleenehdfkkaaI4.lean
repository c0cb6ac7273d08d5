/-
  The laws' own copy of a slice of slices of numbers: a contract.
-/
import Derived.Test.YtjoleenehdfkkaaI2
import Derived.Test.YtjoleenehdfkkaaCopy
namespace Go.Proofs.Ytjoleenehdfkkaa
open Go.RowKit Go
set_option linter.unusedVariables false

theorem Try.infoIS : (Try.prog.info? 71).map (fun i => (i.zero, i.size, i.bytes)) = some (some (.slice none 0 0), 1, 24) := by kernel_rfl

/-- The first slices of a copy: each in a block of its own, above block B. -/
def Copied (w : World) (B : Nat) (rs : List (List Int)) (us : List Value) : Prop :=
  ∀ i (h : i < us.length), ∃ hr : i < rs.length, IntsT 2 w B us[i] rs[i]
theorem Copied.below {w w' : World} {B : Nat} {rs : List (List Int)} {us : List Value} (h : Copied w B rs us) (hb : Below w.heap.size w w') : Copied w' B rs us := fun i hi => by
  obtain ⟨hr, h1⟩ := h i hi
  exact ⟨hr, h1.below hb⟩
theorem Copied.setCell {w : World} {B g j : Nat} {x : Value} {rs : List (List Int)} {us : List Value} (h : Copied w B rs us) (hg : g < B) : Copied (w.setCell ⟨g, j, none⟩ x) B rs us := fun i hi => by
  obtain ⟨hr, h1⟩ := h i hi
  exact ⟨hr, own_other (row := some g) h1 (grown_setCell _ _ _ _) (fun k hk => by cases hk; exact hg)⟩
theorem Copied.snoc {w : World} {B : Nat} {rs : List (List Int)} {us : List Value} {u : Value} (h : Copied w B rs us) (hk : us.length < rs.length) (hu : IntsT 2 w B u rs[us.length]) : Copied w B rs (us ++ [u]) := fun i hi => by
  rcases Nat.lt_or_ge i us.length with h1 | h1
  · rw [List.getElem_append_left h1]; exact h i h1
  · obtain rfl : i = us.length := by simp at hi; omega
    exact ⟨hk, by simpa using hu⟩
theorem IRows.of_own {w : World} {B e n : Nat} {v : Value} {rs : List (List Int)} {us : List Value} (h : w.ownsRow B e 1 v n us) (hl : us.length = rs.length) (hc : Copied w (B + 1) rs us) : IRows w w.heap.size v rs :=
  ⟨us, Row.of_own h, hl, fun i hi => by
    obtain ⟨hr, h1⟩ := hc i (by omega)
    exact ⟨us[i], List.getElem?_eq_getElem (by omega), h1.row⟩⟩
/-- A slice of slices of numbers in memory of the call's own, from block 'base' on. -/
def IOwn (w : World) (base : Nat) (v : Value) (rs : List (List Int)) : Prop := ∃ us, w.ownsRow base 71 1 v rs.length us ∧ us.length = rs.length ∧ Copied w (base + 1) rs us
theorem IOwn.row {w : World} {base : Nat} {v : Value} {rs : List (List Int)} (h : IOwn w base v rs) : IRows w w.heap.size v rs := by
  obtain ⟨us, h1, h2, h3⟩ := h
  exact IRows.of_own h1 h2 h3
theorem IOwn.below {w w' : World} {base : Nat} {v : Value} {rs : List (List Int)} (h : IOwn w base v rs) (hb : Below w.heap.size w w') : IOwn w' base v rs := by
  obtain ⟨us, h1, h2, h3⟩ := h
  exact ⟨us, own_below h1 hb, h2, h3.below hb⟩
theorem IOwn.setCell {w : World} {base g j : Nat} {x : Value} {v : Value} {rs : List (List Int)} (h : IOwn w base v rs) (hg : g < base) : IOwn (w.setCell ⟨g, j, none⟩ x) base v rs := by
  obtain ⟨us, h1, h2, h3⟩ := h
  exact ⟨us, own_other (row := some g) h1 (grown_setCell _ _ _ _) (fun k hk => by cases hk; exact hg), h2, h3.setCell (by omega)⟩
theorem set_snoc (us : List Value) (k n : Nat) (z u : Value) (hl : us.length = k) (hk : k < n) :
    (us ++ List.replicate (n - k) z).set k u = (us ++ [u]) ++ List.replicate (n - (k + 1)) z := by
  rw [List.set_append_right _ _ (by omega), hl, Nat.sub_self, show n - k = (n - (k + 1)) + 1 by omega, List.replicate_succ, List.set_cons_zero, List.append_assoc]
  rfl

set_option maxRecDepth 100000 in
set_option maxHeartbeats 800000 in
theorem toIS_any (v : Value) (rs : List (List Int)) (B : Nat) (w : World) (hv : IRows w B v rs) (hB : B ≤ w.heap.size) (hx : rs.length ≤ 1048576) (hs : ∀ r ∈ rs, r.length ≤ 1048576) :
    Calls Try.prog 25 #[v] w fun e w' => ∃ u, e = .returned u ∧ IOwn w' w.heap.size u rs ∧ Below w.heap.size w w' := by
  obtain ⟨i0, hi, hz0, hz1, hz2⟩ := info_parts Try.infoIS
  obtain ⟨A, c, rfl, hA⟩ := hv.at
  have HA := hidv hA
  have HS := hidv hs
  clear hA hv hs
  obtain ⟨n, hn⟩ : ∃ n, rs.length = n := ⟨_, rfl⟩
  rw [hn] at hx ⊢
  have HN := hidv hn
  clear hn
  go_enter Try.func25, Try.ntmps25
  go_wp2_with (at_make; refine wpList_make_full _ rfl _ _ 23 rfl w.heap.size 71 i0 (.slice none 0 0) 1 Try.underlying23 hi hz0 hz1 _ _ _ _ n rfl rfl rfl rfl (by rw [hz2]; omega) (by unfold maxLen; omega) (Nat.le_refl _) ?_; intro w0 hown0 hgr0)
  have hb0 : Below w.heap.size w w0 := below_grown hgr0 (Nat.le_refl _) (fun k hk => by cases hk)
  have hown1 : w0.ownsRow w.heap.size 71 1 (.slice (some ⟨w.heap.size, 0, none⟩) n n) n (([] : List Value) ++ List.replicate (n - 0) (.slice none 0 0)) := by
    have : (madeCells (Value.slice none 0 0).cells (n * 1)).toList = ([] : List Value) ++ List.replicate (n - 0) (.slice none 0 0) := by
      rw [List.nil_append, Nat.sub_zero, Nat.mul_one]
      exact toList_madeCells_one _ _
    rw [← this]; exact hown0
  have HO0 := hidv hown1
  clear hown0 hgr0 hown1
  go_loopw [4] (fun i wr => ∃ (k : Nat) (us : List Value), k ≤ n ∧ i = .int .i64 k ∧ us.length = k ∧ Hid (wr.ownsRow w.heap.size 71 1 (.slice (some ⟨w.heap.size, 0, none⟩) n n) n (us ++ List.replicate (n - k) (.slice none 0 0))) ∧ Hid (Copied wr (w.heap.size + 1) rs us) ∧ Hid (Below w.heap.size w wr)) (fun i _ => n - (intOf i).toNat)
  case atStart => exact ⟨0, [], Nat.zero_le _, rfl, rfl, HO0, hidv (fun i hi => absurd hi (by simp)), hidv hb0⟩
  case round =>
    obtain ⟨k, us, hk, rfl, hul, hown, hcp, hb⟩ := hrel
    by_cases hlt : k < n
    · have hkx : k < rs.length := by have := HN.out; omega
      obtain ⟨g, o, rfl, hg, hce⟩ := HA.out (by have := HN.out; omega)
      obtain ⟨a, cp, c0, r0⟩ := hce k hkx
      have c1 := (hb.out.cell (p := ⟨g, o + k, none⟩) (by show g < w.heap.size; omega)).trans c0
      have hgs : w.heap.size < wr.heap.size := (hown.out.lt w.heap.size (by simp [Value.ownBlock])).2
      have HC := hidv (toInts_any _ rs[k] B wr (r0.below (hb.out.mono hB)) (by omega) (HS.out _ (List.getElem_mem _)))
      obtain ⟨l, hl⟩ : ∃ l, rs[k].length = l := ⟨_, rfl⟩
      rw [hl] at c1 HC
      clear hl c0 r0 hce
      go_wp2_with fail
      refine HC.out.mono ?_
      rintro e w2 ⟨u2, rfl, hu2, hb2⟩
      obtain ⟨Au, nu, cu, rfl⟩ : ∃ A m c, u2 = .slice A m c := by
        obtain ⟨A, c, h, _⟩ := hu2.row
        exact ⟨A, _, c, h⟩
      have hown2 := own_below hown.out hb2
      have hlr : k < (us ++ List.replicate (n - k) (Value.slice none 0 0)).length := by
        rw [List.length_append, List.length_replicate]; omega
      obtain ⟨z0, d0⟩ : ∃ z, w2.cell? ⟨w.heap.size, k, none⟩ = some z := by
        rw [hown2.cellAt k (by omega), List.getElem?_eq_getElem hlr]
        exact ⟨_, rfl⟩
      have f0 : w2.frozen? ⟨w.heap.size, k, none⟩ = false := hown2.frozenAt k
      have hst := (hown2.stored k (.slice Au nu cu)).1
      rw [set_snoc us k n _ (.slice Au nu cu) hul hlt] at hst
      have hcp2 : Copied w2 (w.heap.size + 1) rs (us ++ [.slice Au nu cu]) := by
        subst hul
        exact (hcp.out.below hb2).snoc hkx (own_wider hu2 (by omega))
      have HST := hidv hst
      have HCP := hidv (hcp2.setCell (g := w.heap.size) (j := k) (x := .slice Au nu cu) (by omega))
      have HB2 := hidv (hb.out.trans (hb2.mono hb.out.size))
      clear hb2 hown2 hlr hst hcp2 hu2
      go_wp2
      go_roundw
      case rel => exact ⟨k + 1, us ++ [.slice Au nu cu], by omega, by go_num, by simp [hul], HST, HCP, hidv (HB2.out.setCell (Nat.le_refl _) _)⟩
      case measure => simp [intOf]; omega
    · obtain rfl : k = n := by omega
      go_wp2
      go_ret
      have h := hown.out
      rw [Nat.sub_self, List.replicate_zero, List.append_nil] at h
      exact ⟨_, rfl, ⟨us, by rw [HN.out]; exact h, hul.trans HN.out.symm, hcp.out⟩, hb.out⟩

end Go.Proofs.Ytjoleenehdfkkaa
