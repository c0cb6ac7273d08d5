/-
  The laws' own copy of a family, its rows apart: contracts.
-/
import Derived.Test.YthomkmbobaehkaaQB
namespace Go.Proofs.Ythomkmbobaehkaa
open Go.RowKit Go
set_option linter.unusedVariables false

theorem QB.wider {w : World} {base base' : Nat} {v : Value} {rs : List (List Pc)} (h : QB w base v rs) (hb : base' ≤ base) : QB w base' v rs := by
  obtain ⟨us, h1, h2, h3, h4⟩ := h
  exact ⟨us, own_wider h1 hb, h2, fun i hi => by
    obtain ⟨hr, h5⟩ := h3 i hi
    exact ⟨hr, own_wider (show w.ownsRow _ _ _ _ _ _ from h5) hb⟩, h4⟩

set_option maxRecDepth 100000 in
set_option maxHeartbeats 800000 in
theorem toQS2_any (v : Value) (rs : List (List Pc)) (B : Nat) (w : World) (hv : QRows w B v rs) (hB : B ≤ w.heap.size) (hx : rs.length ≤ 1048576) (hs : ∀ r ∈ rs, r.length ≤ 1048576) :
    Calls Try.prog 60 #[v] w fun e w' => ∃ u, e = .returned u ∧ QB w' w.heap.size u rs ∧ Below w.heap.size w w' := by
  obtain ⟨i0, hi, hz0, hz1, hz2⟩ := info_parts Try.infoQS
  obtain ⟨A, c, rfl, hA⟩ := hv.at
  have HA := hidv hA
  have HS := hidv hs
  clear hA hv hs
  obtain ⟨n, hn⟩ : ∃ n, rs.length = n := ⟨_, rfl⟩
  rw [hn] at hx ⊢
  have HN := hidv hn
  clear hn
  go_enter Try.func60, Try.ntmps60
  go_wp2_with (at_make; refine wpList_make_full _ rfl _ _ 46 rfl w.heap.size 83 i0 (.slice none 0 0) 1 Try.underlying46 hi hz0 hz1 _ _ _ _ n rfl rfl rfl rfl (by rw [hz2]; omega) (by unfold maxLen; omega) (Nat.le_refl _) ?_; intro w0 hown0 hgr0)
  have hb0 : Below w.heap.size w w0 := below_grown hgr0 (Nat.le_refl _) (fun k hk => by cases hk)
  have hown1 : w0.ownsRow w.heap.size 83 1 (.slice (some ⟨w.heap.size, 0, none⟩) n n) n (([] : List Value) ++ List.replicate (n - 0) (.slice none 0 0)) := by
    have : (madeCells (Value.slice none 0 0).cells (n * 1)).toList = ([] : List Value) ++ List.replicate (n - 0) (.slice none 0 0) := by
      rw [List.nil_append, Nat.sub_zero, Nat.mul_one]
      exact toList_madeCells_one _ _
    rw [← this]; exact hown0
  have HO0 := hidv hown1
  clear hown0 hgr0 hown1
  go_loopw [4] (fun i wr => ∃ (k : Nat) (us : List Value), k ≤ n ∧ i = .int .i64 k ∧ us.length = k ∧ Hid (wr.ownsRow w.heap.size 83 1 (.slice (some ⟨w.heap.size, 0, none⟩) n n) n (us ++ List.replicate (n - k) (.slice none 0 0))) ∧ Hid (CopiedQ wr (w.heap.size + 1) rs us) ∧ Hid (Below w.heap.size w wr) ∧ Hid (AptQ us ∧ ∀ i (h : i < us.length) k, us[i].ownBlock = some k → k < wr.heap.size)) (fun i _ => n - (intOf i).toNat)
  case atStart => exact ⟨0, [], Nat.zero_le _, rfl, rfl, HO0, hidv (fun i hi => absurd hi (by simp)), hidv hb0, hidv ⟨fun i j hi => absurd hi (by simp), fun i hi => absurd hi (by simp)⟩⟩
  case round =>
    obtain ⟨k, us, hk, rfl, hul, hown, hcp, hb, hap⟩ := hrel
    by_cases hlt : k < n
    · have hkx : k < rs.length := by have := HN.out; omega
      obtain ⟨g, o, rfl, hg, hce⟩ := HA.out (by have := HN.out; omega)
      obtain ⟨a, cp, c0, r0⟩ := hce k hkx
      have c1 := (hb.out.cell (p := ⟨g, o + k, none⟩) (by show g < w.heap.size; omega)).trans c0
      have hgs : w.heap.size < wr.heap.size := (hown.out.lt w.heap.size (by simp [Value.ownBlock])).2
      have HC := hidv (toPcs_any _ rs[k] B wr (r0.below (hb.out.mono hB)) (by omega) (HS.out _ (List.getElem_mem _)))
      obtain ⟨l, hl⟩ : ∃ l, rs[k].length = l := ⟨_, rfl⟩
      rw [hl] at c1 HC
      clear hl c0 r0 hce
      go_wp2_with fail
      refine HC.out.mono ?_
      rintro e w2 ⟨u2, rfl, hu2, hb2⟩
      obtain ⟨Au, nu, cu, rfl⟩ : ∃ A m c, u2 = .slice A m c := by
        obtain ⟨A, c, h, _⟩ := hu2.row
        exact ⟨A, _, c, h⟩
      have hown2 := own_below hown.out hb2
      have hlr : k < (us ++ List.replicate (n - k) (Value.slice none 0 0)).length := by
        rw [List.length_append, List.length_replicate]; omega
      obtain ⟨z0, d0⟩ : ∃ z, w2.cell? ⟨w.heap.size, k, none⟩ = some z := by
        rw [hown2.cellAt k (by omega), List.getElem?_eq_getElem hlr]
        exact ⟨_, rfl⟩
      have f0 : w2.frozen? ⟨w.heap.size, k, none⟩ = false := hown2.frozenAt k
      have hst := (hown2.stored k (.slice Au nu cu)).1
      rw [set_snoc us k n _ (.slice Au nu cu) hul hlt] at hst
      have hcp2 : CopiedQ w2 (w.heap.size + 1) rs (us ++ [.slice Au nu cu]) := by
        subst hul
        exact (hcp.out.below hb2).snoc hkx (own_wider hu2 (by omega))
      have HAP := hidv (show AptQ (us ++ [.slice Au nu cu]) ∧ ∀ i (h : i < (us ++ [Value.slice Au nu cu]).length) k, (us ++ [Value.slice Au nu cu])[i].ownBlock = some k → k < w2.heap.size from by
        have hlt2 : ∀ k, (Value.slice Au nu cu).ownBlock = some k → wr.heap.size ≤ k ∧ k < w2.heap.size := fun k hk => World.ownsRow.lt (hu2 : w2.ownsRow _ _ _ _ _ _) k hk
        refine ⟨hap.out.1.snoc hap.out.2 (fun k hk => (hlt2 k hk).1), fun i hi k hk => ?_⟩
        rcases Nat.lt_or_ge i us.length with h1 | h1
        · rw [List.getElem_append_left h1] at hk
          have := hap.out.2 i h1 k hk
          have := hb2.size
          omega
        · rw [List.length_append, List.length_singleton] at hi
          obtain rfl : i = us.length := by omega
          rw [List.getElem_append_right (by omega)] at hk
          exact (hlt2 k (by simpa using hk)).2)
      have HST := hidv hst
      have HCP := hidv (hcp2.setCell (g := w.heap.size) (j := k) (x := .slice Au nu cu) (by omega))
      have HB2 := hidv (hb.out.trans (hb2.mono hb.out.size))
      clear hb2 hown2 hlr hst hcp2 hu2
      go_wp2
      go_roundw
      case rel => exact ⟨k + 1, us ++ [.slice Au nu cu], by omega, by go_num, by simp [hul], HST, HCP, hidv (HB2.out.setCell (Nat.le_refl _) _), hidv (by have h := HAP.out; rw [show (w2.setCell ⟨w.heap.size, k, none⟩ (.slice Au nu cu)).heap.size = w2.heap.size by simp [World.setCell]]; exact h)⟩
      case measure => simp [intOf]; omega
    · obtain rfl : k = n := by omega
      go_wp2
      go_ret
      have h := hown.out
      rw [Nat.sub_self, List.replicate_zero, List.append_nil] at h
      exact ⟨_, rfl, ⟨us, by rw [HN.out]; exact h, hul.trans HN.out.symm, fun i hi => by
        obtain ⟨hr, h5⟩ := hcp.out i hi
        exact ⟨hr, own_wider (show wr.ownsRow _ _ _ _ _ _ from h5) (by omega)⟩, hap.out.1⟩, hb.out⟩

set_option maxRecDepth 100000 in
set_option maxHeartbeats 800000 in
theorem toFam3_any (v : Value) (rs : List (List Pc)) (B : Nat) (w : World) (hv : Fam w B v rs) (hB : B ≤ w.heap.size) (hp : FamMax rs) :
    Calls Try.prog 23 #[v] w fun e1 w' => ∃ u, e1 = .returned u ∧ FB w' w.heap.size u rs ∧ Below w.heap.size w w' := by
  obtain ⟨va, rfl, hb⟩ := hv
  have HB := hidv hb
  clear hb
  go_enter Try.func23, Try.ntmps23
  go_wp2_with fail
  obtain ⟨W, hW⟩ : ∃ W, ((w.alloc (.cells #[va] 42)).alloc (.cells #[.slice none 0 0] 48)).alloc (.cells #[.slice none 0 0] 48) = W := ⟨_, rfl⟩
  have hx0 : Bx W w.heap.size 42 #[va] := by
    rw [← hW]; exact ((Bx.new _ _ _).alloc _).alloc _
  have hy : Bx W (w.heap.size + 1 + 1) 48 #[.slice none 0 0] := by
    rw [← hW]
    have := Bx.new ((w.alloc (.cells #[va] 42)).alloc (.cells #[.slice none 0 0] 48)) 48 #[.slice none 0 0]
    rw [World.size_alloc, World.size_alloc] at this
    exact this
  have hr0 : Bx W (w.heap.size + 1) 48 #[.slice none 0 0] := by
    rw [← hW]
    have := (Bx.new (w.alloc (.cells #[va] 42)) 48 #[.slice none 0 0]).alloc (.cells #[.slice none 0 0] 48)
    rw [World.size_alloc] at this
    exact this
  have hbw : Below w.heap.size w W := by
    rw [← hW]; exact (((Below.refl _ _).alloc (Nat.le_refl _) _).alloc (by simp) _).alloc (by simp; omega) _
  rw [hW]
  have hsz : W.heap.size = w.heap.size + 3 := by rw [← hW]; simp
  have HY := hidv hy
  have HR0 := hidv hr0
  have HBW := hidv hbw
  have HSZ := hidv hsz
  clear hW hx0 hy hr0 hbw hsz
  refine (toQS2_any _ rs B _ (HB.out.below (HBW.out.mono hB)) (Nat.le_trans hB HBW.out.size) hp.1 hp.2).mono ?_
  rintro e2 w2 ⟨ub, rfl, hub, hb2⟩
  obtain ⟨Ab, cb, rfl, _⟩ := id hub.row.at
  have hy2 := HY.out.below hb2
  have hr2 := HR0.out.below hb2
  have hs2 := hb2.size
  have hsx := HSZ.out
  have HB2 := hidv (below_on HBW.out hb2)
  have HUB := hidv (hub.setCell (g := w.heap.size + 1 + 1) (j := 0) (x := .slice Ab rs.length cb) (by omega))
  have HB3 := hidv (HB2.out.setCell (p := ⟨w.heap.size + 1 + 1, 0, none⟩) (by show w.heap.size ≤ w.heap.size + 1 + 1; omega) (.slice Ab rs.length cb))
  have y0 := hy2.one
  have f0 := hy2.frozen 0
  have q0 := hr2.one
  have g0 := hr2.frozen 0
  have hr3 := ((hr2.far ⟨w.heap.size + 1 + 1, 0, none⟩ (by show w.heap.size + 1 + 1 ≠ _; omega) (.slice Ab rs.length cb)).set 0 (.slice Ab rs.length cb))
  have E0 := hidv (hr3.cell 0)
  have lq : w.heap.size + 1 < w2.heap.size := hr2.lt
  clear hy2 hub hb2 hr2 hr3
  go_wp2_with fail
  refine bodyPost_ret (v := .agg #[.slice Ab rs.length cb]) ?_ rfl ⟨_, rfl, ⟨_, rfl, ?_⟩, ?_⟩
  · simp [results, Try.results23, go_sem, E0.out]
  · exact (HUB.out.setCell (g := w.heap.size + 1) (by omega)).wider (by omega)
  · exact HB3.out.setCell (by simp) _

end Go.Proofs.Ythomkmbobaehkaa
