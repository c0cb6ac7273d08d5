/-
  Slices of slices of pieces in memory; the laws' own functions on them (bulk; copy; equal): contracts.
-/
import Derived.Test.YtdnkdmmockoehaaGreatPcS
import Derived.Test.YtdnkdmmockoehaaGreatRow2
namespace Go.Proofs.YtdnkdmmockoehaaGreat
open Go.RowKit Go
set_option linter.unusedVariables false

/-- A slice value that reads, below block B, as these lists of pieces. -/
def QRows (w : World) (B : Nat) (v : Value) (rs : List (List Pc)) : Prop :=
  ∃ vs : List Value, Row w B v vs ∧ vs.length = rs.length ∧ ∀ i (h : i < rs.length), ∃ x, vs[i]? = some x ∧ QRow w B x rs[i]
theorem QRows.below {w w' : World} {B : Nat} {v : Value} {rs : List (List Pc)} (h : QRows w B v rs) (hb : Below B w w') : QRows w' B v rs := by
  obtain ⟨vs, h1, h2, h3⟩ := h
  refine ⟨vs, h1.below hb, h2, fun i hi => ?_⟩
  obtain ⟨x, hx, hr⟩ := h3 i hi
  exact ⟨x, hx, hr.below hb⟩
theorem QRows.more {w : World} {B B' : Nat} {v : Value} {rs : List (List Pc)} (h : QRows w B v rs) (hB : B ≤ B') : QRows w B' v rs := by
  obtain ⟨vs, h1, h2, h3⟩ := h
  refine ⟨vs, h1.more hB, h2, fun i hi => ?_⟩
  obtain ⟨x, hx, hr⟩ := h3 i hi
  exact ⟨x, hx, hr.more hB⟩
/-- In the walk's words: the slice, and at each place a slice that reads as the pieces. -/
theorem QRows.at {w : World} {B : Nat} {v : Value} {rs : List (List Pc)} (h : QRows w B v rs) : ∃ A c, v = .slice A rs.length c ∧ (0 < rs.length → ∃ g o, A = some ⟨g, o, none⟩ ∧ g < B ∧
    ∀ i (hi : i < rs.length), ∃ a cp, w.cell? ⟨g, o + i, none⟩ = some (.slice a rs[i].length cp) ∧ QRow w B (.slice a rs[i].length cp) rs[i]) := by
  obtain ⟨vs, h1, h2, h3⟩ := h
  obtain ⟨A, c, rfl, hA⟩ := h1
  rw [h2] at hA ⊢
  refine ⟨A, c, rfl, fun hp => ?_⟩
  obtain ⟨g, o, hA1, hg, hc⟩ := hA hp
  refine ⟨g, o, hA1, hg, fun i hi => ?_⟩
  obtain ⟨x, hx, hr⟩ := h3 i hi
  obtain ⟨a, cp, hxe, _⟩ := id hr
  subst hxe
  exact ⟨a, cp, hc i _ hx, hr⟩

theorem below_two {w wa wb : World} (h : Below w.heap.size w wa) (k : Below wa.heap.size wa wb) : Below w.heap.size w wb := h.trans (k.mono h.size)

/-- How many pieces there are. -/
def qTot (rs : List (List Pc)) : Nat := (rs.map List.length).sum
theorem qTot_succ (rs : List (List Pc)) (k : Nat) (h : k < rs.length) : qTot (rs.take (k + 1)) = qTot (rs.take k) + rs[k].length := by
  unfold qTot
  rw [List.take_succ_eq_append_getElem h, List.map_append, List.sum_append]
  simp
theorem qTot_mem : ∀ {rs : List (List Pc)} {r : List Pc}, r ∈ rs → r.length ≤ qTot rs
  | a :: l, r, h => by
    unfold qTot
    rw [List.map_cons, List.sum_cons]
    rcases List.mem_cons.mp h with rfl | h
    · omega
    · have := qTot_mem h
      unfold qTot at this
      omega

set_option maxHeartbeats 400000 in
theorem szQS_any (v : Value) (rs : List (List Pc)) (B : Nat) (w : World) (hv : QRows w B v rs) (hB : B ≤ w.heap.size) (hx : rs.length ≤ maxLen) (hs : ∀ r ∈ rs, r.length ≤ maxLen ∧ ∀ e ∈ r, e.1.size ≤ maxLen) (m : Int) (hm0 : 0 ≤ m) (hm1 : m ≤ 1048576) :
    Calls Tryz.prog 16 #[v, .int .i64 m] w fun e w' => ∃ q, e = .returned (.int .i64 q) ∧ (0 ≤ q → q + rs.length + qTot rs ≤ m) ∧ q ≤ m ∧ Below w.heap.size w w' := by
  obtain ⟨A, c, rfl, hA⟩ := hv.at
  unfold maxLen at hx
  obtain ⟨n, hn⟩ : ∃ n, rs.length = n := ⟨_, rfl⟩
  have HA := hidv hA
  rw [hn] at hx ⊢
  have HN := hidv hn
  have HS := hidv hs
  clear hn hA hs hv
  by_cases hnm : m < (n : Int)
  · go_enter Tryz.func16, Tryz.ntmps16
    go_wp2
    go_ret
    exact ⟨_, rfl, fun h => by omega, by omega, Below.refl _ _⟩
  · go_enter Tryz.func16, Tryz.ntmps16
    go_wp2
    go_loopw [1, 5] (fun l i wr => ∃ (k : Nat) (q : Int), k ≤ n ∧ i = .int .i64 k ∧ l = .int .i64 q ∧ 0 ≤ q ∧ q + n + qTot (rs.take k) ≤ m ∧ Hid (Below w.heap.size w wr)) (fun _ i _ => n - (intOf i).toNat)
    case atStart => exact ⟨0, _, Nat.zero_le _, rfl, rfl, by omega, by simp [qTot], hidv (Below.refl _ _)⟩
    case round =>
      obtain ⟨k, q, hk, rfl, rfl, hq0, hq1, hbe⟩ := hrel
      by_cases hlt : k < n
      · have hkx : k < rs.length := by have := HN.out; omega
        obtain ⟨g, o, rfl, hg, hce⟩ := HA.out (by omega)
        obtain ⟨a, cp, c0, r0⟩ := hce k hkx
        have c1 := (hbe.out.cell (p := ⟨g, o + k, none⟩) (by show g < w.heap.size; omega)).trans c0
        have hsz := HS.out rs[k] (List.getElem_mem _)
        have HC := hidv (szPcs_any _ rs[k] B wr (r0.below (hbe.out.mono hB)) (Nat.le_trans hB hbe.out.size) hsz.1 hsz.2 q hq0 (by omega))
        obtain ⟨l, hl⟩ : ∃ l, rs[k].length = l := ⟨_, rfl⟩
        rw [hl] at c1 HC
        have HL := hidv hl
        clear hl hce hsz c0 r0
        go_wp2_with fail
        refine HC.out.mono ?_
        rintro e w2 ⟨r, rfl, hr1, hr2, hb2⟩
        have HR1 := hidv hr1
        have HB2 := hidv (hbe.out.trans (hb2.mono hbe.out.size))
        clear hr1 hb2
        by_cases hr : r < 0
        · go_wp2_with fail
          go_ret
          exact ⟨_, rfl, fun h => by omega, by omega, HB2.out⟩
        · have hall2 : r + n + qTot (rs.take (k + 1)) ≤ m := by
            rw [qTot_succ rs k hkx]
            have h1 := HL.out
            have h2 := HR1.out (by omega)
            omega
          have HALL := hidv hall2
          clear hall2
          go_wp2_with fail
          go_roundw
          case rel => exact ⟨k + 1, r, by omega, by go_num, rfl, by omega, HALL.out, HB2⟩
          case measure => simp [intOf]; omega
      · obtain rfl : k = n := by omega
        rw [List.take_of_length_le (by have := HN.out; omega)] at hq1
        go_wp2
        go_ret
        exact ⟨_, rfl, fun h => by omega, by omega, hbe.out⟩

theorem Tryz.infoQS : (Tryz.prog.info? 70).map (fun i => (i.zero, i.size, i.bytes)) = some (some (.slice none 0 0), 1, 24) := by kernel_rfl

/-- The first slices of a copy: each in a block of its own, above block B. -/
def CopiedQ (w : World) (B : Nat) (rs : List (List Pc)) (us : List Value) : Prop :=
  ∀ i (h : i < us.length), ∃ hr : i < rs.length, Qws w B us[i] rs[i]
theorem CopiedQ.below {w w' : World} {B : Nat} {rs : List (List Pc)} {us : List Value} (h : CopiedQ w B rs us) (hb : Below w.heap.size w w') : CopiedQ w' B rs us := fun i hi => by
  obtain ⟨hr, h1⟩ := h i hi
  exact ⟨hr, h1.below hb⟩
theorem CopiedQ.setCell {w : World} {B g j : Nat} {x : Value} {rs : List (List Pc)} {us : List Value} (h : CopiedQ w B rs us) (hg : g < B) : CopiedQ (w.setCell ⟨g, j, none⟩ x) B rs us := fun i hi => by
  obtain ⟨hr, h1⟩ := h i hi
  exact ⟨hr, own_other (row := some g) h1 (grown_setCell _ _ _ _) (fun k hk => by cases hk; exact hg)⟩
theorem CopiedQ.snoc {w : World} {B : Nat} {rs : List (List Pc)} {us : List Value} {u : Value} (h : CopiedQ w B rs us) (hk : us.length < rs.length) (hu : Qws w B u rs[us.length]) : CopiedQ w B rs (us ++ [u]) := fun i hi => by
  rcases Nat.lt_or_ge i us.length with h1 | h1
  · rw [List.getElem_append_left h1]; exact h i h1
  · obtain rfl : i = us.length := by simp at hi; omega
    exact ⟨hk, by simpa using hu⟩
theorem QRows.of_own {w : World} {B e n : Nat} {v : Value} {rs : List (List Pc)} {us : List Value} (h : w.ownsRow B e 1 v n us) (hl : us.length = rs.length) (hc : CopiedQ w (B + 1) rs us) : QRows w w.heap.size v rs :=
  ⟨us, Row.of_own h, hl, fun i hi => by
    obtain ⟨hr, h1⟩ := hc i (by omega)
    exact ⟨us[i], List.getElem?_eq_getElem (by omega), h1.row⟩⟩
/-- A slice of slices of pieces in memory of the call's own, from block 'base' on. -/
def QOwn (w : World) (base : Nat) (v : Value) (rs : List (List Pc)) : Prop := ∃ us, w.ownsRow base 70 1 v rs.length us ∧ us.length = rs.length ∧ CopiedQ w (base + 1) rs us
theorem QOwn.row {w : World} {base : Nat} {v : Value} {rs : List (List Pc)} (h : QOwn w base v rs) : QRows w w.heap.size v rs := by
  obtain ⟨us, h1, h2, h3⟩ := h
  exact QRows.of_own h1 h2 h3
theorem QOwn.below {w w' : World} {base : Nat} {v : Value} {rs : List (List Pc)} (h : QOwn w base v rs) (hb : Below w.heap.size w w') : QOwn w' base v rs := by
  obtain ⟨us, h1, h2, h3⟩ := h
  exact ⟨us, own_below h1 hb, h2, h3.below hb⟩
theorem QOwn.setCell {w : World} {base g j : Nat} {x : Value} {v : Value} {rs : List (List Pc)} (h : QOwn w base v rs) (hg : g < base) : QOwn (w.setCell ⟨g, j, none⟩ x) base v rs := by
  obtain ⟨us, h1, h2, h3⟩ := h
  exact ⟨us, own_other (row := some g) h1 (grown_setCell _ _ _ _) (fun k hk => by cases hk; exact hg), h2, h3.setCell (by omega)⟩
theorem set_snoc (us : List Value) (k n : Nat) (z u : Value) (hl : us.length = k) (hk : k < n) :
    (us ++ List.replicate (n - k) z).set k u = (us ++ [u]) ++ List.replicate (n - (k + 1)) z := by
  rw [List.set_append_right _ _ (by omega), hl, Nat.sub_self, show n - k = (n - (k + 1)) + 1 by omega, List.replicate_succ, List.set_cons_zero, List.append_assoc]
  rfl

set_option maxRecDepth 100000 in
set_option maxHeartbeats 800000 in
theorem toQS_any (v : Value) (rs : List (List Pc)) (B : Nat) (w : World) (hv : QRows w B v rs) (hB : B ≤ w.heap.size) (hx : rs.length ≤ 1048576) (hs : ∀ r ∈ rs, r.length ≤ 1048576) :
    Calls Tryz.prog 20 #[v] w fun e w' => ∃ u, e = .returned u ∧ QOwn w' w.heap.size u rs ∧ Below w.heap.size w w' := by
  obtain ⟨i0, hi, hz0, hz1, hz2⟩ := info_parts Tryz.infoQS
  obtain ⟨A, c, rfl, hA⟩ := hv.at
  have HA := hidv hA
  have HS := hidv hs
  clear hA hv hs
  obtain ⟨n, hn⟩ : ∃ n, rs.length = n := ⟨_, rfl⟩
  rw [hn] at hx ⊢
  have HN := hidv hn
  clear hn
  go_enter Tryz.func20, Tryz.ntmps20
  go_wp2_with (at_make; refine wpList_make_full _ rfl _ _ 32 rfl w.heap.size 70 i0 (.slice none 0 0) 1 Tryz.underlying32 hi hz0 hz1 _ _ _ _ n rfl rfl rfl rfl (by rw [hz2]; omega) (by unfold maxLen; omega) (Nat.le_refl _) ?_; intro w0 hown0 hgr0)
  have hb0 : Below w.heap.size w w0 := below_grown hgr0 (Nat.le_refl _) (fun k hk => by cases hk)
  have hown1 : w0.ownsRow w.heap.size 70 1 (.slice (some ⟨w.heap.size, 0, none⟩) n n) n (([] : List Value) ++ List.replicate (n - 0) (.slice none 0 0)) := by
    have : (madeCells (Value.slice none 0 0).cells (n * 1)).toList = ([] : List Value) ++ List.replicate (n - 0) (.slice none 0 0) := by
      rw [List.nil_append, Nat.sub_zero, Nat.mul_one]
      exact toList_madeCells_one _ _
    rw [← this]; exact hown0
  have HO0 := hidv hown1
  clear hown0 hgr0 hown1
  go_loopw [4] (fun i wr => ∃ (k : Nat) (us : List Value), k ≤ n ∧ i = .int .i64 k ∧ us.length = k ∧ Hid (wr.ownsRow w.heap.size 70 1 (.slice (some ⟨w.heap.size, 0, none⟩) n n) n (us ++ List.replicate (n - k) (.slice none 0 0))) ∧ Hid (CopiedQ wr (w.heap.size + 1) rs us) ∧ Hid (Below w.heap.size w wr)) (fun i _ => n - (intOf i).toNat)
  case atStart => exact ⟨0, [], Nat.zero_le _, rfl, rfl, HO0, hidv (fun i hi => absurd hi (by simp)), hidv hb0⟩
  case round =>
    obtain ⟨k, us, hk, rfl, hul, hown, hcp, hb⟩ := hrel
    by_cases hlt : k < n
    · have hkx : k < rs.length := by have := HN.out; omega
      obtain ⟨g, o, rfl, hg, hce⟩ := HA.out (by have := HN.out; omega)
      obtain ⟨a, cp, c0, r0⟩ := hce k hkx
      have c1 := (hb.out.cell (p := ⟨g, o + k, none⟩) (by show g < w.heap.size; omega)).trans c0
      have hgs : w.heap.size < wr.heap.size := (hown.out.lt w.heap.size (by simp [Value.ownBlock])).2
      have HC := hidv (toPcs_any _ rs[k] B wr (r0.below (hb.out.mono hB)) (by omega) (HS.out _ (List.getElem_mem _)))
      obtain ⟨l, hl⟩ : ∃ l, rs[k].length = l := ⟨_, rfl⟩
      rw [hl] at c1 HC
      clear hl c0 r0 hce
      go_wp2_with fail
      refine HC.out.mono ?_
      rintro e w2 ⟨u2, rfl, hu2, hb2⟩
      obtain ⟨Au, nu, cu, rfl⟩ : ∃ A m c, u2 = .slice A m c := by
        obtain ⟨A, c, h, _⟩ := hu2.row
        exact ⟨A, _, c, h⟩
      have hown2 := own_below hown.out hb2
      have hlr : k < (us ++ List.replicate (n - k) (Value.slice none 0 0)).length := by
        rw [List.length_append, List.length_replicate]; omega
      obtain ⟨z0, d0⟩ : ∃ z, w2.cell? ⟨w.heap.size, k, none⟩ = some z := by
        rw [hown2.cellAt k (by omega), List.getElem?_eq_getElem hlr]
        exact ⟨_, rfl⟩
      have f0 : w2.frozen? ⟨w.heap.size, k, none⟩ = false := hown2.frozenAt k
      have hst := (hown2.stored k (.slice Au nu cu)).1
      rw [set_snoc us k n _ (.slice Au nu cu) hul hlt] at hst
      have hcp2 : CopiedQ w2 (w.heap.size + 1) rs (us ++ [.slice Au nu cu]) := by
        subst hul
        exact (hcp.out.below hb2).snoc hkx (own_wider hu2 (by omega))
      have HST := hidv hst
      have HCP := hidv (hcp2.setCell (g := w.heap.size) (j := k) (x := .slice Au nu cu) (by omega))
      have HB2 := hidv (hb.out.trans (hb2.mono hb.out.size))
      clear hb2 hown2 hlr hst hcp2 hu2
      go_wp2
      go_roundw
      case rel => exact ⟨k + 1, us ++ [.slice Au nu cu], by omega, by go_num, by simp [hul], HST, HCP, hidv (HB2.out.setCell (Nat.le_refl _) _)⟩
      case measure => simp [intOf]; omega
    · obtain rfl : k = n := by omega
      go_wp2
      go_ret
      have h := hown.out
      rw [Nat.sub_self, List.replicate_zero, List.append_nil] at h
      exact ⟨_, rfl, ⟨us, by rw [HN.out]; exact h, hul.trans HN.out.symm, hcp.out⟩, hb.out⟩

set_option maxHeartbeats 400000 in
theorem eqQS_same (v u : Value) (rs : List (List Pc)) (w : World) (hv : QRows w w.heap.size v rs) (hu : QRows w w.heap.size u rs) (hx : rs.length ≤ maxLen) (hs : ∀ r ∈ rs, r.length ≤ 1000000000) :
    Calls Tryz.prog 25 #[v, u] w fun e w' => e = .returned (.bool true) ∧ Below w.heap.size w w' := by
  obtain ⟨A, c, rfl, hA⟩ := hv.at
  obtain ⟨A', c', rfl, hA'⟩ := hu.at
  unfold maxLen at hx
  obtain ⟨n, hn⟩ : ∃ n, rs.length = n := ⟨_, rfl⟩
  have HA := hidv hA
  have HA' := hidv hA'
  have HS := hidv hs
  rw [hn] at hx ⊢
  have HN := hidv hn
  clear hn hA hA' hs hv hu
  go_enter Tryz.func25, Tryz.ntmps25
  go_wp2
  go_loopw [5] (fun i wr => ∃ k : Nat, k ≤ n ∧ i = .int .i64 k ∧ Hid (Below w.heap.size w wr)) (fun i _ => n - (intOf i).toNat)
  case atStart => exact ⟨0, Nat.zero_le _, rfl, hidv (Below.refl _ _)⟩
  case round =>
    obtain ⟨k, hk, rfl, hb⟩ := hrel
    by_cases hlt : k < n
    · have hkx : k < rs.length := by have := HN.out; omega
      obtain ⟨g, o, rfl, hg, hce⟩ := HA.out (by omega)
      obtain ⟨g', o', rfl, hg', hce'⟩ := HA'.out (by omega)
      obtain ⟨a, cp, c1, r1⟩ := hce k hkx
      obtain ⟨a', cp', c2, r2⟩ := hce' k hkx
      obtain ⟨l, hl⟩ : ∃ l, rs[k].length = l := ⟨_, rfl⟩
      rw [hl] at c1 r1 c2 r2
      have hS : ∀ w', Below w.heap.size w w' → w'.cell? ⟨g, o + k, none⟩ = some (.slice a l cp) ∧ w'.cell? ⟨g', o' + k, none⟩ = some (.slice a' l cp') ∧ Below w.heap.size w w' := fun w' hw =>
        ⟨(hw.cell (p := ⟨g, _, none⟩) hg).trans c1, (hw.cell (p := ⟨g', _, none⟩) hg').trans c2, hw⟩
      have HQ := hidv hS
      have hcall : ∀ W, Below w.heap.size w W → _ := fun W (hW : Below w.heap.size w W) => eqPcs_same (w := W) (r1.below hW) (r2.below hW) hW.size hW.size (HS.out _ (List.getElem_mem _))
      have HC := hidv hcall
      have hb' := hb.out
      have i1 : (0 : Int) ≤ (k : Int) := by omega
      have i2 : (k : Int) < (n : Int) := by omega
      clear hce hce' c1 c2 r1 r2 hl hS hcall
      go_wp2_with fail
      go_region_held3 (fun w' => w'.cell? ⟨g, o + k, none⟩ = some (.slice a l cp) ∧ w'.cell? ⟨g', o' + k, none⟩ = some (.slice a' l cp') ∧ Below w.heap.size w w') (first | exact HQ.out _ (Below.drew hb') | exact HQ.out _ (below_two (Below.drew hb') hbw)) (first | (go_at_call 46; refine (HC.out _ (Below.drew hb')).mono ?_; rintro e w2 ⟨rfl, hbw⟩))
      have hbe : Below w.heap.size w w2 := below_two (Below.drew hb') hbw
      go_wp2
      go_roundw
      case rel => exact ⟨k + 1, by omega, by go_num, hidv hbe⟩
      case measure => simp [intOf]; omega
    · go_wp2
      go_ret
      exact ⟨rfl, hb.out⟩

end Go.Proofs.YtdnkdmmockoehaaGreat
