/-
  Slices of slices of pieces whose blocks are apart, and families of them; the laws' marks in them: contracts.
-/
import Derived.Test.YthomkmbobaehkaaMQ
import Derived.Lib.OwnKind
import Derived.Lib.SmallJoins
namespace Go.Proofs.Ythomkmbobaehkaa
open Go.RowKit Go
set_option linter.unusedVariables false

theorem own_apartQ {w w' : World} {base size n : Nat} {e : TypeId} {v : Value} {xs : List Value} {row : Option Nat} (h : w.ownsRow base e size v n xs) (hg : w.grownBy w' row) (hne : ∀ k, v.ownBlock = some k → row ≠ some k) : w'.ownsRow base e size v n xs :=
  h.kept (row := row) hg (by
    rcases hv : v.ownBlock with _ | k
    · exact .inl rfl
    · exact .inr (fun he => hne k hv he.symm))
/-- The blocks of no two of these slices are the same. -/
def AptQ (us : List Value) : Prop := ∀ i j (hi : i < us.length) (hj : j < us.length), i < j → ∀ a, us[i].ownBlock = some a → us[j].ownBlock ≠ some a
theorem AptQ.snoc {us : List Value} {u : Value} {m : Nat} (h : AptQ us) (hb : ∀ i (hi : i < us.length) k, us[i].ownBlock = some k → k < m) (hu : ∀ k, u.ownBlock = some k → m ≤ k) : AptQ (us ++ [u]) := by
  intro i j hi hj hij a ha hb2
  rcases Nat.lt_or_ge j us.length with h1 | h1
  · rw [List.getElem_append_left (by omega)] at ha
    rw [List.getElem_append_left h1] at hb2
    exact h i j (by omega) h1 hij a ha hb2
  · rw [List.length_append, List.length_singleton] at hj
    obtain rfl : j = us.length := by omega
    rw [List.getElem_append_left (by omega)] at ha
    rw [List.getElem_append_right (by omega)] at hb2
    have h2 := hb i (by omega) a ha
    have h3 := hu a (by simpa using hb2)
    omega
/-- A slice of slices of pieces of the call's own, from block 'base' on, the blocks of the inner ones apart. -/
def QB (w : World) (base : Nat) (v : Value) (rs : List (List Pc)) : Prop :=
  ∃ us, w.ownsRow base 83 1 v rs.length us ∧ us.length = rs.length ∧ (∀ i (h : i < us.length), ∃ hr : i < rs.length, Qws w base us[i] rs[i]) ∧ AptQ us
theorem QB.row {w : World} {base : Nat} {v : Value} {rs : List (List Pc)} (h : QB w base v rs) : QRows w w.heap.size v rs := by
  obtain ⟨us, h1, h2, h3, _⟩ := h
  refine ⟨us, Row.of_own h1, h2, fun i hi => ?_⟩
  obtain ⟨hr, h4⟩ := h3 i (by omega)
  exact ⟨us[i], List.getElem?_eq_getElem (by omega), h4.row⟩
theorem QB.below {w w' : World} {base : Nat} {v : Value} {rs : List (List Pc)} (h : QB w base v rs) (hb : Below w.heap.size w w') : QB w' base v rs := by
  obtain ⟨us, h1, h2, h3, h4⟩ := h
  exact ⟨us, own_below h1 hb, h2, fun i hi => by
    obtain ⟨hr, h5⟩ := h3 i hi
    exact ⟨hr, h5.below hb⟩, h4⟩
theorem QB.setCell {w : World} {base g j : Nat} {x : Value} {v : Value} {rs : List (List Pc)} (h : QB w base v rs) (hg : g < base) : QB (w.setCell ⟨g, j, none⟩ x) base v rs := by
  obtain ⟨us, h1, h2, h3, h4⟩ := h
  exact ⟨us, own_other (row := some g) h1 (grown_setCell _ _ _ _) (fun k hk => by cases hk; exact hg), h2, fun i hi => by
    obtain ⟨hr, h5⟩ := h3 i hi
    exact ⟨hr, own_other (row := some g) (show w.ownsRow _ _ _ _ _ _ from h5) (grown_setCell _ _ _ _) (fun k hk => by cases hk; exact hg)⟩, h4⟩
/-- What marks from m on are. -/
def mQs (m : Nat) (rs : List (List Pc)) : List (List Pc) := (List.range rs.length).map fun i => mqs (m + 3 * qTot (rs.take i)) (rs.getD i []).length
theorem mQs_length (m : Nat) (rs : List (List Pc)) : (mQs m rs).length = rs.length := by simp [mQs]
theorem mQs_get {m : Nat} {rs : List (List Pc)} {i : Nat} (h : i < rs.length) (h' : i < (mQs m rs).length) : (mQs m rs)[i] = mqs (m + 3 * qTot (rs.take i)) rs[i].length := by
  simp [mQs, h]
theorem qTot_take_le (rs : List (List Pc)) (k : Nat) : qTot (rs.take k) ≤ qTot rs := by
  have : qTot rs = qTot (rs.take k) + qTot (rs.drop k) := by
    unfold qTot
    rw [← List.sum_append, ← List.map_append, List.take_append_drop]
  omega

/-- Marks in pieces leave all else: boxes and rows of other kinds. -/
def KeepsK (w w' : World) : Prop := (∀ g t cs, t ≠ 104 → Bx w g t cs → Bx w' g t cs) ∧ ∀ B e size n v xs, e ≠ 104 → w.ownsRow B e size v n xs → w'.ownsRow B e size v n xs
theorem KeepsK.refl (w : World) : KeepsK w w := ⟨fun _ _ _ _ h => h, fun _ _ _ _ _ _ _ h => h⟩
theorem KeepsK.step {w wa wb : World} {row : Option Nat} (h : KeepsK w wa) (hg : wa.grownBy wb row) (hr : ∀ g, row = some g → ∃ c fz, wa.heap[g]? = some (.cells c 104 fz)) : KeepsK w wb := by
  refine ⟨fun g t cs ht hb => (h.1 g t cs ht hb).grown hg (fun he => ?_), fun B e size n v xs ht ho => own_apartQ (h.2 B e size n v xs ht ho) hg (fun k hk he => ?_)⟩
  · obtain ⟨c, fz, h1⟩ := hr g he.symm
    have h2 : wa.heap[g]? = some (.cells cs t (0, 0)) := h.1 g t cs ht hb
    rw [h1] at h2
    injection h2 with h2
    injection h2 with _ h3 _
    exact ht h3.symm
  · obtain ⟨c, fz, h1⟩ := hr k he
    obtain ⟨c2, fz2, h2⟩ := Go.Lib.ownsRow_kind (h.2 B e size n v xs ht ho) k hk
    rw [h1] at h2
    injection h2 with h2
    injection h2 with _ h3 _
    exact ht h3.symm
theorem KeepsK.below {w wa wb : World} (h : KeepsK w wa) (hb : Below wa.heap.size wa wb) : KeepsK w wb := ⟨fun g t cs ht hx => (h.1 g t cs ht hx).below hb, fun B e size n v xs ht ho => own_below (h.2 B e size n v xs ht ho) hb⟩

set_option maxRecDepth 100000 in
set_option maxHeartbeats 1600000 in
theorem markQS_any (v : Value) (rs : List (List Pc)) (base m : Nat) (w : World) (hv : QB w base v rs) (hbase : base ≤ w.heap.size) (hx : rs.length + qTot rs ≤ 1048576) (hm : 1 ≤ m) (hm2 : m ≤ 1000) :
    Calls Try.prog 66 #[v, .int .i64 (m : Int)] w fun e w' => e = .returned (.int .i64 (m + 3 * qTot rs : Nat)) ∧ QB w' base v (mQs m rs) ∧ Below base w w' ∧ KeepsK w w' := by
  obtain ⟨us, h1, h2, h3, h7⟩ := hv
  obtain ⟨n, hn⟩ : ∃ n, rs.length = n := ⟨_, rfl⟩
  rw [hn] at h1 hx
  have h2n : us.length = n := h2.trans hn
  obtain ⟨A, c, hve, hcell⟩ := Row.of_own h1
  have hkind := Go.Lib.ownsRow_kind h1
  rw [h2n] at hve
  have H1 := hidv h1
  have H2 := hidv h2n
  have H3 := hidv h3
  have H7 := hidv h7
  have HN := hidv hn
  have HK := hidv hkind
  have HC := hidv hcell
  subst hve
  clear h1 h2 h3 h7 hn h2n hkind hcell
  go_enter Try.func66, Try.ntmps66
  go_wp2
  go_loopw [1, 5] (fun r i wr => ∃ k : Nat, k ≤ n ∧ i = .int .i64 k ∧ r = .int .i64 ((m + 3 * qTot (rs.take k) : Nat) : Int) ∧ Hid (Below base w wr) ∧ Hid (KeepsK w wr) ∧ Hid (wr.ownsRow base 83 1 (.slice A n c) n us) ∧ Hid (∀ j (hj : j < us.length), ∃ hr : j < rs.length, Qws wr base us[j] (if j < k then mqs (m + 3 * qTot (rs.take j)) rs[j].length else rs[j]))) (fun _ i _ => n - (intOf i).toNat)
  case atStart => exact ⟨0, by omega, rfl, by simp [qTot], hidv (Below.refl _ _), hidv (KeepsK.refl _), H1, hidv (fun j hj => by obtain ⟨hr, h⟩ := H3.out j hj; exact ⟨hr, by simpa using h⟩)⟩
  case round =>
    obtain ⟨k, hk, rfl, rfl, hbe, hkk, hown, hrows⟩ := hrel
    have htl := qTot_take_le rs k
    by_cases hlt : k < n
    · have hku : k < us.length := by have := H2.out; omega
      obtain ⟨hkr, hrow⟩ := hrows.out k hku
      rw [if_neg (Nat.lt_irrefl k)] at hrow
      obtain ⟨A2, c2, hAe, hrc⟩ := Row.of_own hown.out
      have hAA : ∃ g, A = some ⟨g, 0, none⟩ := by
        obtain ⟨g, cap, hf⟩ := Go.Joins.ownsRow_form hown.out (by omega)
        injection hf with h1 _ _
        exact ⟨g, h1⟩
      obtain ⟨g, rfl⟩ := hAA
      have c1 : wr.cell? ⟨g, k, none⟩ = some us[k] := by
        rw [hown.out.cellAt k (by omega), List.getElem?_eq_getElem hku]
      obtain ⟨a, ca, hue, _⟩ := hrow.row
      have hrl := qTot_mem (List.getElem_mem hkr)
      have hsu := qTot_succ rs k hkr
      have htl2 := qTot_take_le rs (k + 1)
      obtain ⟨T, hT⟩ : ∃ T, qTot (rs.take k) = T := ⟨_, rfl⟩
      rw [hT] at htl hsu ⊢
      have CK := hidv (markPcs_any us[k] rs[k] base (m + 3 * T) wr hrow (by omega) (by omega))
      have hkd := hidv (Go.Lib.ownsRow_kind (show wr.ownsRow _ _ _ _ _ _ from hrow))
      have hkd2 := hidv (Go.Lib.ownsRow_kind hown.out)
      have hlo := hidv (World.ownsRow.lt (show wr.ownsRow _ _ _ _ _ _ from hrow))
      obtain ⟨l, hl⟩ : ∃ l, rs[k].length = l := ⟨_, rfl⟩
      obtain ⟨u, hu⟩ : ∃ u, us[k] = u := ⟨_, rfl⟩
      have H7k := hidv (fun j (hj : j < us.length) (hkj : j ≠ k) (a : Nat) (ha : us[j].ownBlock = some a) => (show us[k].ownBlock ≠ some a from by
        rcases Nat.lt_or_ge j k with h | h
        · exact H7.out j k hj hku h a ha
        · intro hb
          exact H7.out k j hku hj (by omega) a hb ha))
      rw [hu] at c1 hue CK H7k hkd hlo
      rw [hl] at hue CK hsu hrl
      have HU := hidv hu
      have HLL := hidv hl
      have HTT := hidv hT
      have HSU := hidv hsu
      subst hue
      have i1 : (0 : Int) ≤ (k : Int) := by omega
      have i2 : (k : Int) < (n : Int) := by omega
      clear hrow hl hu hT hsu hrc hAe
      go_wp2_with fail
      refine CK.out.mono ?_
      rintro e w2 ⟨rfl, hq2, hg2⟩
      have HB2 := hidv (hbe.out.grown hg2 (Nat.le_trans hbase hbe.out.size) (fun k hk => (hlo.out k hk).1))
      have HK2 := hidv (hkk.out.step hg2 hkd.out)
      have HO2 := hidv (own_apartQ hown.out hg2 (fun j hj he => by
        obtain ⟨_, _, e1⟩ := hkd.out j he
        obtain ⟨_, _, e2⟩ := hkd2.out j hj
        rw [e1] at e2
        simp at e2))
      have HR2 := hidv (show ∀ j (hj : j < us.length), ∃ hr : j < rs.length, Qws w2 base us[j] (if j < k + 1 then mqs (m + 3 * qTot (rs.take j)) rs[j].length else rs[j]) from fun j hj => by
        obtain ⟨hr, h8⟩ := hrows.out j hj
        refine ⟨hr, ?_⟩
        by_cases hjk : j = k
        · subst hjk
          rw [if_pos (by omega), HTT.out, HLL.out, HU.out]
          exact hq2
        · have h9 : Qws w2 base us[j] (if j < k then mqs (m + 3 * qTot (rs.take j)) rs[j].length else rs[j]) := own_apartQ (show wr.ownsRow _ _ _ _ _ _ from h8) hg2 (fun b hb he => H7k.out j hj hjk b hb he)
          by_cases hj2 : j < k
          · rw [if_pos hj2] at h9
            rw [if_pos (by omega)]
            exact h9
          · rw [if_neg hj2] at h9
            rw [if_neg (by omega)]
            exact h9)
      clear hg2 hq2
      go_wp2_with fail
      go_roundw
      case rel => exact ⟨k + 1, by omega, by go_num, by rw [HSU.out]; go_num, HB2, HK2, HO2, HR2⟩
      case measure => simp [intOf]; omega
    · obtain rfl : k = n := by omega
      have he : rs.take k = rs := List.take_of_length_le (by have := HN.out; omega)
      rw [he]
      go_wp2
      go_ret
      refine ⟨rfl, ⟨us, by rw [mQs_length, HN.out]; exact hown.out, by rw [mQs_length]; have := H2.out; have := HN.out; omega, fun j hj => ?_, H7.out⟩, hbe.out, hkk.out⟩
      obtain ⟨hr, h8⟩ := hrows.out j hj
      rw [if_pos (by have := H2.out; omega)] at h8
      exact ⟨by rw [mQs_length]; exact hr, by rw [mQs_get hr]; exact h8⟩

set_option maxRecDepth 100000 in
set_option maxHeartbeats 1600000 in
theorem heldQS_any (v : Value) (rs : List (List Pc)) (B m : Nat) (w : World) (hv : QRows w B v (mQs m rs)) (hB : B ≤ w.heap.size) (hx : rs.length + qTot rs ≤ 1048576) (hm : 1 ≤ m) (hm2 : m ≤ 1000) :
    Calls Try.prog 77 #[v, .int .i64 (m : Int)] w fun e w' => e = .returned (.int .i64 (m + 3 * qTot rs : Nat)) ∧ Below w.heap.size w w' := by
  obtain ⟨A, c, rfl, hA⟩ := hv.at
  rw [mQs_length]
  obtain ⟨n, hn⟩ : ∃ n, rs.length = n := ⟨_, rfl⟩
  have HA := hidv hA
  rw [hn] at hx ⊢
  have HN := hidv hn
  clear hA hv hn
  go_enter Try.func77, Try.ntmps77
  go_wp2
  go_loopw [1, 5] (fun r i wr => ∃ k : Nat, k ≤ n ∧ i = .int .i64 k ∧ r = .int .i64 ((m + 3 * qTot (rs.take k) : Nat) : Int) ∧ Hid (Below w.heap.size w wr)) (fun _ i _ => n - (intOf i).toNat)
  case atStart => exact ⟨0, by omega, rfl, by simp [qTot], hidv (Below.refl _ _)⟩
  case round =>
    obtain ⟨k, hk, rfl, rfl, hbe⟩ := hrel
    have htl := qTot_take_le rs k
    by_cases hlt : k < n
    · have hkr : k < rs.length := by have := HN.out; omega
      obtain ⟨g, o, rfl, hg, hce⟩ := HA.out (by rw [mQs_length]; omega)
      obtain ⟨a, cq, e0, r1⟩ := hce k (by rw [mQs_length]; exact hkr)
      rw [mQs_get hkr, mqs_length] at e0 r1
      have c1 := (hbe.out.cell (p := ⟨g, o + k, none⟩) (by show g < w.heap.size; omega)).trans e0
      have hrl := qTot_mem (List.getElem_mem hkr)
      have hsu := qTot_succ rs k hkr
      have htl2 := qTot_take_le rs (k + 1)
      obtain ⟨T, hT⟩ : ∃ T, qTot (rs.take k) = T := ⟨_, rfl⟩
      rw [hT] at htl hsu r1 ⊢
      have CK := hidv (heldPcs_any _ rs[k].length B (m + 3 * T) wr (r1.below (hbe.out.mono hB)) (Nat.le_trans hB hbe.out.size) (by omega) (by omega))
      obtain ⟨l, hl⟩ : ∃ l, rs[k].length = l := ⟨_, rfl⟩
      rw [hl] at c1 CK hsu hrl
      have HSU := hidv hsu
      clear e0 r1 hce hT hl hsu
      go_wp2_with fail
      refine CK.out.mono ?_
      rintro e w2 ⟨rfl, hb2⟩
      have HB2 := hidv (below_on hbe.out hb2)
      clear hb2
      go_wp2_with fail
      go_roundw
      case rel => exact ⟨k + 1, by omega, by go_num, by rw [HSU.out]; go_num, HB2⟩
      case measure => simp [intOf]; omega
    · obtain rfl : k = n := by omega
      have he : rs.take k = rs := List.take_of_length_le (by have := HN.out; omega)
      rw [he]
      go_wp2
      go_ret
      exact ⟨rfl, hbe.out⟩

/-- A family of the call's own, from block 'base' on. -/
def FB (w : World) (base : Nat) (v : Value) (rs : List (List Pc)) : Prop := ∃ va, v = .agg #[va] ∧ QB w base va rs
theorem FB.row {w : World} {base : Nat} {v : Value} {rs : List (List Pc)} (h : FB w base v rs) : Fam w w.heap.size v rs := by
  obtain ⟨va, hv, h1⟩ := h
  exact ⟨va, hv, h1.row⟩
theorem FB.below {w w' : World} {base : Nat} {v : Value} {rs : List (List Pc)} (h : FB w base v rs) (hb : Below w.heap.size w w') : FB w' base v rs := by
  obtain ⟨va, hv, h1⟩ := h
  exact ⟨va, hv, h1.below hb⟩

theorem markFam_any (v : Value) (rs : List (List Pc)) (base : Nat) (w : World) (hv : FB w base v rs) (hbase : base ≤ w.heap.size) (hx : rs.length + qTot rs ≤ 1048576) :
    Calls Try.prog 26 #[v, .int .i64 1] w fun e w' => e = .returned (.int .i64 (1 + 3 * qTot rs : Nat)) ∧ FB w' base v (mQs 1 rs) ∧ Below base w w' ∧ KeepsK w w' := by
  obtain ⟨va, rfl, ha⟩ := hv
  have hbl : Below w.heap.size w (w.alloc (.cells #[va] 48)) := (Below.refl _ _).alloc (Nat.le_refl _) _
  have C := hidv (markQS_any va rs base 1 _ (ha.below hbl) (Nat.le_trans hbase hbl.size) hx (by omega) (by omega))
  have HB := hidv (hbl.mono hbase)
  have HK0 := hidv ((KeepsK.refl w).below hbl)
  clear ha hbl
  go_enter Try.func26, Try.ntmps26
  go_wp2_with fail
  refine C.out.mono ?_
  rintro e w1 ⟨rfl, hq, hb, hk⟩
  have HK := hidv (show KeepsK w w1 from ⟨fun g t cs ht hx => hk.1 g t cs ht (HK0.out.1 g t cs ht hx), fun B e size n v xs ht ho => hk.2 B e size n v xs ht (HK0.out.2 B e size n v xs ht ho)⟩)
  clear hk
  have HQ := hidv hq
  have HB1 := hidv (HB.out.trans hb)
  clear hq hb
  go_wp2_with fail
  go_ret
  exact ⟨rfl, ⟨va, rfl, HQ.out⟩, HB1.out, HK.out⟩

theorem heldFam_any (v : Value) (rs : List (List Pc)) (B : Nat) (w : World) (hv : Fam w B v (mQs 1 rs)) (hB : B ≤ w.heap.size) (hx : rs.length + qTot rs ≤ 1048576) :
    Calls Try.prog 39 #[v, .int .i64 1] w fun e w' => e = .returned (.int .i64 (1 + 3 * qTot rs : Nat)) ∧ Below w.heap.size w w' := by
  obtain ⟨va, rfl, ha⟩ := hv
  have hbl : Below w.heap.size w (w.alloc (.cells #[va] 48)) := (Below.refl _ _).alloc (Nat.le_refl _) _
  have C := hidv (heldQS_any va rs B 1 _ (ha.below (hbl.mono hB)) (Nat.le_trans hB hbl.size) hx (by omega) (by omega))
  have HB := hidv hbl
  clear ha hbl
  go_enter Try.func39, Try.ntmps39
  go_wp2_with fail
  refine C.out.mono ?_
  rintro e w1 ⟨rfl, hb⟩
  have HB1 := hidv (below_on HB.out hb)
  clear hb
  go_wp2_with fail
  go_ret
  exact ⟨rfl, HB1.out⟩

end Go.Proofs.Ythomkmbobaehkaa
