/-
  The rows of all equations, in the model: a contract.
-/
import Derived.Test.YtgfdcpmjaamhdaaNs
import Derived.Test.YtgfdcpmjaamhdaaEqS
import Derived.Test.YtgfdcpmjaamhdaaCopy
import Derived.Lib.OwnKind
namespace Go.Proofs.Ytgfdcpmjaamhdaa
open Go.RowKit Go
set_option linter.unusedVariables false

theorem Try.infoNI : (Try.prog.info? 23).map (fun i => (i.zero, i.size, i.bytes)) = some (some (.slice none 0 0), 1, 24) := by kernel_rfl
theorem own_kindsN {w w' : World} {b1 b2 e1 e2 s1 s2 n1 n2 : Nat} {v1 v2 : Value} {x1 x2 : List Value} (h1 : w.ownsRow b1 e1 s1 v1 n1 x1) (h2 : w.ownsRow b2 e2 s2 v2 n2 x2) (he : e1 ≠ e2) (hg : w.grownBy w' v1.ownBlock) : w'.ownsRow b2 e2 s2 v2 n2 x2 :=
  h2.kept (row := v1.ownBlock) hg (by
    rcases h2.2 with ⟨rfl, _⟩ | ⟨g, cap, cur, rfl, hb, hh, _⟩
    · exact .inl rfl
    · right
      intro hq
      rcases h1.2 with ⟨rfl, _⟩ | ⟨g1, cap1, cur1, rfl, hb1, hh1, _⟩
      · cases hq
      · have h3 : g = g1 := by simpa [Value.ownBlock] using hq
        subst h3
        rw [hh] at hh1
        simp at hh1
        exact he hh1.2.symm)
theorem growN {base : Nat} {w w1 w2 : World} {e size n : Nat} {v : Value} {xs : List Value} {o : Obj} (hb : Below base w w1) (hbase : base ≤ w.heap.size) (h : w1.ownsRow base e size v n xs) (hg : (w1.alloc o).grownBy w2 v.ownBlock) : Below base w w2 :=
  (hb.alloc (Nat.le_trans hbase hb.size) o).grown hg (by have := hb.size; simp; omega) (fun k hk => (World.ownsRow.lt h k hk).1)
theorem one_newN (w : World) (x : Value) (t : TypeId) : ∀ (j : Nat) (u : Value), [x][j]? = some u → (w.alloc (.cells #[x] t)).cell? ((⟨w.heap.size, 0, none⟩ : Addr).add j) = some u := by
  intro j u hu
  match j, hu with
  | 0, hu =>
    obtain rfl : x = u := by simpa using hu
    exact (Bx.new w t #[x]).cell 0
theorem one_cellN (a : Option Addr) (n c : Nat) : ∀ u : Value, u ∈ [Value.slice a n c] → u.oneCell' = true := by
  intro u hu
  simp only [List.mem_cons, List.not_mem_nil, or_false] at hu
  subst hu; rfl

/-- The rows of a system. -/
def surS (es : List Eqn) : List (List Int) := es.map fun e => surL e.1 e.2
theorem surS_ok {es : List Eqn} (hs : sysB es = true) : ∀ s ∈ surS es, s.length = 8 ∧ ∀ x ∈ s, -24 ≤ x ∧ x ≤ 24 := by
  intro s h
  obtain ⟨e, he, rfl⟩ := List.mem_map.1 h
  refine ⟨surL_length _ _, fun x hx => ?_⟩
  unfold sysB at hs
  rw [Bool.and_eq_true, List.all_eq_true] at hs
  obtain ⟨k, hk, rfl⟩ := List.getElem_of_mem hx
  obtain ⟨y, h1, h2, h3⟩ := surL_bd (hs.2 e he) k (by rw [surL_length] at hk; exact hk)
  rw [List.getElem?_eq_getElem hk] at h1
  injection h1 with h1
  rw [h1]
  exact ⟨h2, h3⟩
theorem surS_get (es : List Eqn) (k : Nat) (hk : k < es.length) : ∃ h : k < (surS es).length, (surS es)[k] = surL es[k].1 es[k].2 := by
  refine ⟨by simpa [surS] using hk, ?_⟩
  simp [surS]
/-- The first rows, each in a block of its own. -/
def CopN (w : World) (B : Nat) (rs : List (List Int)) (us : List Value) : Prop :=
  ∀ i (h : i < us.length), ∃ hr : i < rs.length, IntsT 2 w B us[i] rs[i]
theorem CopN.below {w w' : World} {B : Nat} {rs : List (List Int)} {us : List Value} (h : CopN w B rs us) (hb : Below w.heap.size w w') : CopN w' B rs us := fun i hi => by
  obtain ⟨hr, h1⟩ := h i hi
  exact ⟨hr, h1.below hb⟩
theorem CopN.snoc {w : World} {B : Nat} {rs : List (List Int)} {us : List Value} {u : Value} (h : CopN w B rs us) (hk : us.length < rs.length) (hu : IntsT 2 w B u rs[us.length]) : CopN w B rs (us ++ [u]) := fun i hi => by
  rcases Nat.lt_or_ge i us.length with h1 | h1
  · rw [List.getElem_append_left h1]; exact h i h1
  · obtain rfl : i = us.length := by simp at hi; omega
    exact ⟨hk, by simpa using hu⟩
theorem CopN.grown {w w' : World} {B base size n : Nat} {v : Value} {xs : List Value} {rs : List (List Int)} {us : List Value} {o : Obj} (h : CopN w B rs us) (h1 : w.ownsRow base 23 size v n xs) (hg : (w.alloc o).grownBy w' v.ownBlock) : CopN w' B rs us := fun i hi => by
  obtain ⟨hr, h2⟩ := h i hi
  have h3 : w.ownsRow B 2 1 us[i] rs[i].length (rs[i].map (Value.int .i64)) := h2
  exact ⟨hr, own_kindsN (h1.alloc o) (h3.alloc o) (by decide) hg⟩

set_option maxRecDepth 100000 in
set_option maxHeartbeats 1600000 in
theorem l02Rows_any (v : Value) (es : List Eqn) (B : Nat) (w : World) (hv : ERow w B v es) (hB : B ≤ w.heap.size) (hs : sysB es = true) :
    Calls Try.prog 15 #[v] w fun e w' => ∃ u, e = .returned u ∧ IRows w' w'.heap.size u (surS es) ∧ Below w.heap.size w w' := by
  obtain ⟨i0, hi, hz0, hz1, hz2⟩ := info_parts Try.infoNI
  obtain ⟨A, c, rfl, hA⟩ := hv
  obtain ⟨n, hn⟩ : ∃ n, es.length = n := ⟨_, rfl⟩
  have h4 : n ≤ 4 := by
    unfold sysB at hs
    rw [Bool.and_eq_true, decide_eq_true_eq] at hs
    have := hs.1
    omega
  have HA := hidv hA
  have HS := hidv (show ∀ k (hk : k < es.length), eqnB es[k].1 es[k].2 = true from fun k hk => by
    unfold sysB at hs
    rw [Bool.and_eq_true, List.all_eq_true] at hs
    exact hs.2 _ (List.getElem_mem hk))
  rw [hn]
  have HN := hidv hn
  clear hA hs hn
  have hlit := World.ownsRow_lit (e := 23) (size := 1) (base := w.heap.size) w #[] 0 (Nat.le_refl _) (Nat.zero_le _) rfl
  have HLIT := hidv hlit
  have HB0 := hidv (below_al (Below.refl w.heap.size w) (.cells #[] 23))
  clear hlit
  go_enter Try.func15, Try.ntmps15
  go_wp2_with fail
  go_loopw [3, 4] (fun u i wr => ∃ (k : Nat) (us : List Value), k ≤ n ∧ i = .int .i64 (k : Int) ∧ us.length = k ∧ Hid (World.ownsRow wr w.heap.size 23 1 u k us) ∧ Hid (CopN wr w.heap.size (surS es) us) ∧ Hid (Below w.heap.size w wr)) (fun _ i _ => n - (intOf i).toNat)
  case atStart => exact ⟨0, [], Nat.zero_le _, rfl, rfl, HLIT, hidv (fun i hi => absurd hi (by simp)), HB0⟩
  case round =>
    obtain ⟨k, us, hk, rfl, hul, hown, hcp, hbe⟩ := hrel
    by_cases hlt : k < n
    · have hkx : k < es.length := by have := HN.out; omega
      obtain ⟨g, o, rfl, hg, hce⟩ := HA.out (by have := HN.out; omega)
      have c1 : wr.cell? ⟨g, o + k * 2, none⟩ = some (.string es[k].1) := (hbe.out.cell (p := ⟨g, _, none⟩) (by show g < _; omega)).trans (hce k hkx).1
      have c2 : wr.cell? ⟨g, o + k * 2 + 1, none⟩ = some (.string es[k].2) := (hbe.out.cell (p := ⟨g, _, none⟩) (by show g < _; omega)).trans (hce k hkx).2
      have HC := hidv (differ_any es[k].1 es[k].2 wr (HS.out k hkx))
      obtain ⟨hsl, hsg⟩ := surS_get es k hkx
      have HSG := hidv hsg
      obtain ⟨x, hx⟩ : ∃ x, es[k].1 = x := ⟨_, rfl⟩
      obtain ⟨y, hy⟩ : ∃ x, es[k].2 = x := ⟨_, rfl⟩
      rw [hx] at c1 HC HSG
      rw [hy] at c2 HC HSG
      clear hce hx hy hsg
      go_wp2_with fail
      refine HC.out.mono ?_
      rintro e w2 ⟨g2, rfl, hu2, hb2⟩
      have hsw := hbe.out.size
      have HO2 := hidv (own_below hown.out hb2)
      have HI2 := hidv (show IntsT 2 w2 w.heap.size (.slice (some ⟨g2, 0, none⟩) 8 8) (surL x y) from own_wider (show w2.ownsRow wr.heap.size 2 1 _ _ _ from hu2) hsw)
      have HC2 := hidv (hcp.out.below hb2)
      have HB2 := hidv (below_on hbe.out hb2)
      have hsz := HB2.out.size
      clear hb2 hu2 c1 c2
      go_wp2_with (at_builtin; refine wpList_append_own _ rfl (.tmp 12) (.tmp 18) 39 rfl w.heap.size 23 i0 (.slice none 0 0) 1 24 Try.underlying39 hi hz0 hz1 hz2 rfl (by decide) _ _ _ rfl (HO2.out.alloc _) ⟨w2.heap.size, 0, none⟩ 1 1 [.slice (some ⟨g2, 0, none⟩) 8 8] rfl rfl (one_newN w2 _ _) (one_cellN _ _ _) ?_ ?_ ?_ ?_; (unfold maxLen; omega); omega; (simp; omega); intro v1 w5 hown1 hgr1 _)
      have hcp3 : CopN w2 w.heap.size (surS es) (us ++ [.slice (some ⟨g2, 0, none⟩) 8 8]) := by
        subst hul
        exact HC2.out.snoc hsl (by rw [HSG.out]; exact HI2.out)
      have HC3 := hidv (hcp3.grown HO2.out hgr1)
      have HB3 := hidv (growN HB2.out (Nat.le_refl _) HO2.out hgr1)
      have HO3 := hidv hown1
      clear hcp3 hown1 hgr1
      go_roundw
      case rel => exact ⟨k + 1, us ++ [.slice (some ⟨g2, 0, none⟩) 8 8], by omega, by go_num, by simp [hul], HO3, HC3, HB3⟩
      case measure => simp [intOf]; omega
    · obtain rfl : n = k := by omega
      go_wp2_with fail
      go_ret
      refine ⟨_, rfl, ⟨us, Row.of_own hown.out, ?_, fun i hi => ?_⟩, hbe.out⟩
      · rw [hul]; simp [surS, HN.out]
      · obtain ⟨hr, h1⟩ := hcp.out i (by rw [hul, ← HN.out]; simpa [surS] using hi)
        exact ⟨us[i]'(by rw [hul, ← HN.out]; simpa [surS] using hi), List.getElem?_eq_getElem _, h1.row⟩

end Go.Proofs.Ytgfdcpmjaamhdaa
