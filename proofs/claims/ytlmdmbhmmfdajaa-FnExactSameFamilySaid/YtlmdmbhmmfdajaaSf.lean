/-
  SameFamily, of the program and of the model: contracts.
-/
import Derived.Test.YtlmdmbhmmfdajaaFy
import Derived.Deep.QuietTactic
import Derived.BigQuiet
import Derived.Laws.StructEq
namespace Go.Proofs.Ytlmdmbhmmfdajaa
open Go.RowKit Go
set_option linter.unusedVariables false

theorem toList_ne {x y : ByteArray} (h : x ≠ y) : (x.toList == y.toList) = false := by
  rw [beq_eq_false_iff_ne]
  intro e
  rw [ByteArray.toList_eq, ByteArray.toList_eq] at e
  obtain ⟨⟨a⟩⟩ := x
  obtain ⟨⟨b⟩⟩ := y
  exact h (by simpa using e)

set_option maxRecDepth 100000 in
set_option maxHeartbeats 800000 in
theorem equalQ_any (v u : Value) (xs ys : List Pc) (B C : Nat) (w : World) (hv : QRow w B v xs) (hu : QRow w C u ys) (hx : xs.length ≤ maxLen) (_ : ys.length ≤ maxLen) (r : Bool) (hr : decide (xs = ys) = r) :
    Calls Try.prog 35 #[v, u] w fun e w' => e = .returned (.bool r) ∧ Below w.heap.size w w' := by
  unfold maxLen at hx
  obtain ⟨A, c, rfl, hA⟩ := hv
  obtain ⟨A', c', rfl, hA'⟩ := hu
  have HR := hidv hr
  have HA := hidv hA
  have HA' := hidv hA'
  clear hr hA hA'
  by_cases hl : xs.length = ys.length
  · obtain ⟨n, hn⟩ : ∃ n, xs.length = n := ⟨_, rfl⟩
    have HL := hidv hl
    rw [← hl, hn]
    rw [hn] at hx
    have HN := hidv hn
    have hlb : ((n : Int) != (n : Int)) = false := by simp
    clear hl hn
    go_enter Try.func35, Try.ntmps35
    go_wp2
    go_loopw [13] (fun i wr => ∃ k : Nat, k ≤ n ∧ i = .int .i64 k ∧ Hid (xs.take k = ys.take k) ∧ ∃ m, wr = w.drewN m) (fun i _ => n - (intOf i).toNat)
    case atStart => exact ⟨0, Nat.zero_le _, rfl, hidv (by simp), 0, rfl⟩
    case round =>
      obtain ⟨k, hk, rfl, heq, m, rfl⟩ := hrel
      by_cases hlt : k < n
      · have hkx : k < xs.length := by have := HN.out; omega
        have hky : k < ys.length := by have := HN.out; have := HL.out; omega
        obtain ⟨g, o, rfl, hg, hc⟩ := HA.out (by omega)
        obtain ⟨g', o', rfl, hg', hc'⟩ := HA'.out (by omega)
        obtain ⟨c1, c2, c3⟩ := hc k hkx
        obtain ⟨c4, c5, c6⟩ := hc' k hky
        have hts : xs[k] = ys[k] → xs.take (k + 1) = ys.take (k + 1) := fun h => by
          rw [List.take_succ_eq_append_getElem hkx, List.take_succ_eq_append_getElem hky, heq.out, h]
        have hne : xs[k] ≠ ys[k] → xs ≠ ys := fun h e => h (by subst e; rfl)
        obtain ⟨⟨x, y, z⟩, hx1⟩ : ∃ x, xs[k] = x := ⟨_, rfl⟩
        obtain ⟨⟨x', y', z'⟩, hy1⟩ : ∃ x, ys[k] = x := ⟨_, rfl⟩
        rw [hx1] at c1 c2 c3
        rw [hy1] at c4 c5 c6
        rw [hx1, hy1] at hts hne
        dsimp only at c1 c2 c3 c4 c5 c6
        have HT := hidv hts
        have HNE := hidv hne
        have i1 : (0 : Int) ≤ (k : Int) := by omega
        have i2 : (k : Int) < (n : Int) := by omega
        clear hx1 hy1 hts hne hc hc'
        by_cases hxx : x = x'
        · subst hxx
          by_cases hyy : y = y'
          · subst hyy
            by_cases hzz : z = z'
            · subst hzz
              go_wp2
              go_quiet (fail)
              go_wp2
              go_roundw
              case rel => exact ⟨k + 1, by omega, by go_num, hidv (HT.out (by trivial)), _, rfl⟩
              case measure => simp [intOf]; omega
            · have hb : (z == z') = false := by simpa using hzz
              have HF : Hid (decide (xs = ys) = false) := hidv (by rw [decide_eq_false]; exact HNE.out (fun e => hzz (Prod.mk.inj (Prod.mk.inj e).2).2))
              clear hzz
              go_wp2
              go_quiet (fail)
              go_wp2
              go_ret
              exact ⟨ret_bool (by rw [← HR.out, HF.out]), below_drewN (below_drewN (Below.refl _ _) _) _⟩
          · have hb : (y == y') = false := by simpa using hyy
            have HF : Hid (decide (xs = ys) = false) := hidv (by rw [decide_eq_false]; exact HNE.out (fun e => hyy (Prod.mk.inj (Prod.mk.inj e).2).1))
            clear hyy
            go_wp2
            go_quiet (fail)
            go_wp2
            go_ret
            exact ⟨ret_bool (by rw [← HR.out, HF.out]), below_drewN (below_drewN (Below.refl _ _) _) _⟩
        · have hb := toList_ne hxx
          have HF : Hid (decide (xs = ys) = false) := hidv (by rw [decide_eq_false]; exact HNE.out (fun e => hxx (Prod.mk.inj e).1))
          clear hxx
          go_wp2
          go_quiet (fail)
          go_wp2
          go_ret
          exact ⟨ret_bool (by rw [← HR.out, HF.out]), below_drewN (below_drewN (Below.refl _ _) _) _⟩
      · go_wp2
        go_ret
        have he := heq.out
        rw [List.take_of_length_le (by have := HN.out; omega), List.take_of_length_le (by have := HN.out; have := HL.out; omega)] at he
        exact ⟨ret_bool (by rw [← HR.out, decide_eq_true he]), below_drewN (Below.refl _ _) _⟩
  · have hlb : ((xs.length : Int) != (ys.length : Int)) = true := by rw [bne_iff_ne]; omega
    obtain rfl : r = false := by
      rw [← HR.out, decide_eq_false]
      intro h
      exact hl (by rw [h])
    clear hl
    go_enter Try.func35, Try.ntmps35
    go_wp2
    go_ret
    exact ⟨rfl, Below.refl _ _⟩

set_option maxRecDepth 100000 in
set_option maxHeartbeats 800000 in
theorem sameQ_any (v u : Value) (xs ys : List Pc) (B C : Nat) (w : World) (hv : QRow w B v xs) (hu : QRow w C u ys) (hx : xs.length ≤ maxLen) (_ : ys.length ≤ maxLen) (r : Bool) (hr : decide (xs = ys) = r) :
    Calls Try.prog 33 #[v, u] w fun e w' => e = .returned (.bool r) ∧ Below w.heap.size w w' := by
  unfold maxLen at hx
  obtain ⟨A, c, rfl, hA⟩ := hv
  obtain ⟨A', c', rfl, hA'⟩ := hu
  have HR := hidv hr
  have HA := hidv hA
  have HA' := hidv hA'
  clear hr hA hA'
  by_cases hl : xs.length = ys.length
  · obtain ⟨n, hn⟩ : ∃ n, xs.length = n := ⟨_, rfl⟩
    have HL := hidv hl
    rw [← hl, hn]
    rw [hn] at hx
    have HN := hidv hn
    have hlb : ((n : Int) != (n : Int)) = false := by simp
    clear hl hn
    go_enter Try.func33, Try.ntmps33
    go_wp2
    go_loopw [5] (fun i wr => ∃ k : Nat, k ≤ n ∧ i = .int .i64 k ∧ Hid (xs.take k = ys.take k) ∧ ∃ m, wr = w.drewN m) (fun i _ => n - (intOf i).toNat)
    case atStart => exact ⟨0, Nat.zero_le _, rfl, hidv (by simp), 0, rfl⟩
    case round =>
      obtain ⟨k, hk, rfl, heq, m, rfl⟩ := hrel
      by_cases hlt : k < n
      · have hkx : k < xs.length := by have := HN.out; omega
        have hky : k < ys.length := by have := HN.out; have := HL.out; omega
        obtain ⟨g, o, rfl, hg, hc⟩ := HA.out (by omega)
        obtain ⟨g', o', rfl, hg', hc'⟩ := HA'.out (by omega)
        obtain ⟨c1, c2, c3⟩ := hc k hkx
        obtain ⟨c4, c5, c6⟩ := hc' k hky
        have hts : xs[k] = ys[k] → xs.take (k + 1) = ys.take (k + 1) := fun h => by
          rw [List.take_succ_eq_append_getElem hkx, List.take_succ_eq_append_getElem hky, heq.out, h]
        have hne : xs[k] ≠ ys[k] → xs ≠ ys := fun h e => h (by subst e; rfl)
        obtain ⟨⟨x, y, z⟩, hx1⟩ : ∃ x, xs[k] = x := ⟨_, rfl⟩
        obtain ⟨⟨x', y', z'⟩, hy1⟩ : ∃ x, ys[k] = x := ⟨_, rfl⟩
        rw [hx1] at c1 c2 c3
        rw [hy1] at c4 c5 c6
        rw [hx1, hy1] at hts hne
        dsimp only at c1 c2 c3 c4 c5 c6
        have HT := hidv hts
        have HNE := hidv hne
        have i1 : (0 : Int) ≤ (k : Int) := by omega
        have i2 : (k : Int) < (n : Int) := by omega
        clear hx1 hy1 hts hne hc hc'
        by_cases hxx : x = x'
        · subst hxx
          by_cases hyy : y = y'
          · subst hyy
            by_cases hzz : z = z'
            · subst hzz
              go_wp2
              go_quiet (fail)
              go_wp2
              go_roundw
              case rel => exact ⟨k + 1, by omega, by go_num, hidv (HT.out (by trivial)), _, rfl⟩
              case measure => simp [intOf]; omega
            · have hb : (z == z') = false := by simpa using hzz
              have HF : Hid (decide (xs = ys) = false) := hidv (by rw [decide_eq_false]; exact HNE.out (fun e => hzz (Prod.mk.inj (Prod.mk.inj e).2).2))
              clear hzz
              go_wp2
              go_quiet (fail)
              go_wp2
              go_ret
              exact ⟨ret_bool (by rw [← HR.out, HF.out]), below_drewN (below_drewN (Below.refl _ _) _) _⟩
          · have hb : (y == y') = false := by simpa using hyy
            have HF : Hid (decide (xs = ys) = false) := hidv (by rw [decide_eq_false]; exact HNE.out (fun e => hyy (Prod.mk.inj (Prod.mk.inj e).2).1))
            clear hyy
            go_wp2
            go_quiet (fail)
            go_wp2
            go_ret
            exact ⟨ret_bool (by rw [← HR.out, HF.out]), below_drewN (below_drewN (Below.refl _ _) _) _⟩
        · have hb := toList_ne hxx
          have HF : Hid (decide (xs = ys) = false) := hidv (by rw [decide_eq_false]; exact HNE.out (fun e => hxx (Prod.mk.inj e).1))
          clear hxx
          go_wp2
          go_quiet (fail)
          go_wp2
          go_ret
          exact ⟨ret_bool (by rw [← HR.out, HF.out]), below_drewN (below_drewN (Below.refl _ _) _) _⟩
      · go_wp2
        go_ret
        have he := heq.out
        rw [List.take_of_length_le (by have := HN.out; omega), List.take_of_length_le (by have := HN.out; have := HL.out; omega)] at he
        exact ⟨ret_bool (by rw [← HR.out, decide_eq_true he]), below_drewN (Below.refl _ _) _⟩
  · have hlb : ((xs.length : Int) != (ys.length : Int)) = true := by rw [bne_iff_ne]; omega
    obtain rfl : r = false := by
      rw [← HR.out, decide_eq_false]
      intro h
      exact hl (by rw [h])
    clear hl
    go_enter Try.func33, Try.ntmps33
    go_wp2
    go_ret
    exact ⟨rfl, Below.refl _ _⟩

set_option maxRecDepth 100000 in
set_option maxHeartbeats 800000 in
theorem equalQF_any (v u : Value) (rs ss : List (List Pc)) (w : World) (hv : QRows w w.heap.size v rs) (hu : QRows w w.heap.size u ss) (hx : rs.length ≤ maxLen) (hy : ss.length ≤ maxLen) (hs : ∀ r ∈ rs, r.length ≤ maxLen) (ht : ∀ r ∈ ss, r.length ≤ maxLen) (r : Bool) (hr : decide (rs = ss) = r) :
    Calls Try.prog 34 #[v, u, .func (.func 35) #[] #[]] w fun e w' => e = .returned (.bool r) ∧ Below w.heap.size w w' := by
  obtain ⟨A, c, rfl, hA⟩ := hv.at
  obtain ⟨A', c', rfl, hA'⟩ := hu.at
  unfold maxLen at hx hy
  obtain ⟨n, hn⟩ : ∃ n, rs.length = n := ⟨_, rfl⟩
  obtain ⟨m, hm⟩ : ∃ m, ss.length = m := ⟨_, rfl⟩
  have HR := hidv hr
  have HA := hidv hA
  have HA' := hidv hA'
  have HS := hidv hs
  have HT := hidv ht
  rw [hn] at hx ⊢
  rw [hm] at hy ⊢
  have HN := hidv hn
  have HM := hidv hm
  clear hr hn hm hA hA' hs ht hv hu
  by_cases hnm : n = m
  · subst hnm
    have hlb : ((n : Int) != (n : Int)) = false := by simp
    go_enter Try.func34, Try.ntmps34
    go_wp2
    go_loopw [17] (fun i wr => ∃ k : Nat, k ≤ n ∧ i = .int .i64 k ∧ Hid (rs.take k = ss.take k) ∧ Hid (Below w.heap.size w wr)) (fun i _ => n - (intOf i).toNat)
    case atStart => exact ⟨0, Nat.zero_le _, rfl, hidv (by simp), hidv (Below.refl _ _)⟩
    case round =>
      obtain ⟨k, hk, rfl, heq, hb⟩ := hrel
      by_cases hlt : k < n
      · have hkx : k < rs.length := by have := HN.out; omega
        have hky : k < ss.length := by have := HM.out; omega
        obtain ⟨g, o, rfl, hg, hce⟩ := HA.out (by omega)
        obtain ⟨g', o', rfl, hg', hce'⟩ := HA'.out (by omega)
        obtain ⟨a, cp, c1, r1⟩ := hce k hkx
        obtain ⟨a', cp', c2, r2⟩ := hce' k hky
        obtain ⟨l, hl⟩ : ∃ l, rs[k].length = l := ⟨_, rfl⟩
        obtain ⟨l', hl'⟩ : ∃ l, ss[k].length = l := ⟨_, rfl⟩
        rw [hl] at c1 r1
        rw [hl'] at c2 r2
        obtain ⟨b, hbq⟩ : ∃ b, decide (rs[k] = ss[k]) = b := ⟨_, rfl⟩
        have hS : ∀ w', Below w.heap.size w w' → w'.cell? ⟨g, o + k, none⟩ = some (.slice a l cp) ∧ w'.cell? ⟨g', o' + k, none⟩ = some (.slice a' l' cp') ∧ Below w.heap.size w w' := fun w' hw =>
          ⟨(hw.cell (p := ⟨g, _, none⟩) hg).trans c1, (hw.cell (p := ⟨g', _, none⟩) hg').trans c2, hw⟩
        have HQ := hidv hS
        have hcall : ∀ W, Below w.heap.size w W → _ := fun W (hW : Below w.heap.size w W) => equalQ_any _ _ rs[k] ss[k] w.heap.size w.heap.size W (r1.below hW) (r2.below hW) (HS.out _ (List.getElem_mem _)) (HT.out _ (List.getElem_mem _)) b hbq
        have HC := hidv hcall
        have HB := hidv hbq
        have hb' := hb.out
        have i1 : (0 : Int) ≤ (k : Int) := by omega
        have i2 : (k : Int) < (n : Int) := by omega
        clear hce hce' c1 c2 r1 r2 hl hl' hS hcall hbq
        have d1 := (HQ.out _ hb').1
        have d2 := (HQ.out _ hb').2.1
        go_wp2_with fail
        refine (HC.out _ hb').mono ?_
        rintro e w2 ⟨rfl, hbw⟩
        have hbe : Below w.heap.size w w2 := below_two hb' hbw
        cases b
        · have hne : rs[k] ≠ ss[k] := by have := HB.out; simpa using this
          obtain rfl : r = false := by
            rw [← HR.out]; simp only [decide_eq_false_iff_not]
            rintro rfl
            exact hne rfl
          clear hne
          go_wp2
          go_ret
          exact ⟨rfl, hbe⟩
        · have heq2 : rs[k] = ss[k] := by have := HB.out; simpa using this
          have htk : rs.take (k + 1) = ss.take (k + 1) := by
            rw [List.take_succ_eq_append_getElem hkx, List.take_succ_eq_append_getElem hky, heq.out, heq2]
          have HTK := hidv htk
          clear heq2 htk
          go_wp2
          go_roundw
          case rel => exact ⟨k + 1, by omega, by go_num, HTK, hidv hbe⟩
          case measure => simp [intOf]; omega
      · have hk2 : k = n := by omega
        have hr2 : r = true := by
          have h1 := heq.out
          rw [List.take_of_length_le (by have := HN.out; omega), List.take_of_length_le (by have := HM.out; omega)] at h1
          rw [← HR.out]; simp [h1]
        subst hr2
        go_wp2
        go_ret
        exact ⟨rfl, hb.out⟩
  · obtain rfl : r = false := by
      rw [← HR.out]; simp only [decide_eq_false_iff_not]
      rintro rfl
      exact hnm (HN.out.symm.trans HM.out)
    have hne : ((n : Int) != (m : Int)) = true := by simp; omega
    go_enter Try.func34, Try.ntmps34
    go_wp2
    go_ret
    exact ⟨rfl, Below.refl _ _⟩

set_option maxRecDepth 100000 in
set_option maxHeartbeats 800000 in
theorem implSF_any (v u : Value) (rs ss : List (List Pc)) (w : World) (hv : Fam w w.heap.size v rs) (hu : Fam w w.heap.size u ss) (hx : FamMax rs) (hy : FamMax ss) :
    Calls Try.prog 15 #[v, u] w fun e w' => e = .returned (.bool (decide (rs = ss))) ∧ Below w.heap.size w w' := by
  obtain ⟨va, rfl, ha⟩ := hv
  obtain ⟨ua, rfl, hb⟩ := hu
  have HA := hidv ha
  have HB := hidv hb
  have hbw : Below w.heap.size w ((w.alloc (.cells #[va] 29)).alloc (.cells #[ua] 29)) := ((Below.refl _ _).alloc (Nat.le_refl _) _).alloc (by simp) _
  clear ha hb
  go_enter Try.func15, Try.ntmps15
  go_wp2_with fail
  obtain ⟨W, hW⟩ : ∃ W, ((w.alloc (.cells #[va] 29)).alloc (.cells #[ua] 29)) = W := ⟨_, rfl⟩
  rw [hW] at hbw ⊢
  clear hW
  refine (equalQF_any va ua rs ss W ((HA.out.below hbw).more hbw.size) ((HB.out.below hbw).more hbw.size) (by have := hx.1; unfold maxLen; omega) (by have := hy.1; unfold maxLen; omega) (fun r hr => by have := hx.2 r hr; unfold maxLen; omega) (fun r hr => by have := hy.2 r hr; unfold maxLen; omega) _ rfl).mono ?_
  rintro e w1 ⟨rfl, hb1⟩
  have HB1 := hidv (below_on hbw hb1)
  go_wp2
  go_ret
  exact ⟨rfl, HB1.out⟩

set_option maxRecDepth 100000 in
set_option maxHeartbeats 800000 in
theorem specSF_any (v u : Value) (rs ss : List (List Pc)) (w : World) (hv : Fam w w.heap.size v rs) (hu : Fam w w.heap.size u ss) (hmx : FamMax rs) (hmy : FamMax ss) :
    Calls Try.prog 14 #[v, u] w fun e w' => e = .returned (.bool (decide (rs = ss))) ∧ Below w.heap.size w w' := by
  obtain ⟨va, rfl, hv2⟩ := hv
  obtain ⟨ua, rfl, hu2⟩ := hu
  have hx := hmx.1
  have hy := hmy.1
  have hs : ∀ r ∈ rs, r.length ≤ maxLen := fun r hr => by have := hmx.2 r hr; unfold maxLen; omega
  have ht : ∀ r ∈ ss, r.length ≤ maxLen := fun r hr => by have := hmy.2 r hr; unfold maxLen; omega
  obtain ⟨A, c, rfl, hA⟩ := hv2.at
  obtain ⟨A', c', rfl, hA'⟩ := hu2.at
  obtain ⟨r, hr⟩ : ∃ r, decide (rs = ss) = r := ⟨_, rfl⟩
  rw [hr]
  obtain ⟨n, hn⟩ : ∃ n, rs.length = n := ⟨_, rfl⟩
  obtain ⟨m, hm⟩ : ∃ m, ss.length = m := ⟨_, rfl⟩
  rw [hn] at hx ⊢
  rw [hm] at hy ⊢
  have hbx : Below w.heap.size w ((w.alloc (.cells #[.slice A n c] 29)).alloc (.cells #[.slice A' m c'] 29)) := ((Below.refl _ _).alloc (Nat.le_refl _) _).alloc (by simp) _
  have hx0 := ((Bx.new w 29 #[.slice A n c]).alloc (.cells #[.slice A' m c'] 29))
  have hy0 := (Bx.new (w.alloc (.cells #[.slice A n c] 29)) 29 #[.slice A' m c'])
  rw [World.size_alloc] at hy0
  have HR3 := hidv hr
  have HA := hidv hA
  have HA' := hidv hA'
  have HS := hidv hs
  have HT := hidv ht
  have HN := hidv hn
  have HM := hidv hm
  clear hr hn hm hA hA' hs ht hv2 hu2 hmx hmy
  go_enter Try.func14, Try.ntmps14
  by_cases hnm : n = m
  · subst hnm
    have hbne : ((n : Int) != (n : Int)) = false := by simp
    go_wp2_with fail
    obtain ⟨w2, hW⟩ : ∃ W, ((w.alloc (.cells #[.slice A n c] 29)).alloc (.cells #[.slice A' n c'] 29)) = W := ⟨_, rfl⟩
    rw [hW] at hbx hx0 hy0 ⊢
    have hWs : w2.heap.size = w.heap.size + 2 := by rw [← hW]; simp
    have hbw := hbx
    have hx2 := hx0.one
    have hy2 := hy0.one
    clear hW
    go_loopw [5] (fun i wr => ∃ k : Nat, k ≤ n ∧ i = .int .i64 k ∧ Hid (rs.take k = ss.take k) ∧ Hid (Below w2.heap.size w2 wr)) (fun i _ => n - (intOf i).toNat)
    case atStart => exact ⟨0, Nat.zero_le _, rfl, hidv (by simp), hidv (Below.refl _ _)⟩
    case round =>
      obtain ⟨k, hk, rfl, heq, hb⟩ := hrel
      have hsz := hbw.size
      have hsz2 := hWs
      have e1 := (hb.out.cell (p := ⟨w.heap.size, 0, none⟩) (by show w.heap.size < _; omega)).trans hx2
      have e2 := (hb.out.cell (p := ⟨w.heap.size + 1, 0, none⟩) (by show w.heap.size + 1 < _; omega)).trans hy2
      by_cases hlt : k < n
      · have hkx : k < rs.length := by have := HN.out; omega
        have hky : k < ss.length := by have := HM.out; omega
        obtain ⟨g, o, rfl, hg, hce⟩ := HA.out (by omega)
        obtain ⟨g', o', rfl, hg', hce'⟩ := HA'.out (by omega)
        obtain ⟨a, cp, c1, r1⟩ := hce k hkx
        obtain ⟨a', cp', c2, r2⟩ := hce' k hky
        obtain ⟨l, hl⟩ : ∃ l, rs[k].length = l := ⟨_, rfl⟩
        obtain ⟨l', hl'⟩ : ∃ l, ss[k].length = l := ⟨_, rfl⟩
        rw [hl] at c1 r1
        rw [hl'] at c2 r2
        obtain ⟨b, hbq⟩ : ∃ b, decide (rs[k] = ss[k]) = b := ⟨_, rfl⟩
        have hS : ∀ w', Below w2.heap.size w2 w' → w'.cell? ⟨w.heap.size, 0, none⟩ = some (.slice (some ⟨g, o, none⟩) n c) ∧ w'.cell? ⟨w.heap.size + 1, 0, none⟩ = some (.slice (some ⟨g', o', none⟩) n c') ∧ w'.cell? ⟨g, o + k, none⟩ = some (.slice a l cp) ∧ w'.cell? ⟨g', o' + k, none⟩ = some (.slice a' l' cp') ∧ Below w2.heap.size w2 w' := fun w' hw =>
          ⟨(hw.cell (p := ⟨w.heap.size, 0, none⟩) (by show w.heap.size < _; omega)).trans hx2, (hw.cell (p := ⟨w.heap.size + 1, 0, none⟩) (by show w.heap.size + 1 < _; omega)).trans hy2, ((hbw.trans (hw.mono hsz)).cell (p := ⟨g, _, none⟩) hg).trans c1, ((hbw.trans (hw.mono hsz)).cell (p := ⟨g', _, none⟩) hg').trans c2, hw⟩
        have HQ := hidv hS
        have hcall : ∀ W, Below w2.heap.size w2 W → _ := fun W (hW : Below w2.heap.size w2 W) => sameQ_any _ _ rs[k] ss[k] w.heap.size w.heap.size W (r1.below (hbw.trans (hW.mono hsz))) (r2.below (hbw.trans (hW.mono hsz))) (HS.out _ (List.getElem_mem _)) (HT.out _ (List.getElem_mem _)) b hbq
        have HC := hidv hcall
        have HB := hidv hbq
        have hb' := hb.out
        have i1 : (0 : Int) ≤ (k : Int) := by omega
        have i2 : (k : Int) < (n : Int) := by omega
        clear hce hce' c1 c2 r1 r2 hl hl' hS hcall hbq
        go_wp2_with fail
        go_region_held3 (fun w' => w'.cell? ⟨w.heap.size, 0, none⟩ = some (.slice (some ⟨g, o, none⟩) n c) ∧ w'.cell? ⟨w.heap.size + 1, 0, none⟩ = some (.slice (some ⟨g', o', none⟩) n c') ∧ w'.cell? ⟨g, o + k, none⟩ = some (.slice a l cp) ∧ w'.cell? ⟨g', o' + k, none⟩ = some (.slice a' l' cp') ∧ Below w2.heap.size w2 w') (first | exact HQ.out _ (Below.drew hb') | exact HQ.out _ (below_two (Below.drew hb') hbwx)) (first | (go_at_call 33; refine (HC.out _ (Below.drew hb')).mono ?_; rintro e w4 ⟨rfl, hbwx⟩))
        have hbe : Below w2.heap.size w2 w4 := below_two (Below.drew hb') hbwx
        cases b
        · have hne : rs[k] ≠ ss[k] := by have := HB.out; simpa using this
          obtain rfl : r = false := by
            rw [← HR3.out]; simp only [decide_eq_false_iff_not]
            rintro rfl
            exact hne rfl
          clear hne
          have hbz := hbw.trans (hbe.mono hsz)
          go_wp2
          go_ret
          exact ⟨rfl, hbz⟩
        · have heq2 : rs[k] = ss[k] := by have := HB.out; simpa using this
          have htk : rs.take (k + 1) = ss.take (k + 1) := by
            rw [List.take_succ_eq_append_getElem hkx, List.take_succ_eq_append_getElem hky, heq.out, heq2]
          have HTK := hidv htk
          clear heq2 htk
          go_wp2
          go_roundw
          case rel => exact ⟨k + 1, by omega, by go_num, HTK, hidv hbe⟩
          case measure => simp [intOf]; omega
      · have hk2 : k = n := by omega
        have hr2 : r = true := by
          have h1 := heq.out
          rw [List.take_of_length_le (by have := HN.out; omega), List.take_of_length_le (by have := HM.out; omega)] at h1
          rw [← HR3.out]; simp [h1]
        subst hr2
        have hbz := hbw.trans (hb.out.mono hsz)
        go_wp2
        go_ret
        exact ⟨rfl, hbz⟩
  · obtain rfl : r = false := by
      rw [← HR3.out]; simp only [decide_eq_false_iff_not]
      rintro rfl
      exact hnm (HN.out.symm.trans HM.out)
    have hnb : ((n : Int) != (m : Int)) = true := by simp; omega
    go_wp2
    go_ret
    exact ⟨rfl, hbx⟩

end Go.Proofs.Ytlmdmbhmmfdajaa
