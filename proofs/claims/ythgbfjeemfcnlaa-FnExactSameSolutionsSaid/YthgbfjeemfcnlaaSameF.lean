/-
  SameSolutions of the model: a contract.
-/
import Derived.Test.YthgbfjeemfcnlaaSameE
namespace Go.Proofs.Ythgbfjeemfcnlaa
open Go.RowKit Go
set_option linter.unusedVariables false

set_option maxRecDepth 100000 in
set_option maxHeartbeats 1600000 in
theorem specSame_any (v u : Value) (e f : Bool) (xs ys : List ByteArray) (ps qs : List Pw) (B C : Nat) (w : World) (hv : Desc w B v e xs ps) (hu : Desc w C u f ys qs) (hB : B ≤ w.heap.size) (hC : C ≤ w.heap.size) (hx : xs.length ≤ 1048576) (hy : ys.length ≤ 1048576) (hp : ps.length ≤ 1048576) (hq : qs.length ≤ 1048576) (r : Bool) (hr : sameB e f xs ys ps qs = r) :
    Calls Try.prog 11 #[v, u] w fun e w' => e = .returned (.bool r) ∧ Below w.heap.size w w' := by
  obtain ⟨va, vb, rfl, ha, hb⟩ := hv
  obtain ⟨ua, ub, rfl, ha', hb'⟩ := hu
  obtain ⟨Aa, ca, rfl, hAa⟩ := strRow_at ha
  obtain ⟨Ab, cb, rfl, hAb⟩ := strRow_at ha'
  obtain ⟨Pa, da, rfl, hPa⟩ := hb
  obtain ⟨Pb, db, rfl, hPb⟩ := hb'
  have HR := hidv hr
  have HAa := hidv hAa
  have HAb := hidv hAb
  have HPa := hidv hPa
  have HPb := hidv hPb
  clear hr hAa hAb hPa hPb ha ha'
  have hbx := fun (x y : Value) => (show Below w.heap.size w ((w.alloc (.cells #[.bool e, .slice Aa xs.length ca, .slice Pa ps.length da] 30)).alloc (.cells #[.bool f, x, y] 30)) from ((Below.refl _ _).alloc (Nat.le_refl _) _).alloc (by simp) _)
  have hx0 := fun (x y : Value) => ((Bx.new w 30 #[.bool e, .slice Aa xs.length ca, .slice Pa ps.length da]).alloc (.cells #[.bool f, x, y] 30))
  have hy0 := fun (x y : Value) => (Bx.new (w.alloc (.cells #[.bool e, .slice Aa xs.length ca, .slice Pa ps.length da] 30)) 30 #[.bool f, x, y])
  rw [World.size_alloc] at hy0
  by_cases hef : e = f
  · subst hef
    have hee : (e == e) = true := by simp
    by_cases hl : xs.length = ys.length
    · by_cases hm : ps.length = qs.length
      · obtain ⟨n, hn⟩ : ∃ n, xs.length = n := ⟨_, rfl⟩
        obtain ⟨l, hlp⟩ : ∃ n, ps.length = n := ⟨_, rfl⟩
        have hbx1 := hbx (.slice Ab ys.length cb) (.slice Pb qs.length db)
        have hx1 := hx0 (.slice Ab ys.length cb) (.slice Pb qs.length db)
        have hy1 := hy0 (.slice Ab ys.length cb) (.slice Pb qs.length db)
        clear hbx hx0 hy0
        rw [← hl, ← hm, hn, hlp] at hbx1 hx1 hy1 ⊢
        rw [hn] at hx
        rw [hlp] at hp
        have HL := hidv hl
        have HM := hidv hm
        have HN := hidv hn
        have HLP := hidv hlp
        have h1 : ((n : Int) != (n : Int)) = false := by simp
        have h2 : ((l : Int) != (l : Int)) = false := by simp
        clear hl hm hn hlp
        go_enter Try.func11, Try.ntmps11
        go_wp2
        obtain ⟨W, hW⟩ : ∃ W, (w.alloc (.cells #[.bool e, .slice Aa n ca, .slice Pa l da] 30)).alloc (.cells #[.bool e, .slice Ab n cb, .slice Pb l db] 30) = W := ⟨_, rfl⟩
        rw [hW] at hbx1 hx1 hy1 ⊢
        have HBX := hidv hbx1
        obtain ⟨x0, x1, x2⟩ := hx1.three
        obtain ⟨y0, y1, y2⟩ := hy1.three
        clear hW hbx1 hx1 hy1
        go_loopw [5] (fun i wr => ∃ k : Nat, k ≤ n ∧ i = .int .i64 k ∧ Hid (xs.take k = ys.take k) ∧ ∃ m, wr = W.drewN m) (fun i _ => n - (intOf i).toNat)
        case atStart => exact ⟨0, Nat.zero_le _, rfl, hidv (by simp), 0, rfl⟩
        case round =>
          obtain ⟨k, hk, rfl, heq, m, rfl⟩ := hrel
          by_cases hlt : k < n
          · have hkx : k < xs.length := by have := HN.out; omega
            have hky : k < ys.length := by have := HN.out; have := HL.out; omega
            obtain ⟨g, o, rfl, hg, hc⟩ := HAa.out (by omega)
            obtain ⟨g', o', rfl, hg', hc'⟩ := HAb.out (by omega)
            have c1 : W.cell? ⟨g, o + k, none⟩ = some (.string xs[k]) := (HBX.out.cell (p := ⟨g, _, none⟩) (by show g < _; omega)).trans (hc k hkx)
            have c2 : W.cell? ⟨g', o' + k, none⟩ = some (.string ys[k]) := (HBX.out.cell (p := ⟨g', _, none⟩) (by show g' < _; omega)).trans (hc' k hky)
            have hts : xs[k] = ys[k] → xs.take (k + 1) = ys.take (k + 1) := fun h => by
              rw [List.take_succ_eq_append_getElem hkx, List.take_succ_eq_append_getElem hky, heq.out, h]
            have hne : xs[k] ≠ ys[k] → xs ≠ ys := fun h e => h (by subst e; rfl)
            obtain ⟨x, hxk⟩ : ∃ x, xs[k] = x := ⟨_, rfl⟩
            obtain ⟨y, hyk⟩ : ∃ x, ys[k] = x := ⟨_, rfl⟩
            rw [hxk] at c1
            rw [hyk] at c2
            rw [hxk, hyk] at hts hne
            have HT := hidv hts
            have HNE := hidv hne
            have i1 : (0 : Int) ≤ (k : Int) := by omega
            have i2 : (k : Int) < (n : Int) := by omega
            clear hxk hyk hts hne hc hc'
            by_cases hxx : x = y
            · subst hxx
              go_wp2
              go_quiet (fail)
              go_wp2
              go_roundw
              case rel => exact ⟨k + 1, by omega, by go_num, hidv (HT.out (by trivial)), _, rfl⟩
              case measure => simp [intOf]; omega
            · have hb := toList_ne hxx
              have HF : Hid (decide (xs = ys) = false) := hidv (by rw [decide_eq_false]; exact HNE.out hxx)
              clear hxx
              go_wp2
              go_quiet (fail)
              go_wp2
              go_ret
              exact ⟨ret_bool (by rw [← HR.out]; unfold sameB; rw [HF.out, Bool.false_and, Bool.and_false]), below_drewN (below_drewN HBX.out _) _⟩
          · have he := heq.out
            rw [List.take_of_length_le (by have := HN.out; omega), List.take_of_length_le (by have := HN.out; have := HL.out; omega)] at he
            have HE := hidv he
            clear he
            go_wp2
            go_loopw [6] (fun i wr => ∃ k : Nat, k ≤ l ∧ i = .int .i64 k ∧ Hid (ps.take k = qs.take k) ∧ ∃ m, wr = W.drewN m) (fun i _ => l - (intOf i).toNat)
            case atStart => exact ⟨0, Nat.zero_le _, rfl, hidv (by simp), _, rfl⟩
            case round =>
              obtain ⟨j, hj, rfl, heq2, m2, rfl⟩ := hrel
              by_cases hlt2 : j < l
              · have hkx : j < ps.length := by have := HLP.out; omega
                have hky : j < qs.length := by have := HLP.out; have := HM.out; omega
                obtain ⟨g, o, rfl, hg, hc⟩ := HPa.out (by omega)
                obtain ⟨g', o', rfl, hg', hc'⟩ := HPb.out (by omega)
                obtain ⟨d1, d2, d3⟩ := hc j hkx
                obtain ⟨d4, d5, d6⟩ := hc' j hky
                have c1 := (HBX.out.cell (p := ⟨g, _, none⟩) (by show g < _; omega)).trans d1
                have c2 := (HBX.out.cell (p := ⟨g, _, none⟩) (by show g < _; omega)).trans d2
                have c3 := (HBX.out.cell (p := ⟨g, _, none⟩) (by show g < _; omega)).trans d3
                have c4 := (HBX.out.cell (p := ⟨g', _, none⟩) (by show g' < _; omega)).trans d4
                have c5 := (HBX.out.cell (p := ⟨g', _, none⟩) (by show g' < _; omega)).trans d5
                have c6 := (HBX.out.cell (p := ⟨g', _, none⟩) (by show g' < _; omega)).trans d6
                have hts : ps[j] = qs[j] → ps.take (j + 1) = qs.take (j + 1) := fun h => by
                  rw [List.take_succ_eq_append_getElem hkx, List.take_succ_eq_append_getElem hky, heq2.out, h]
                have hne : ps[j] ≠ qs[j] → ps ≠ qs := fun h e => h (by subst e; rfl)
                obtain ⟨⟨x, y, z⟩, hxk⟩ : ∃ x, ps[j] = x := ⟨_, rfl⟩
                obtain ⟨⟨x', y', z'⟩, hyk⟩ : ∃ x, qs[j] = x := ⟨_, rfl⟩
                rw [hxk] at c1 c2 c3
                rw [hyk] at c4 c5 c6
                rw [hxk, hyk] at hts hne
                dsimp only at c1 c2 c3 c4 c5 c6
                have HT := hidv hts
                have HNE := hidv hne
                have i1 : (0 : Int) ≤ (j : Int) := by omega
                have i2 : (j : Int) < (l : Int) := by omega
                clear hxk hyk hts hne hc hc' d1 d2 d3 d4 d5 d6
                by_cases hxx : x = x'
                · subst hxx
                  by_cases hyy : y = y'
                  · subst hyy
                    by_cases hzz : z = z'
                    · subst hzz
                      go_wp2
                      go_quiet (fail)
                      go_wp2
                      go_roundw
                      case rel => exact ⟨j + 1, by omega, by go_num, hidv (HT.out (by trivial)), _, rfl⟩
                      case measure => simp [intOf]; omega
                    · have hb : (z == z') = false := by simpa using hzz
                      have HF : Hid (decide (ps = qs) = false) := hidv (by rw [decide_eq_false]; exact HNE.out (fun e => hzz (Prod.mk.inj (Prod.mk.inj e).2).2))
                      clear hzz
                      go_wp2
                      go_quiet (fail)
                      go_wp2
                      go_ret
                      exact ⟨ret_bool (by rw [← HR.out]; unfold sameB; rw [HF.out, Bool.and_false, Bool.and_false]), below_drewN (below_drewN HBX.out _) _⟩
                  · have hb := toList_ne hyy
                    have HF : Hid (decide (ps = qs) = false) := hidv (by rw [decide_eq_false]; exact HNE.out (fun e => hyy (Prod.mk.inj (Prod.mk.inj e).2).1))
                    clear hyy
                    go_wp2
                    go_quiet (fail)
                    go_wp2
                    go_ret
                    exact ⟨ret_bool (by rw [← HR.out]; unfold sameB; rw [HF.out, Bool.and_false, Bool.and_false]), below_drewN (below_drewN HBX.out _) _⟩
                · have hb := toList_ne hxx
                  have HF : Hid (decide (ps = qs) = false) := hidv (by rw [decide_eq_false]; exact HNE.out (fun e => hxx (Prod.mk.inj e).1))
                  clear hxx
                  go_wp2
                  go_quiet (fail)
                  go_wp2
                  go_ret
                  exact ⟨ret_bool (by rw [← HR.out]; unfold sameB; rw [HF.out, Bool.and_false, Bool.and_false]), below_drewN (below_drewN HBX.out _) _⟩
              · go_wp2
                go_ret
                have he2 := heq2.out
                rw [List.take_of_length_le (by have := HLP.out; omega), List.take_of_length_le (by have := HLP.out; have := HM.out; omega)] at he2
                exact ⟨ret_bool (by rw [← HR.out]; unfold sameB; rw [decide_eq_true HE.out, decide_eq_true he2]; simp), below_drewN HBX.out _⟩
      · have h1 : ((xs.length : Int) != (ys.length : Int)) = false := by simp [hl]
        have h2 : ((ps.length : Int) != (qs.length : Int)) = true := by rw [bne_iff_ne]; omega
        obtain rfl : r = false := by
          rw [← HR.out]; unfold sameB
          rw [decide_eq_false (p := ps = qs) (fun h => hm (by rw [h])), Bool.and_false, Bool.and_false]
        clear hl hm
        clear hbx hx0 hy0
        go_enter Try.func11, Try.ntmps11
        go_wp2
        go_ret
        exact ⟨rfl, ((Below.refl _ _).alloc (Nat.le_refl _) _).alloc (by simp) _⟩
    · have h1 : ((xs.length : Int) != (ys.length : Int)) = true := by rw [bne_iff_ne]; omega
      obtain rfl : r = false := by
        rw [← HR.out]; unfold sameB
        rw [decide_eq_false (p := xs = ys) (fun h => hl (by rw [h])), Bool.false_and, Bool.and_false]
      clear hl
      clear hbx hx0 hy0
      go_enter Try.func11, Try.ntmps11
      go_wp2
      go_ret
      exact ⟨rfl, ((Below.refl _ _).alloc (Nat.le_refl _) _).alloc (by simp) _⟩
  · have hee : (e == f) = false := by simpa using hef
    obtain rfl : r = false := by
      rw [← HR.out]; unfold sameB
      rw [decide_eq_false hef, Bool.false_and]
    clear hbx hx0 hy0
    go_enter Try.func11, Try.ntmps11
    go_wp2
    go_ret
    exact ⟨rfl, ((Below.refl _ _).alloc (Nat.le_refl _) _).alloc (by simp) _⟩

end Go.Proofs.Ythgbfjeemfcnlaa
