/-
  Whether a word is described: slices.Contains over texts, the closure, the model's l04Has: contracts.
-/
import Derived.Test.YthgbfjeemfcnlaaVsw
import Derived.Test.YthgbfjeemfcnlaaSameD
namespace Go.Proofs.Ythgbfjeemfcnlaa
open Go.RowKit Go
set_option linter.unusedVariables false

/-- No text of the list is this one. -/
def noneS (xs : List ByteArray) (s : ByteArray) : Bool := Wd.allN xs.length fun k => !(decide (xs.getD k ⟨#[]⟩ = s))

set_option maxRecDepth 100000 in
set_option maxHeartbeats 800000 in
theorem indexS_any (v : Value) (xs : List ByteArray) (s : ByteArray) (B : Nat) (w : World) (hv : Row w B v (xs.map Value.string)) (hx : xs.length ≤ 1048576) :
    Calls Try.prog 47 #[v, .string s] w fun e w' => ∃ i : Int, e = .returned (.int .i64 i) ∧ decide (0 ≤ i) = !(noneS xs s) ∧ -1 ≤ i ∧ i ≤ 1048576 ∧ w = w' := by
  obtain ⟨A, c, rfl, hA⟩ := strRow_at hv
  obtain ⟨n, hn⟩ : ∃ n, xs.length = n := ⟨_, rfl⟩
  obtain ⟨r, hr⟩ : ∃ r, noneS xs s = r := ⟨_, rfl⟩
  have HR : Hid (Wd.allN n (fun k => !(decide (xs.getD k ⟨#[]⟩ = s))) = r) := hidv (by rw [← hn, ← hr]; rfl)
  rw [hr]
  have HA := hidv hA
  rw [hn] at hx ⊢
  have HN := hidv hn
  clear hA hn hr hv
  go_enter Try.func47, Try.ntmps47
  go_wp2
  go_loop [8] (fun i => ∃ k : Nat, k ≤ n ∧ i = .int .i64 k ∧ Hid (Wd.allN k (fun k => !(decide (xs.getD k ⟨#[]⟩ = s))) = true)) (fun i => n - (intOf i).toNat)
  case atStart => exact ⟨0, Nat.zero_le _, rfl, hidv rfl⟩
  case round =>
    obtain ⟨k, hk, rfl, hall⟩ := hrel
    by_cases hlt : k < n
    · have hkx : k < xs.length := by have := HN.out; omega
      obtain ⟨g, o, rfl, hg, hce⟩ := HA.out (by have := HN.out; omega)
      have c1 := hce k hkx
      have hsu := Wd.allN_succ k (fun k => !(decide (xs.getD k ⟨#[]⟩ = s)))
      have hfa := Wd.allN_false (f := fun k => !(decide (xs.getD k ⟨#[]⟩ = s))) k hlt
      rw [hall.out, Bool.true_and, str_at hkx] at hsu
      rw [HR.out, str_at hkx] at hfa
      obtain ⟨y, hy⟩ : ∃ y, xs[k] = y := ⟨_, rfl⟩
      rw [hy] at c1 hsu hfa
      have HSU := hidv hsu
      have HFA := hidv hfa
      clear hsu hfa hy hce
      by_cases hys : y = s
      · subst hys
        obtain rfl : r = false := HFA.out (by simp)
        go_wp2
        go_ret
        exact ⟨_, rfl, by first | omega | (rw [decide_eq_true (by omega)]; rfl), by omega, by omega, rfl⟩
      · have hsu2 : Wd.allN (k + 1) (fun k => !(decide (xs.getD k ⟨#[]⟩ = s))) = true := HSU.out.trans (by rw [decide_eq_false hys]; rfl)
        have hne := toList_ne (Ne.symm hys)
        have HSU2 := hidv hsu2
        clear hys hsu2
        go_wp2
        go_round
        case rel => exact ⟨k + 1, by omega, by go_num, HSU2⟩
        case measure => simp [intOf]; omega
    · obtain rfl : k = n := by omega
      obtain rfl : r = true := by rw [← HR.out]; exact hall.out
      go_wp2
      go_ret
      exact ⟨_, rfl, by first | rfl | omega, by omega, by omega, rfl⟩

theorem containsS_any (v : Value) (xs : List ByteArray) (s : ByteArray) (B : Nat) (w : World) (hv : Row w B v (xs.map Value.string)) (hx : xs.length ≤ 1048576) :
    Calls Try.prog 33 #[v, .string s] w fun e w' => e = .returned (.bool !(noneS xs s)) ∧ w = w' := by
  have C1 := hidv (indexS_any v xs s B w hv hx)
  have hvv : ∃ A c, v = .slice A xs.length c := by obtain ⟨A, c, hv, _⟩ := strRow_at hv; exact ⟨A, c, hv⟩
  obtain ⟨A, c, rfl⟩ := hvv
  obtain ⟨r, hr⟩ : ∃ r, (!(noneS xs s)) = r := ⟨_, rfl⟩
  rw [hr] at C1 ⊢
  clear hv hr
  go_enter Try.func33, Try.ntmps33
  go_wp2_with fail
  refine C1.out.mono ?_
  rintro e w1 ⟨i, rfl, hi, hi1, hi2, rfl⟩
  cases r
  · have h0 : ¬ (0 ≤ i) := of_decide_eq_false hi
    go_wp2_with fail
    go_ret
    exact ⟨rfl, rfl⟩
  · have h0 : 0 ≤ i := of_decide_eq_true hi
    go_wp2_with fail
    go_ret
    exact ⟨rfl, rfl⟩

set_option maxHeartbeats 400000 in
theorem closH_any (p : Pw) (s : ByteArray) (b : Nat) (w : World) (c0 : w.cell? ⟨b, 0, none⟩ = some (.string s)) (hp : famL p.1.data.toList p.2.1.data.toList p.2.2 = true) (hs : s.size ≤ 1000) :
    Calls Try.prog 32 #[pwV p, .pointer (some ⟨b, 0, none⟩)] w fun e w' => e = .returned (.bool (hitB s 0 p)) ∧ Below w.heap.size w w' := by
  obtain ⟨h1, h2, h3, h4, h5⟩ := fam_sizes hp
  unfold hitB pwV
  obtain ⟨r, t, f⟩ := p
  dsimp only at h1 h2 h3 h4 h5 ⊢
  rw [Int.sub_zero]
  have C1 := hidv (fun W => has_any r t s f f W h1 (by omega) hs (by unfold maxLen; omega))
  obtain ⟨q, hq⟩ : ∃ q, Wd.hasL r.data.toList t.data.toList s.data.toList f = q := ⟨_, rfl⟩
  rw [hq] at C1 ⊢
  have hlt : b < w.heap.size := World.block_lt_of_cell? _ _ c0
  clear hq hp
  go_enter Try.func32, Try.ntmps32
  go_wp2_with fail
  refine (C1.out _).mono ?_
  rintro e w1 ⟨rfl, hb1⟩
  go_wp2_with fail
  go_ret
  exact ⟨rfl, below_on (below_al (Below.refl _ _) _) hb1⟩

def hasV (e : Bool) (xs : List ByteArray) (ps : List Pw) (s : ByteArray) : Bool := e || (!(noneP ps (hitB s 0)) || !(noneS xs s))

set_option maxRecDepth 100000 in
set_option maxHeartbeats 1600000 in
theorem specHas_any (b : Nat) (e : Bool) (va vb : Value) (xs : List ByteArray) (ps : List Pw) (s : ByteArray) (B : Nat) (w : World) (hb0 : w.cell? ⟨b, 0, none⟩ = some (.bool e)) (hb1 : w.cell? ⟨b, 1, none⟩ = some va) (hb2 : w.cell? ⟨b, 2, none⟩ = some vb)
    (ha : Row w B va (xs.map Value.string)) (hb : PRow w B vb ps) (hB : B ≤ w.heap.size) (hx : xs.length ≤ 1048576) (hp : ps.length ≤ 1048576) (hf : ∀ p ∈ ps, famL p.1.data.toList p.2.1.data.toList p.2.2 = true) (hs : s.size ≤ 1000) :
    Calls Try.prog 30 #[.pointer (some ⟨b, 0, none⟩), .string s] w fun e1 w' => e1 = .returned (.bool (hasV e xs ps s)) ∧ Below w.heap.size w w' := by
  obtain ⟨r, hr⟩ : ∃ r, hasV e xs ps s = r := ⟨_, rfl⟩
  have HSS : Hid (noneS xs s = false → r = true) := hidv (fun h => by rw [← hr]; unfold hasV; rw [h]; simp)
  have HPP : Hid (noneP ps (hitB s 0) = false → r = true) := hidv (fun h => by rw [← hr]; unfold hasV; rw [h]; simp)
  have HEE : Hid (noneS xs s = true → noneP ps (hitB s 0) = true → r = e) := hidv (fun h1 h2 => by rw [← hr]; unfold hasV; rw [h1, h2]; simp)
  rw [hr]
  clear hr
  obtain ⟨A, ca, rfl, hA⟩ := strRow_at ha
  obtain ⟨Q, cp, rfl, hQ⟩ := hb
  obtain ⟨n, hn⟩ : ∃ n, xs.length = n := ⟨_, rfl⟩
  obtain ⟨m, hm⟩ : ∃ m, ps.length = m := ⟨_, rfl⟩
  have HA := hidv hA
  have HQ := hidv hQ
  have HN := hidv hn
  have HM := hidv hm
  have HF := hidv hf
  rw [hn] at hb1 hx
  rw [hm] at hb2 hp
  have hbl : b < w.heap.size := World.block_lt_of_cell? _ _ hb0
  have HX := hidv (fun W (hW : Below w.heap.size w W) => (show W.cell? ⟨b, 0, none⟩ = some (.bool e) ∧ W.cell? ⟨b, 1, none⟩ = some (.slice A n ca) ∧ W.cell? ⟨b, 2, none⟩ = some (.slice Q m cp) from ⟨(hW.cell (p := ⟨b, 0, none⟩) hbl).trans hb0, (hW.cell (p := ⟨b, 1, none⟩) hbl).trans hb1, (hW.cell (p := ⟨b, 2, none⟩) hbl).trans hb2⟩))
  clear ha hA hQ hn hm hf hb0 hb1 hb2
  go_enter Try.func30, Try.ntmps30
  go_wp2
  go_loopw [5] (fun i wr => ∃ k : Nat, k ≤ n ∧ i = .int .i64 k ∧ Hid (Wd.allN k (fun k => !(decide (xs.getD k ⟨#[]⟩ = s))) = true) ∧ Hid (Below w.heap.size w wr)) (fun i _ => n - (intOf i).toNat)
  case atStart => exact ⟨0, Nat.zero_le _, rfl, hidv rfl, hidv (Below.refl _ _)⟩
  case round =>
    obtain ⟨k, hk, rfl, hall, hbe⟩ := hrel
    obtain ⟨x0, x1, x2⟩ := HX.out wr hbe.out
    by_cases hlt : k < n
    · have hkx : k < xs.length := by have := HN.out; omega
      obtain ⟨g, o, rfl, hg, hce⟩ := HA.out (by have := HN.out; omega)
      have c1 := (hbe.out.cell (p := ⟨g, _, none⟩) (by show g < _; omega)).trans (hce k hkx)
      have hsu := Wd.allN_succ k (fun k => !(decide (xs.getD k ⟨#[]⟩ = s)))
      have hfa : (!(decide (xs[k] = s))) = false → r = true := fun h => HSS.out (by unfold noneS; exact Wd.allN_false k hkx (by rw [str_at hkx]; exact h))
      rw [hall.out, Bool.true_and, str_at hkx] at hsu
      obtain ⟨y, hy⟩ : ∃ y, xs[k] = y := ⟨_, rfl⟩
      rw [hy] at c1 hsu hfa
      have HSU := hidv hsu
      have HFA := hidv hfa
      clear hsu hfa hy hce
      by_cases hys : y = s
      · subst hys
        have hr1 : r = true := HFA.out (by simp)
        go_wp2
        go_ret
        exact ⟨by first | rfl | exact ret_bool hr1.symm, hbe.out⟩
      · have hsu2 : Wd.allN (k + 1) (fun k => !(decide (xs.getD k ⟨#[]⟩ = s))) = true := HSU.out.trans (by rw [decide_eq_false hys]; rfl)
        have hne := toList_ne hys
        have HSU2 := hidv hsu2
        clear hys hsu2
        go_wp2
        go_roundw
        case rel => exact ⟨k + 1, by omega, by go_num, HSU2, hbe⟩
        case measure => simp [intOf]; omega
    · have HNS : Hid (noneS xs s = true) := hidv (by
        obtain rfl : k = n := by omega
        unfold noneS
        rw [HN.out]
        exact hall.out)
      have HBE := hbe
      clear hall
      go_wp2
      go_loopw [6] (fun i wr => ∃ k : Nat, k ≤ m ∧ i = .int .i64 k ∧ Hid (Wd.allN k (fun t => !(hitB s 0 (ps.getD t pw0))) = true) ∧ Hid (Below w.heap.size w wr)) (fun i _ => m - (intOf i).toNat)
      case atStart => exact ⟨0, Nat.zero_le _, rfl, hidv rfl, HBE⟩
      case round =>
        obtain ⟨l, hl, rfl, hall3, hbe3⟩ := hrel
        obtain ⟨x0, x1, x2⟩ := HX.out _ hbe3.out
        by_cases hlt3 : l < m
        · have hlx : l < ps.length := by have := HM.out; omega
          obtain ⟨gq, oq, rfl, hgq, hceq⟩ := HQ.out (by have := HM.out; omega)
          obtain ⟨d1, d2, d3⟩ := hceq l hlx
          have c1 := (hbe3.out.cell (p := ⟨gq, _, none⟩) (by show gq < _; omega)).trans d1
          have c2 := (hbe3.out.cell (p := ⟨gq, _, none⟩) (by show gq < _; omega)).trans d2
          have c3 := (hbe3.out.cell (p := ⟨gq, _, none⟩) (by show gq < _; omega)).trans d3
          have hfl := HF.out ps[l] (List.getElem_mem _)
          have hsu3 := Wd.allN_succ l (fun t => !(hitB s 0 (ps.getD t pw0)))
          have hfa3 : (!(hitB s 0 ps[l])) = false → r = true := fun h => HPP.out (by unfold noneP; exact Wd.allN_false l hlx (by rw [noneP_at hlx]; exact h))
          rw [hall3.out, Bool.true_and, noneP_at hlx] at hsu3
          have hin := in_hit hfl s 0
          have hfz := fam_sizes hfl
          obtain ⟨p, hpk⟩ : ∃ p, ps[l] = p := ⟨_, rfl⟩
          rw [hpk] at c1 c2 c3 hfl hsu3 hfa3 hin hfz
          obtain ⟨x, y, z⟩ := p
          dsimp only at c1 c2 c3 hin hfz
          rw [Int.sub_zero] at hin
          have hbx1 := Bx.new wr 48 #[.string x, .string y, .int .i64 z]
          have hba := below_al hbe3.out (.cells #[.string x, .string y, .int .i64 z] 48)
          have hcallq := in_any wr.heap.size x y s z _ (hbx1.cell 0) (hbx1.cell 1) hfz.1 (by omega) hfz.2.2.1 hs
          rw [hin] at hcallq
          obtain ⟨qh, hqh⟩ : ∃ q, hitB s 0 (x, y, z) = q := ⟨_, rfl⟩
          rw [hqh] at hcallq hsu3 hfa3
          have HCQ := hidv hcallq
          have HSU3 := hidv hsu3
          have HFA3 := hidv hfa3
          have HBA := hidv hba
          clear hcallq hsu3 hfa3 hba hbx1 hin hqh hpk hfl d1 d2 d3 hceq
          go_wp2_with fail
          refine HCQ.out.mono ?_
          rintro e1 w4 ⟨rfl, hbq⟩
          have HB4 := hidv (below_on HBA.out hbq)
          clear hbq
          cases qh
          · go_wp2_with fail
            go_roundw
            case rel => exact ⟨l + 1, by omega, by go_num, HSU3, HB4⟩
            case measure => simp [intOf]; omega
          · go_wp2_with fail
            go_ret
            exact ⟨ret_bool (HFA3.out (by trivial)).symm, HB4.out⟩
        · obtain rfl : l = m := by omega
          have hnp : noneP ps (hitB s 0) = true := by unfold noneP; rw [HM.out]; exact hall3.out
          have hre : r = e := HEE.out HNS.out hnp
          go_wp2
          go_ret
          exact ⟨by first | rfl | exact ret_bool hre.symm, hbe3.out⟩

end Go.Proofs.Ythgbfjeemfcnlaa
