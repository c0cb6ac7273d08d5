/-
  ValidSolutions of the model: a contract.
-/
import Derived.Test.YthgbfjeemfcnlaaVsi
namespace Go.Proofs.Ythgbfjeemfcnlaa
open Go.RowKit Go
set_option linter.unusedVariables false

theorem in_hit {p : Pw} (h : famL p.1.data.toList p.2.1.data.toList p.2.2 = true) (s : ByteArray) (d : Int) : Wd.inL p.1.data.toList p.2.1.data.toList s.data.toList (p.2.2 - d) = hitB s d p := by
  obtain ⟨_, h2, h3, h4⟩ := famL_word h
  exact Wd.has_in _ _ _ _ h2 h3 h4

theorem valid_fams {xs : List ByteArray} {ps : List Pw} (h : famsB ps = false) : validB false xs ps = false := by
  unfold validB
  rw [if_neg (by decide), h, Bool.and_false, Bool.false_and]
theorem valid_word {xs : List ByteArray} {ps : List Pw} (k : Nat) (hk : k < xs.length) (h : okW xs k = false) : validB false xs ps = false := by
  unfold validB wordsB
  rw [if_neg (by decide), Wd.allN_false k hk h, Bool.false_and, Bool.false_and]
theorem valid_hit {xs : List ByteArray} {ps : List Pw} (k : Nat) (hk : k < xs.length) (h : noneP ps (hitB (xs.getD k ⟨#[]⟩) 1) = false) : validB false xs ps = false := by
  unfold validB
  rw [if_neg (by decide), Wd.allN_false (f := fun i => noneP ps (hitB (xs.getD i ⟨#[]⟩) 1)) k hk h, Bool.and_false]
def stepB (xs : List ByteArray) (ps : List Pw) (i : Nat) : Bool := okW xs i && noneP ps (hitB (xs.getD i ⟨#[]⟩) 1)
theorem valid_all {xs : List ByteArray} {ps : List Pw} (hf : famsB ps = true) (h : Wd.allN xs.length (stepB xs ps) = true) : validB false xs ps = true := by
  unfold validB wordsB
  have h' := Wd.allN_and xs.length (okW xs) (fun i => noneP ps (hitB (xs.getD i ⟨#[]⟩) 1))
  have h2 : Wd.allN xs.length (fun i => okW xs i && noneP ps (hitB (xs.getD i ⟨#[]⟩) 1)) = true := h
  rw [h2] at h'
  have h3 := h'.symm
  rw [Bool.and_eq_true] at h3
  rw [if_neg (by decide), hf, h3.1, h3.2]
  rfl

set_option maxRecDepth 100000 in
set_option maxHeartbeats 6400000 in
theorem specValid_any (b : Nat) (va vb : Value) (xs : List ByteArray) (ps : List Pw) (B : Nat) (w : World) (hb0 : w.cell? ⟨b, 0, none⟩ = some (.bool false)) (hb1 : w.cell? ⟨b, 1, none⟩ = some va) (hb2 : w.cell? ⟨b, 2, none⟩ = some vb)
    (ha : Row w B va (xs.map Value.string)) (hb : PRow w B vb ps) (hB : B ≤ w.heap.size) (hs : DescSz xs ps) (hx : xs.length ≤ 1048576) (hp : ps.length ≤ 1048576) :
    Calls Try.prog 17 #[.pointer (some ⟨b, 0, none⟩)] w fun e w' => e = .returned (.bool (validB false xs ps)) ∧ Below w.heap.size w w' := by
  obtain ⟨r, hr⟩ : ∃ r, validB false xs ps = r := ⟨_, rfl⟩
  have HFF : Hid (famsB ps = false → r = false) := hidv (fun h => by rw [← hr]; exact valid_fams h)
  have HWW : Hid (∀ k, k < xs.length → okW xs k = false → r = false) := hidv (fun k hk h => by rw [← hr]; exact valid_word k hk h)
  have HHH : Hid (∀ k, k < xs.length → noneP ps (hitB (xs.getD k ⟨#[]⟩) 1) = false → r = false) := hidv (fun k hk h => by rw [← hr]; exact valid_hit k hk h)
  have HAL : Hid (famsB ps = true → Wd.allN xs.length (stepB xs ps) = true → r = true) := hidv (fun h1 h2 => by rw [← hr]; exact valid_all h1 h2)
  rw [hr]
  clear hr
  obtain ⟨A, ca, rfl, hA⟩ := strRow_at ha
  obtain ⟨Q, cp, rfl, hQ⟩ := hb
  obtain ⟨n, hn⟩ : ∃ n, xs.length = n := ⟨_, rfl⟩
  obtain ⟨m, hm⟩ : ∃ m, ps.length = m := ⟨_, rfl⟩
  have HA := hidv hA
  have HQ := hidv hQ
  have HN := hidv hn
  have HM := hidv hm
  have HS := hidv hs
  rw [hn] at hb1 hx
  rw [hm] at hb2 hp
  have hbl : b < w.heap.size := World.block_lt_of_cell? _ _ hb0
  have HX := hidv (fun W (hW : Below w.heap.size w W) => (show W.cell? ⟨b, 0, none⟩ = some (.bool false) ∧ W.cell? ⟨b, 1, none⟩ = some (.slice A n ca) ∧ W.cell? ⟨b, 2, none⟩ = some (.slice Q m cp) from ⟨(hW.cell (p := ⟨b, 0, none⟩) hbl).trans hb0, (hW.cell (p := ⟨b, 1, none⟩) hbl).trans hb1, (hW.cell (p := ⟨b, 2, none⟩) hbl).trans hb2⟩)
  )
  clear ha hA hQ hn hm hs
  by_cases h40 : (40 : Int) < (m : Int)
  · have hf : famsB ps = false := by unfold famsB; rw [decide_eq_false (by have := HM.out; omega), Bool.false_and]
    obtain rfl : r = false := HFF.out hf
    clear hf
    go_enter Try.func17, Try.ntmps17
    go_wp2
    go_ret
    exact ⟨rfl, Below.refl _ _⟩
  go_enter Try.func17, Try.ntmps17
  go_wp2
  clear hb0 hb1 hb2
  go_loopw [3] (fun i wr => ∃ k : Nat, k ≤ m ∧ i = .int .i64 k ∧ Hid (Wd.allN k (okF ps) = true) ∧ Hid (Below w.heap.size w wr)) (fun i _ => m - (intOf i).toNat)
  case atStart => exact ⟨0, Nat.zero_le _, rfl, hidv rfl, hidv (Below.refl _ _)⟩
  case round =>
    obtain ⟨k, hk, rfl, hall, hbe⟩ := hrel
    obtain ⟨x0, x1, x2⟩ := HX.out wr hbe.out
    by_cases hlt : k < m
    · have hkx : k < ps.length := by have := HM.out; omega
      obtain ⟨g, o, rfl, hg, hce⟩ := HQ.out (by have := HM.out; omega)
      have hcell := fun W (hW : Below w.heap.size w W) (j : Nat) (hj : j < ps.length) => (show W.cell? ⟨g, o + j * 3, none⟩ = some (.string ps[j].1) ∧ W.cell? ⟨g, o + j * 3 + 1, none⟩ = some (.string ps[j].2.1) ∧ W.cell? ⟨g, o + j * 3 + 2, none⟩ = some (.int .i64 ps[j].2.2) from
        ⟨(hW.cell (p := ⟨g, _, none⟩) (by show g < _; omega)).trans (hce j hj).1, (hW.cell (p := ⟨g, _, none⟩) (by show g < _; omega)).trans (hce j hj).2.1, (hW.cell (p := ⟨g, _, none⟩) (by show g < _; omega)).trans (hce j hj).2.2⟩)
      have HCELL := hidv hcell
      obtain ⟨c1, c2, c3⟩ := hcell wr hbe.out k hkx
      have hsz := HS.out.2.2 ps[k] (List.getElem_mem _)
      have hsu := Wd.allN_succ k (okF ps)
      have hfa : okF ps k = false → r = false := fun h => HFF.out (by unfold famsB; rw [Wd.allN_false k hkx h, Bool.and_false])
      rw [hall.out, Bool.true_and] at hsu
      rw [okF_def ps k, noneP_at hkx] at hsu hfa
      obtain ⟨p, hpk⟩ : ∃ p, ps[k] = p := ⟨_, rfl⟩
      have HP := hidv hpk
      rw [hpk] at c1 c2 c3 hsz hsu hfa
      obtain ⟨x, y, z⟩ := p
      dsimp only at c1 c2 c3 hsz hsu hfa
      have hbx1 := Bx.new wr 48 #[.string x, .string y, .int .i64 z]
      have hba := below_al hbe.out (.cells #[.string x, .string y, .int .i64 z] 48)
      obtain ⟨W1, hW1⟩ : ∃ W1, wr.alloc (.cells #[.string x, .string y, .int .i64 z] 48) = W1 := ⟨_, rfl⟩
      have HW1 := hidv hW1
      rw [hW1] at hbx1 hba
      have hcall := fun j => specFam_any wr.heap.size x y z (W1.drewN j) (hbx1.cell 0) (hbx1.cell 1) (hbx1.cell 2) hsz.1 hsz.2
      obtain ⟨q, hq⟩ : ∃ q, famL x.data.toList y.data.toList z = q := ⟨_, rfl⟩
      rw [hq] at hcall hsu hfa
      have e0 : W1.cell? ⟨wr.heap.size, 0, none⟩ = some (.string x) := hbx1.cell 0
      have e1 : W1.cell? ⟨wr.heap.size, 1, none⟩ = some (.string y) := hbx1.cell 1
      have e2 : W1.cell? ⟨wr.heap.size, 2, none⟩ = some (.int .i64 z) := hbx1.cell 2
      have HC := hidv hcall
      have HSU := hidv hsu
      have HFA := hidv hfa
      have HBA := hidv hba
      have hsw := hbe.out.size
      clear hce hcall hsu hfa hq hpk hcell hba hbx1 hW1
      go_wp2_with fail
      rw [HW1.out]
      clear x0 x1 x2 c1 c2 c3
      obtain ⟨x0, x1, x2⟩ := HX.out W1 HBA.out
      cases q
      · go_quiet (first | (go_at_call 35; exact Calls.quiet_of (HC.out _)))
        go_wp2
        go_ret
        exact ⟨ret_bool (HFA.out (by rw [Bool.false_and])).symm, below_drewN HBA.out _⟩
      rcases Nat.eq_zero_or_pos k with h0 | h0
      · have hd : decide ((0 : Int) < (k : Int)) = false := decide_eq_false (by omega)
        have hd2 : decide (0 < k) = false := decide_eq_false (by omega)
        have h00 : 0 < ps.length := by omega
        have z1 := (HCELL.out W1 HBA.out 0 h00).1
        have HSU2 : Hid (Wd.allN (k + 1) (okF ps) = true) := hidv (by
          rw [HSU.out]
          subst h0
          rw [noneP_at hkx, HP.out]
          simp)
        subst h0
        rw [Nat.zero_mul, Nat.add_zero, HP.out] at z1
        have i3 : (0 : Int) < (m : Int) := by omega
        go_quiet (first | (go_at_call 35; exact Calls.quiet_of (HC.out _)))
        go_wp2
        go_roundw
        case rel => exact ⟨1, by omega, by go_num, HSU2, hidv (below_drewN HBA.out _)⟩
        case measure => simp [intOf]; omega
      · obtain ⟨j, rfl⟩ : ∃ j, k = j + 1 := ⟨k - 1, by omega⟩
        have hj : j < ps.length := by omega
        have h00 : 0 < ps.length := by omega
        have z1 := (HCELL.out W1 HBA.out 0 h00).1
        rw [Nat.zero_mul, Nat.add_zero] at z1
        have z2 := (HCELL.out W1 HBA.out j hj).2.1
        have hsu := HSU.out
        have hfa := HFA.out
        rw [noneP_at h00, decide_eq_false (show ¬ j + 1 = 0 by omega), Bool.false_or, Nat.add_sub_cancel, noneP_at hj, Bool.true_and] at hsu hfa
        have hsyy := (HS.out.2.2 ps[j] (List.getElem_mem _)).2
        obtain ⟨x0', hx0⟩ : ∃ x, ps[0].1 = x := ⟨_, rfl⟩
        obtain ⟨y1, hy1⟩ : ∃ x, ps[j].2.1 = x := ⟨_, rfl⟩
        rw [hx0] at z1 hsu hfa
        rw [hy1] at z2 hsu hfa hsyy
        have hd : decide ((0 : Int) < ((j + 1 : Nat) : Int)) = true := decide_eq_true (by omega)
        have i1 : (0 : Int) ≤ (j : Int) := by omega
        have i2 : (j : Int) < (m : Int) := by omega
        have i3 : (0 : Int) < (m : Int) := by omega
        have HSU2 := hidv hsu
        have HFA2 := hidv hfa
        clear hsu hfa HSU HFA hx0 hy1 h0
        unfold maxLen at hsyy hsz
        cases hxx : (x.toList == x0'.toList)
        · have hr0 : r = false := HFA2.out (by rw [hxx, Bool.false_and])
          go_quiet (first | (go_at_call 35; exact Calls.quiet_of (HC.out _)))
          go_wp2
          go_ret
          exact ⟨ret_bool hr0.symm, below_drewN HBA.out _⟩
        · by_cases hyy : y1.size < y.size
          · have hsu3 : Wd.allN (j + 1 + 1) (okF ps) = true := by rw [HSU2.out, hxx, decide_eq_true hyy]; rfl
            have HSU3 := hidv hsu3
            have hle : decide ((y.size : Int) ≤ (y1.size : Int)) = false := decide_eq_false (by omega)
            have hle2 : decide (y.size ≤ y1.size) = false := decide_eq_false (by omega)
            clear hsu3 hyy
            go_quiet (first | (go_at_call 35; exact Calls.quiet_of (HC.out _)))
            go_wp2
            go_roundw
            case rel => exact ⟨j + 1 + 1, by omega, by go_num, HSU3, hidv (below_drewN HBA.out _)⟩
            case measure => simp [intOf]; omega
          · have hr0 : r = false := HFA2.out (by rw [hxx, decide_eq_false hyy]; rfl)
            have hle : decide ((y.size : Int) ≤ (y1.size : Int)) = true := decide_eq_true (by omega)
            have hle2 : decide (y.size ≤ y1.size) = true := decide_eq_true (by omega)
            clear hyy
            go_quiet (first | (go_at_call 35; exact Calls.quiet_of (HC.out _)))
            go_wp2
            go_ret
            exact ⟨ret_bool hr0.symm, below_drewN HBA.out _⟩
    · have HF : Hid (famsB ps = true) := hidv (by
        obtain rfl : k = m := by omega
        unfold famsB
        rw [HM.out, hall.out, decide_eq_true (by omega)]
        rfl)
      have HBE := hbe
      go_wp2
      clear hall hbe
      have HBW := HBE
      go_loopw [5] (fun i wr => ∃ k : Nat, k ≤ n ∧ i = .int .i64 k ∧ Hid (Wd.allN k (stepB xs ps) = true) ∧ Hid (Below w.heap.size w wr)) (fun i _ => n - (intOf i).toNat)
      case atStart => exact ⟨0, Nat.zero_le _, rfl, hidv rfl, HBE⟩
      case round =>
        obtain ⟨i2, hi2, rfl, hall2, hbe2⟩ := hrel
        obtain ⟨x0, x1, x2⟩ := HX.out _ hbe2.out
        by_cases hlt2 : i2 < n
        · have hkx : i2 < xs.length := by have := HN.out; omega
          obtain ⟨g, o, rfl, hg, hce⟩ := HA.out (by have := HN.out; omega)
          have c1 := (hbe2.out.cell (p := ⟨g, _, none⟩) (by show g < _; omega)).trans (hce i2 hkx)
          have hsz := HS.out.1.2 xs[i2] (List.getElem_mem _)
          have hcall := fun W => specWord_any xs[i2] W hsz
          have hsu := Wd.allN_succ i2 (stepB xs ps)
          rw [hall2.out, Bool.true_and] at hsu
          have hww := HWW.out i2 hkx
          have hhh := HHH.out i2 hkx
          have hw60 : Wd.wordB xs[i2].data.toList = true → xs[i2].data.toList.length ≤ 60 := Wd.wordB_len
          rw [str_at hkx] at hhh
          unfold okW at hww
          rw [str_at hkx] at hww
          rw [show stepB xs ps i2 = ((Wd.wordB (xs.getD i2 ⟨#[]⟩).data.toList && (decide (i2 = 0) || soonB (xs.getD (i2 - 1) ⟨#[]⟩) (xs.getD i2 ⟨#[]⟩))) && noneP ps (hitB (xs.getD i2 ⟨#[]⟩) 1)) from rfl, str_at hkx] at hsu
          have i1 : (0 : Int) ≤ (i2 : Int) := by omega
          have i3 : (i2 : Int) < (n : Int) := by omega
          rcases Nat.eq_zero_or_pos i2 with h0 | h0
          · rw [decide_eq_true h0, Bool.true_or, Bool.and_true] at hsu hww
            subst h0
            rw [Nat.add_zero] at c1
            have hc0w := hce 0 hkx
            rw [Nat.add_zero] at hc0w
            obtain ⟨s, hs1⟩ : ∃ s, xs[0] = s := ⟨_, rfl⟩
            rw [hs1] at c1 hc0w hsz hcall hsu hww hhh hw60
            obtain ⟨q, hq⟩ : ∃ q, Wd.wordB s.data.toList = q := ⟨_, rfl⟩
            rw [hq] at hcall hsu hww hw60
            have HC := hidv hcall
            have HSO : Hid (∀ W : World, Calls Try.prog 36 #[.string s, .string s] W fun e w' => e = .returned (.bool (soonB s s)) ∧ W = w') := hidv (fun W => sooner_any s s W)
            have HSU := hidv hsu
            have HH1 := hidv hhh
            have HW1' := hidv hww
            clear hce hcall hsu hww hhh hq hs1
            cases q
            · go_wp2_with fail
              go_quiet (first | (go_at_call 29; exact Calls.quiet_of_same ((HC.out _).mono fun _ _ h => ⟨h.1, h.2.symm⟩)) | (go_at_call 36; exact Calls.quiet_of_same ((HSO.out _).mono fun _ _ h => ⟨h.1, h.2.symm⟩)))
              go_wp2
              go_ret
              exact ⟨ret_bool (HW1'.out (by trivial)).symm, below_drewN hbe2.out _⟩
            · have h60 : s.size ≤ 60 := by have := hw60 rfl; simpa using this
              have HCS : Hid (w.cell? ⟨g, o, none⟩ = some (.string s)) := hidv hc0w
              go_wp2_with fail
              go_quiet (first | (go_at_call 29; exact Calls.quiet_of_same ((HC.out _).mono fun _ _ h => ⟨h.1, h.2.symm⟩)) | (go_at_call 36; exact Calls.quiet_of_same ((HSO.out _).mono fun _ _ h => ⟨h.1, h.2.symm⟩)))
              go_wp2
              go_loopw [6] (fun i wq => ∃ l : Nat, l ≤ m ∧ i = .int .i64 l ∧ Hid (Wd.allN l (fun t => !(hitB s 1 (ps.getD t pw0))) = true) ∧ Hid (Below w.heap.size w wq)) (fun i _ => m - (intOf i).toNat)
              case atStart => exact ⟨0, Nat.zero_le _, rfl, hidv rfl, hidv (below_drewN hbe2.out _)⟩
              case round =>
                obtain ⟨l, hl, rfl, hall3, hbe3⟩ := hrel
                obtain ⟨x0, x1, x2⟩ := HX.out _ hbe3.out
                by_cases hlt3 : l < m
                · have hlx : l < ps.length := by have := HM.out; omega
                  obtain ⟨gq, oq, rfl, hgq, hceq⟩ := HQ.out (by have := HM.out; omega)
                  obtain ⟨d1, d2, d3⟩ := hceq l hlx
                  have c1 := (hbe3.out.cell (p := ⟨gq, _, none⟩) (by show gq < _; omega)).trans d1
                  have c2 := (hbe3.out.cell (p := ⟨gq, _, none⟩) (by show gq < _; omega)).trans d2
                  have c3 := (hbe3.out.cell (p := ⟨gq, _, none⟩) (by show gq < _; omega)).trans d3
                  have hfl := fams_each HF.out ps[l] (List.getElem_mem _)
                  have hsu3 := Wd.allN_succ l (fun t => !(hitB s 1 (ps.getD t pw0)))
                  have hfa3 : (!(hitB s 1 ps[l])) = false → r = false := fun h => HH1.out (by unfold noneP; exact Wd.allN_false l hlx (by rw [noneP_at hlx]; exact h))
                  rw [hall3.out, Bool.true_and, noneP_at hlx] at hsu3
                  have hin := in_hit hfl s 1
                  have hfz := fam_sizes hfl
                  obtain ⟨p, hpk⟩ : ∃ p, ps[l] = p := ⟨_, rfl⟩
                  rw [hpk] at c1 c2 c3 hfl hsu3 hfa3 hin hfz
                  obtain ⟨x, y, z⟩ := p
                  dsimp only at c1 c2 c3 hin hfz
                  have hbx1 := Bx.new wr 48 #[.string x, .string y, .int .i64 z]
                  have hba := below_al hbe3.out (.cells #[.string x, .string y, .int .i64 z] 48)
                  obtain ⟨W1, hW1⟩ : ∃ W1, wr.alloc (.cells #[.string x, .string y, .int .i64 z] 48) = W1 := ⟨_, rfl⟩
                  have HW1 := hidv hW1
                  rw [hW1] at hbx1 hba
                  have hcallq := fun W (hW : Below W1.heap.size W1 W) => in_any wr.heap.size x y s (z - 1) W ((hbx1.below hW).cell 0) ((hbx1.below hW).cell 1) hfz.1 (by omega) hfz.2.2.1 (by omega)
                  rw [hin] at hcallq
                  obtain ⟨qh, hqh⟩ : ∃ q, hitB s 1 (x, y, z) = q := ⟨_, rfl⟩
                  rw [hqh] at hcallq hsu3 hfa3
                  have hS3 := fun W (hW : Below W1.heap.size W1 W) => (show W.cell? ⟨b, 1, none⟩ = some (.slice (some ⟨g, o, none⟩) n ca) ∧ W.cell? ⟨g, o, none⟩ = some (.string s) ∧ W.cell? ⟨wr.heap.size, 2, none⟩ = some (.int .i64 z) ∧ Below W1.heap.size W1 W from
                    ⟨(HX.out W (below_on hba hW)).2.1, ((below_on hba hW).cell (p := ⟨g, _, none⟩) (by show g < _; omega)).trans HCS.out, (hbx1.below hW).cell 2, hW⟩)
                  have HS3 := hidv hS3
                  have HCQ := hidv hcallq
                  have HSU3 := hidv hsu3
                  have HFA3 := hidv hfa3
                  have HBA := hidv hba
                  have hz1 : IntKind.i64.wrap (z - 1) = z - 1 := IntWalk.i64_in _ (by omega)
                  clear hS3 hcallq hsu3 hfa3 hba hbx1 hW1 hin hqh hpk hfl d1 d2 d3 hceq
                  go_wp2_with fail
                  rw [HW1.out]
                  clear x0 x1 x2 c1 c2 c3
                  go_region_held3 (fun W => W.cell? ⟨b, 1, none⟩ = some (.slice (some ⟨g, o, none⟩) n ca) ∧ W.cell? ⟨g, o, none⟩ = some (.string s) ∧ W.cell? ⟨wr.heap.size, 2, none⟩ = some (.int .i64 z) ∧ Below W1.heap.size W1 W) (exact HS3.out _ (by repeat (first | with_reducible assumption | with_reducible exact Below.refl _ _ | with_reducible refine Below.drew ?_ | with_reducible refine below_al ?_ _))) (first | (go_at_call 37; refine (HCQ.out _ (by repeat (first | with_reducible assumption | with_reducible exact Below.refl _ _ | with_reducible refine Below.drew ?_ | with_reducible refine below_al ?_ _))).mono ?_; rintro e w4 ⟨rfl, hbq⟩; replace hbq := below_on (show Below W1.heap.size W1 _ from (by repeat (first | with_reducible assumption | with_reducible exact Below.refl _ _ | with_reducible refine Below.drew ?_ | with_reducible refine below_al ?_ _))) hbq))
                  have HB4 := hidv (below_on HBA.out hbq)
                  clear hbq
                  cases qh
                  · go_wp2
                    go_roundw
                    case rel => exact ⟨l + 1, by omega, by go_num, HSU3, HB4⟩
                    case measure => simp [intOf]; omega
                  · go_wp2
                    go_ret
                    exact ⟨ret_bool (HFA3.out (by trivial)).symm, HB4.out⟩
                · obtain rfl : l = m := by omega
                  have hnp : noneP ps (hitB s 1) = true := by unfold noneP; rw [HM.out]; exact hall3.out
                  have hst : Wd.allN (0 + 1) (stepB xs ps) = true := HSU.out.trans (by rw [hnp]; rfl)
                  have HST := hidv hst
                  clear hnp hst
                  go_wp2
                  go_roundw
                  case rel => exact ⟨1, by omega, by go_num, HST, hbe3⟩
                  case measure => simp [intOf]; omega
          · obtain ⟨j, rfl⟩ : ∃ j, i2 = j + 1 := ⟨i2 - 1, by omega⟩
            have hjx : j < xs.length := by omega
            have c2 := (hbe2.out.cell (p := ⟨g, _, none⟩) (by show g < _; omega)).trans (hce j hjx)
            have hc0w := hce (j + 1) hkx
            rw [decide_eq_false (show ¬ j + 1 = 0 by omega), Bool.false_or, Nat.add_sub_cancel, str_at hjx] at hsu hww
            have hd : decide ((0 : Int) < ((j + 1 : Nat) : Int)) = true := decide_eq_true (by omega)
            have i4 : (0 : Int) ≤ (j : Int) := by omega
            have i5 : (j : Int) < (n : Int) := by omega
            have i6 : (0 : Int) ≤ (j : Int) + 1 := by omega
            have i7 : (j : Int) + 1 < (n : Int) := by omega
            obtain ⟨s, hs1⟩ : ∃ s, xs[j + 1] = s := ⟨_, rfl⟩
            obtain ⟨s', hs2⟩ : ∃ s, xs[j] = s := ⟨_, rfl⟩
            rw [hs1] at c1 hc0w hsz hcall hsu hww hhh hw60
            rw [hs2] at c2 hsu hww
            obtain ⟨q, hq⟩ : ∃ q, Wd.wordB s.data.toList = q := ⟨_, rfl⟩
            rw [hq] at hcall hsu hww hw60
            have hso := fun W => sooner_any s' s W
            obtain ⟨so, hsoe⟩ : ∃ q, soonB s' s = q := ⟨_, rfl⟩
            rw [hsoe] at hso hsu hww
            have HC := hidv hcall
            have HSO := hidv hso
            have HSU := hidv hsu
            have HH1 := hidv hhh
            have HW1' := hidv hww
            have HCS : Hid (w.cell? ⟨g, o + (j + 1), none⟩ = some (.string s)) := hidv hc0w
            clear hce hcall hsu hww hhh hq hs1 hs2 hso hsoe hc0w
            cases q
            · go_wp2_with fail
              go_quiet (first | (go_at_call 29; exact Calls.quiet_of_same ((HC.out _).mono fun _ _ h => ⟨h.1, h.2.symm⟩)) | (go_at_call 36; exact Calls.quiet_of_same ((HSO.out _).mono fun _ _ h => ⟨h.1, h.2.symm⟩)))
              go_wp2
              go_ret
              exact ⟨ret_bool (HW1'.out (by rw [Bool.false_and])).symm, below_drewN hbe2.out _⟩
            · have h60 : s.size ≤ 60 := by have := hw60 rfl; simpa using this
              cases so
              · go_wp2_with fail
                go_quiet (first | (go_at_call 29; exact Calls.quiet_of_same ((HC.out _).mono fun _ _ h => ⟨h.1, h.2.symm⟩)) | (go_at_call 36; exact Calls.quiet_of_same ((HSO.out _).mono fun _ _ h => ⟨h.1, h.2.symm⟩)))
                go_wp2
                go_ret
                exact ⟨ret_bool (HW1'.out rfl).symm, below_drewN hbe2.out _⟩
              · go_wp2_with fail
                go_quiet (first | (go_at_call 29; exact Calls.quiet_of_same ((HC.out _).mono fun _ _ h => ⟨h.1, h.2.symm⟩)) | (go_at_call 36; exact Calls.quiet_of_same ((HSO.out _).mono fun _ _ h => ⟨h.1, h.2.symm⟩)))
                go_wp2
                go_loopw [6] (fun i wq => ∃ l : Nat, l ≤ m ∧ i = .int .i64 l ∧ Hid (Wd.allN l (fun t => !(hitB s 1 (ps.getD t pw0))) = true) ∧ Hid (Below w.heap.size w wq)) (fun i _ => m - (intOf i).toNat)
                case atStart => exact ⟨0, Nat.zero_le _, rfl, hidv rfl, hidv (below_drewN hbe2.out _)⟩
                case round =>
                  obtain ⟨l, hl, rfl, hall3, hbe3⟩ := hrel
                  obtain ⟨x0, x1, x2⟩ := HX.out _ hbe3.out
                  by_cases hlt3 : l < m
                  · have hlx : l < ps.length := by have := HM.out; omega
                    obtain ⟨gq, oq, rfl, hgq, hceq⟩ := HQ.out (by have := HM.out; omega)
                    obtain ⟨d1, d2, d3⟩ := hceq l hlx
                    have c1 := (hbe3.out.cell (p := ⟨gq, _, none⟩) (by show gq < _; omega)).trans d1
                    have c2 := (hbe3.out.cell (p := ⟨gq, _, none⟩) (by show gq < _; omega)).trans d2
                    have c3 := (hbe3.out.cell (p := ⟨gq, _, none⟩) (by show gq < _; omega)).trans d3
                    have hfl := fams_each HF.out ps[l] (List.getElem_mem _)
                    have hsu3 := Wd.allN_succ l (fun t => !(hitB s 1 (ps.getD t pw0)))
                    have hfa3 : (!(hitB s 1 ps[l])) = false → r = false := fun h => HH1.out (by unfold noneP; exact Wd.allN_false l hlx (by rw [noneP_at hlx]; exact h))
                    rw [hall3.out, Bool.true_and, noneP_at hlx] at hsu3
                    have hin := in_hit hfl s 1
                    have hfz := fam_sizes hfl
                    obtain ⟨p, hpk⟩ : ∃ p, ps[l] = p := ⟨_, rfl⟩
                    rw [hpk] at c1 c2 c3 hfl hsu3 hfa3 hin hfz
                    obtain ⟨x, y, z⟩ := p
                    dsimp only at c1 c2 c3 hin hfz
                    have hbx1 := Bx.new wr 48 #[.string x, .string y, .int .i64 z]
                    have hba := below_al hbe3.out (.cells #[.string x, .string y, .int .i64 z] 48)
                    obtain ⟨W1, hW1⟩ : ∃ W1, wr.alloc (.cells #[.string x, .string y, .int .i64 z] 48) = W1 := ⟨_, rfl⟩
                    have HW1 := hidv hW1
                    rw [hW1] at hbx1 hba
                    have hcallq := fun W (hW : Below W1.heap.size W1 W) => in_any wr.heap.size x y s (z - 1) W ((hbx1.below hW).cell 0) ((hbx1.below hW).cell 1) hfz.1 (by omega) hfz.2.2.1 (by omega)
                    rw [hin] at hcallq
                    obtain ⟨qh, hqh⟩ : ∃ q, hitB s 1 (x, y, z) = q := ⟨_, rfl⟩
                    rw [hqh] at hcallq hsu3 hfa3
                    have hS3 := fun W (hW : Below W1.heap.size W1 W) => (show W.cell? ⟨b, 1, none⟩ = some (.slice (some ⟨g, o, none⟩) n ca) ∧ W.cell? ⟨g, o + (j + 1), none⟩ = some (.string s) ∧ W.cell? ⟨wr.heap.size, 2, none⟩ = some (.int .i64 z) ∧ Below W1.heap.size W1 W from
                      ⟨(HX.out W (below_on hba hW)).2.1, ((below_on hba hW).cell (p := ⟨g, _, none⟩) (by show g < _; omega)).trans HCS.out, (hbx1.below hW).cell 2, hW⟩)
                    have HS3 := hidv hS3
                    have HCQ := hidv hcallq
                    have HSU3 := hidv hsu3
                    have HFA3 := hidv hfa3
                    have HBA := hidv hba
                    have hz1 : IntKind.i64.wrap (z - 1) = z - 1 := IntWalk.i64_in _ (by omega)
                    clear hS3 hcallq hsu3 hfa3 hba hbx1 hW1 hin hqh hpk hfl d1 d2 d3 hceq
                    go_wp2_with fail
                    rw [HW1.out]
                    clear x0 x1 x2 c1 c2 c3
                    go_region_held3 (fun W => W.cell? ⟨b, 1, none⟩ = some (.slice (some ⟨g, o, none⟩) n ca) ∧ W.cell? ⟨g, o + (j + 1), none⟩ = some (.string s) ∧ W.cell? ⟨wr.heap.size, 2, none⟩ = some (.int .i64 z) ∧ Below W1.heap.size W1 W) (exact HS3.out _ (by repeat (first | with_reducible assumption | with_reducible exact Below.refl _ _ | with_reducible refine Below.drew ?_ | with_reducible refine below_al ?_ _))) (first | (go_at_call 37; refine (HCQ.out _ (by repeat (first | with_reducible assumption | with_reducible exact Below.refl _ _ | with_reducible refine Below.drew ?_ | with_reducible refine below_al ?_ _))).mono ?_; rintro e w4 ⟨rfl, hbq⟩; replace hbq := below_on (show Below W1.heap.size W1 _ from (by repeat (first | with_reducible assumption | with_reducible exact Below.refl _ _ | with_reducible refine Below.drew ?_ | with_reducible refine below_al ?_ _))) hbq))
                    have HB4 := hidv (below_on HBA.out hbq)
                    clear hbq
                    cases qh
                    · go_wp2
                      go_roundw
                      case rel => exact ⟨l + 1, by omega, by go_num, HSU3, HB4⟩
                      case measure => simp [intOf]; omega
                    · go_wp2
                      go_ret
                      exact ⟨ret_bool (HFA3.out (by trivial)).symm, HB4.out⟩
                  · obtain rfl : l = m := by omega
                    have hnp : noneP ps (hitB s 1) = true := by unfold noneP; rw [HM.out]; exact hall3.out
                    have hst : Wd.allN (j + 1 + 1) (stepB xs ps) = true := HSU.out.trans (by rw [hnp]; rfl)
                    have HST := hidv hst
                    clear hnp hst
                    go_wp2
                    go_roundw
                    case rel => exact ⟨(j + 1 + 1), by omega, by go_num, HST, hbe3⟩
                    case measure => simp [intOf]; omega
        · obtain rfl : i2 = n := by omega
          have hr1 : r = true := HAL.out HF.out (by rw [HN.out]; exact hall2.out)
          go_wp2
          go_ret
          exact ⟨ret_bool hr1.symm, hbe2.out⟩

end Go.Proofs.Ythgbfjeemfcnlaa
