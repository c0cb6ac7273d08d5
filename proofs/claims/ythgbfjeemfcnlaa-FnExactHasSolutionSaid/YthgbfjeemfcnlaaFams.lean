/-
  Whether powers may be the families of one description: the program's areFamilies: a contract.
-/
import Derived.Test.YthgbfjeemfcnlaaFamI
import Derived.Test.YthgbfjeemfcnlaaAny
namespace Go.Proofs.Ythgbfjeemfcnlaa
open Go.RowKit Go
set_option linter.unusedVariables false

def okF (ps : List Pw) (i : Nat) : Bool :=
  famL (ps.getD i pw0).1.data.toList (ps.getD i pw0).2.1.data.toList (ps.getD i pw0).2.2 &&
    (((ps.getD i pw0).1.toList == (ps.getD 0 pw0).1.toList) && (decide (i = 0) || decide ((ps.getD (i - 1) pw0).2.1.size < (ps.getD i pw0).2.1.size)))
theorem okF_def (ps : List Pw) (i : Nat) : okF ps i = (famL (ps.getD i pw0).1.data.toList (ps.getD i pw0).2.1.data.toList (ps.getD i pw0).2.2 &&
    (((ps.getD i pw0).1.toList == (ps.getD 0 pw0).1.toList) && (decide (i = 0) || decide ((ps.getD (i - 1) pw0).2.1.size < (ps.getD i pw0).2.1.size)))) := rfl
def famsB (ps : List Pw) : Bool := decide (ps.length ≤ 40) && Wd.allN ps.length (okF ps)

set_option maxRecDepth 100000 in
set_option maxHeartbeats 1600000 in
theorem areFams_any (v : Value) (ps : List Pw) (B : Nat) (w : World) (hv : PRow w B v ps) (hB : B ≤ w.heap.size) (hx : ps.length ≤ 1048576) (hs : ∀ e ∈ ps, e.1.size ≤ maxLen ∧ e.2.1.size ≤ maxLen) :
    Calls Try.prog 21 #[v] w fun e w' => e = .returned (.bool (famsB ps)) ∧ Below w.heap.size w w' := by
  obtain ⟨A, c, rfl, hA⟩ := hv
  obtain ⟨n, hn⟩ : ∃ n, ps.length = n := ⟨_, rfl⟩
  obtain ⟨r, hr⟩ : ∃ r, famsB ps = r := ⟨_, rfl⟩
  have HR : Hid ((decide (n ≤ 40) && Wd.allN n (okF ps)) = r) := hidv (by rw [← hn, ← hr]; rfl)
  rw [hr]
  have HA := hidv hA
  rw [hn] at hx ⊢
  have HN := hidv hn
  have HS := hidv hs
  clear hn hr hA hs
  by_cases h40 : (40 : Int) < (n : Int)
  · obtain rfl : r = false := by rw [← HR.out, decide_eq_false (by omega), Bool.false_and]
    go_enter Try.func21, Try.ntmps21
    go_wp2
    go_ret
    exact ⟨rfl, Below.refl _ _⟩
  have HR2 : Hid (Wd.allN n (okF ps) = r) := hidv (by rw [← HR.out, decide_eq_true (by omega), Bool.true_and])
  clear HR
  go_enter Try.func21, Try.ntmps21
  go_wp2
  go_loopw [10] (fun i wr => ∃ k : Nat, k ≤ n ∧ i = .int .i64 k ∧ Hid (Wd.allN k (okF ps) = true) ∧ Hid (Below w.heap.size w wr)) (fun i _ => n - (intOf i).toNat)
  case atStart => exact ⟨0, Nat.zero_le _, rfl, hidv rfl, hidv (Below.refl _ _)⟩
  case round =>
    obtain ⟨k, hk, rfl, hall, hbe⟩ := hrel
    by_cases hlt : k < n
    · have hkx : k < ps.length := by have := HN.out; omega
      obtain ⟨g, o, rfl, hg, hce⟩ := HA.out (by have := HN.out; omega)
      have hcell := fun W (hW : Below w.heap.size w W) (j : Nat) (hj : j < ps.length) => (show W.cell? ⟨g, o + j * 3, none⟩ = some (.string ps[j].1) ∧ W.cell? ⟨g, o + j * 3 + 1, none⟩ = some (.string ps[j].2.1) ∧ W.cell? ⟨g, o + j * 3 + 2, none⟩ = some (.int .i64 ps[j].2.2) from
        ⟨(hW.cell (p := ⟨g, _, none⟩) (by show g < _; omega)).trans (hce j hj).1, (hW.cell (p := ⟨g, _, none⟩) (by show g < _; omega)).trans (hce j hj).2.1, (hW.cell (p := ⟨g, _, none⟩) (by show g < _; omega)).trans (hce j hj).2.2⟩)
      have HCELL := hidv hcell
      obtain ⟨c1, c2, c3⟩ := hcell wr hbe.out k hkx
      have hsz := HS.out ps[k] (List.getElem_mem _)
      have hsu := Wd.allN_succ k (okF ps)
      have hfa := Wd.allN_false (f := okF ps) k hlt
      rw [hall.out, Bool.true_and] at hsu
      rw [HR2.out] at hfa
      rw [okF_def ps k, noneP_at hkx] at hsu hfa
      obtain ⟨p, hp⟩ : ∃ p, ps[k] = p := ⟨_, rfl⟩
      have HP := hidv hp
      rw [hp] at c1 c2 c3 hsz hsu hfa
      obtain ⟨x, y, z⟩ := p
      dsimp only at c1 c2 c3 hsz hsu hfa
      have hcall := fun W => implFam_any x y z W hsz.1 hsz.2
      obtain ⟨q, hq⟩ : ∃ q, famL x.data.toList y.data.toList z = q := ⟨_, rfl⟩
      rw [hq] at hcall hsu hfa
      have HC := hidv hcall
      have HSU := hidv hsu
      have HFA := hidv hfa
      have hsw := hbe.out.size
      clear hce hcall hsu hfa hq hp hcell
      have hbx0 : Bx (wr.alloc (.cells #[.string x, .string y, .int .i64 z] 48)) wr.heap.size 48 #[.string x, .string y, .int .i64 z] := Bx.new _ _ _
      have HBX := hidv hbx0
      clear hbx0
      go_wp2_with fail
      refine (HC.out _).mono ?_
      rintro e w2 ⟨rfl, hb2⟩
      have hx2 := HBX.out.below hb2
      have hb3 := below_on (below_al hbe.out (.cells #[.string x, .string y, .int .i64 z] 48)) hb2
      have HB2 := hidv hb3
      obtain ⟨e0, e1, e2⟩ : w2.cell? ⟨wr.heap.size, 0, none⟩ = some (.string x) ∧ w2.cell? ⟨wr.heap.size, 1, none⟩ = some (.string y) ∧ w2.cell? ⟨wr.heap.size, 2, none⟩ = some (.int .i64 z) := ⟨hx2.cell 0, hx2.cell 1, hx2.cell 2⟩
      clear hb2 hb3 hx2 c1 c2 c3
      cases q
      · go_wp2_with fail
        go_ret
        exact ⟨ret_bool (HFA.out (by rw [Bool.false_and])).symm, HB2.out⟩
      rcases Nat.eq_zero_or_pos k with h0 | h0
      · have hd : decide ((0 : Int) < (k : Int)) = false := decide_eq_false (by omega)
        have hd2 : decide (0 < k) = false := decide_eq_false (by omega)
        have hsu2 : Wd.allN (k + 1) (okF ps) = true := by
          rw [HSU.out]
          subst h0
          rw [noneP_at hkx, HP.out]
          simp
        have HSU2 := hidv hsu2
        clear hsu2 h0
        go_wp2_with fail
        go_quiet (fail)
        go_wp2
        go_roundw
        case rel => exact ⟨k + 1, by omega, by go_num, HSU2, hidv (below_drewN HB2.out _)⟩
        case measure => simp [intOf]; omega
      · obtain ⟨j, rfl⟩ : ∃ j, k = j + 1 := ⟨k - 1, by omega⟩
        have hj : j < ps.length := by omega
        have h00 : 0 < ps.length := by omega
        have z1 := (HCELL.out w2 HB2.out 0 h00).1
        rw [Nat.zero_mul, Nat.add_zero] at z1
        have z2 := (HCELL.out w2 HB2.out j hj).2.1
        have hsu := HSU.out
        have hfa := HFA.out
        rw [noneP_at h00, decide_eq_false (show ¬ j + 1 = 0 by omega), Bool.false_or, Nat.add_sub_cancel, noneP_at hj, Bool.true_and] at hsu hfa
        have hsyy := (HS.out ps[j] (List.getElem_mem _)).2
        obtain ⟨x0, hx0⟩ : ∃ x, ps[0].1 = x := ⟨_, rfl⟩
        obtain ⟨y1, hy1⟩ : ∃ x, ps[j].2.1 = x := ⟨_, rfl⟩
        rw [hx0] at z1 hsu hfa
        rw [hy1] at z2 hsu hfa hsyy
        have hd : decide ((0 : Int) < ((j + 1 : Nat) : Int)) = true := decide_eq_true (by omega)
        have i1 : (0 : Int) ≤ (j : Int) := by omega
        have i2 : (j : Int) < (n : Int) := by omega
        have i3 : (0 : Int) < (n : Int) := by omega
        have HSU2 := hidv hsu
        have HFA2 := hidv hfa
        clear hsu hfa HSU HFA hx0 hy1 h0
        unfold maxLen at hsyy hsz
        cases hxx : (x.toList == x0.toList)
        · have hr0 : r = false := HFA2.out (by rw [hxx, Bool.false_and])
          go_wp2_with fail
          go_quiet (fail)
          go_wp2
          go_ret
          exact ⟨ret_bool hr0.symm, below_drewN HB2.out _⟩
        · by_cases hyy : y1.size < y.size
          · have hsu3 : Wd.allN (j + 1 + 1) (okF ps) = true := by rw [HSU2.out, hxx, decide_eq_true hyy]; rfl
            have HSU3 := hidv hsu3
            have hle : decide ((y.size : Int) ≤ (y1.size : Int)) = false := decide_eq_false (by omega)
            have hle2 : decide (y.size ≤ y1.size) = false := decide_eq_false (by omega)
            clear hsu3 hyy
            go_wp2_with fail
            go_quiet (fail)
            go_wp2
            go_roundw
            case rel => exact ⟨j + 1 + 1, by omega, by go_num, HSU3, hidv (below_drewN HB2.out _)⟩
            case measure => simp [intOf]; omega
          · have hr0 : r = false := HFA2.out (by rw [hxx, decide_eq_false hyy]; rfl)
            have hle : decide ((y.size : Int) ≤ (y1.size : Int)) = true := decide_eq_true (by omega)
            have hle2 : decide (y.size ≤ y1.size) = true := decide_eq_true (by omega)
            clear hyy
            go_wp2_with fail
            go_quiet (fail)
            go_wp2
            go_ret
            exact ⟨ret_bool hr0.symm, below_drewN HB2.out _⟩
    · obtain rfl : k = n := by omega
      go_wp2
      go_ret
      exact ⟨ret_bool (hall.out.symm.trans HR2.out), hbe.out⟩

end Go.Proofs.Ythgbfjeemfcnlaa
