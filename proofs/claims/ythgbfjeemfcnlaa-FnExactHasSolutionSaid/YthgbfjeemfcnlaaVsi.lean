/-
  ValidSolutions of the program: a contract.
-/
import Derived.Test.YthgbfjeemfcnlaaFams
import Derived.Test.YthgbfjeemfcnlaaWdO
import Derived.Test.YthgbfjeemfcnlaaDesc
namespace Go.Proofs.Ythgbfjeemfcnlaa
open Go.RowKit Go
set_option linter.unusedVariables false

theorem famL_from {r t : List UInt8} {f : Int} (h : famL r t f = true) : 0 ≤ f ∧ f ≤ 60 := by
  unfold famL at h
  simp only [Bool.and_eq_true, decide_eq_true_eq] at h
  obtain ⟨_, _, _, _, _, h6, h7⟩ := h
  exact ⟨h6, h7⟩
theorem fams_each {ps : List Pw} (h : famsB ps = true) : ∀ p ∈ ps, famL p.1.data.toList p.2.1.data.toList p.2.2 = true := by
  intro p hp
  obtain ⟨i, hi, rfl⟩ := List.getElem_of_mem hp
  unfold famsB at h
  rw [Bool.and_eq_true] at h
  have := Wd.allN_true h.2 i hi
  rw [okF_def, noneP_at hi, Bool.and_eq_true] at this
  exact this.1
theorem fam_sizes {p : Pw} (h : famL p.1.data.toList p.2.1.data.toList p.2.2 = true) : 0 < p.1.size ∧ p.1.size ≤ 60 ∧ p.2.1.size < p.1.size ∧ 0 ≤ p.2.2 ∧ p.2.2 ≤ 60 := by
  obtain ⟨h1, h2, h3, _⟩ := famL_word h
  have h4 := Wd.wordB_len h1
  have h5 := famL_from h
  have e1 : p.1.data.toList.length = p.1.size := by simp
  have e2 : p.2.1.data.toList.length = p.2.1.size := by simp
  omega

def hitB (s : ByteArray) (d : Int) (p : Pw) : Bool := Wd.hasL p.1.data.toList p.2.1.data.toList s.data.toList (p.2.2 - d)

set_option maxHeartbeats 400000 in
theorem closV_any (p : Pw) (s : ByteArray) (b : Nat) (w : World) (c0 : w.cell? ⟨b, 0, none⟩ = some (.string s)) (hp : famL p.1.data.toList p.2.1.data.toList p.2.2 = true) (hs : s.size ≤ 1000) :
    Calls Try.prog 23 #[pwV p, .pointer (some ⟨b, 0, none⟩)] w fun e w' => e = .returned (.bool (hitB s 1 p)) ∧ Below w.heap.size w w' := by
  obtain ⟨h1, h2, h3, h4, h5⟩ := fam_sizes hp
  unfold hitB pwV
  obtain ⟨r, t, f⟩ := p
  dsimp only at h1 h2 h3 h4 h5 ⊢
  have C1 := hidv (fun W => has_any r t s f (f - 1) W h1 (by omega) hs (by unfold maxLen; omega))
  obtain ⟨q, hq⟩ : ∃ q, Wd.hasL r.data.toList t.data.toList s.data.toList (f - 1) = q := ⟨_, rfl⟩
  rw [hq] at C1 ⊢
  have hlt : b < w.heap.size := World.block_lt_of_cell? _ _ c0
  clear hq hp
  go_enter Try.func23, Try.ntmps23
  go_wp2_with fail
  refine (C1.out _).mono ?_
  rintro e w1 ⟨rfl, hb1⟩
  go_wp2_with fail
  go_ret
  exact ⟨rfl, below_on (below_al (Below.refl _ _) _) hb1⟩

def validB (e : Bool) (xs : List ByteArray) (ps : List Pw) : Bool :=
  if e then decide (xs.length = 0) && decide (ps.length = 0) else (wordsB xs && famsB ps) && Wd.allN xs.length fun i => noneP ps (hitB (xs.getD i ⟨#[]⟩) 1)

theorem words_each {xs : List ByteArray} (h : wordsB xs = true) (i : Nat) (hi : i < xs.length) : Wd.wordB xs[i].data.toList = true := by
  have := Wd.allN_true h i hi
  unfold okW at this
  rw [str_at hi, Bool.and_eq_true] at this
  exact this.1

set_option maxRecDepth 100000 in
set_option maxHeartbeats 1600000 in
theorem implValid_any (v : Value) (e : Bool) (xs : List ByteArray) (ps : List Pw) (B : Nat) (w : World) (hv : Desc w B v e xs ps) (hB : B ≤ w.heap.size) (hs : DescSz xs ps) (hx : xs.length ≤ 1048576) (hp : ps.length ≤ 1048576) :
    Calls Try.prog 9 #[v] w fun e1 w' => e1 = .returned (.bool (validB e xs ps)) ∧ Below w.heap.size w w' := by
  obtain ⟨va, vb, rfl, ha, hb⟩ := hv
  obtain ⟨A, ca, rfl, hA⟩ := strRow_at ha
  obtain ⟨P, cp, hvb, hP⟩ := id hb
  subst hvb
  obtain ⟨n, hn⟩ : ∃ n, xs.length = n := ⟨_, rfl⟩
  have HN := hidv hn
  have HA := hidv hA
  rw [hn] at ha hx ⊢
  have HRA := hidv ha
  have HRB := hidv hb
  have HS := hidv hs
  have hbx0 : Below w.heap.size w (w.alloc (.cells #[.bool e, .slice A n ca, .slice P ps.length cp] 30)) := below_al (Below.refl _ _) _
  have hx0 := Bx.new w 30 #[.bool e, .slice A n ca, .slice P ps.length cp]
  have HBX := hidv hbx0
  have HX := hidv hx0
  clear ha hb hA hP hs hbx0 hx0
  unfold validB
  rw [hn]
  cases e
  · rw [if_neg (by decide)]
    have C1 := hidv (fun W (hW : Below w.heap.size w W) => inOrder_any _ xs B W (HRA.out.below (hW.mono hB)) (Nat.le_trans hB hW.size) (by have := HN.out; omega) HS.out.1.2)
    have C2 := hidv (fun W (hW : Below w.heap.size w W) => areFams_any _ ps B W (HRB.out.below (hW.mono hB)) (Nat.le_trans hB hW.size) hp HS.out.2.2)
    obtain ⟨q1, hq1⟩ : ∃ q, wordsB xs = q := ⟨_, rfl⟩
    obtain ⟨q2, hq2⟩ : ∃ q, famsB ps = q := ⟨_, rfl⟩
    rw [hq1] at C1
    rw [hq2] at C2
    obtain ⟨r, hr⟩ : ∃ r, Wd.allN n (fun i => noneP ps (hitB (xs.getD i ⟨#[]⟩) 1)) = r := ⟨_, rfl⟩
    have HR := hidv hr
    rw [hq1, hq2, hr]
    have HQ1 := hidv hq1
    have HQ2 := hidv hq2
    clear hq1 hq2 hr hn
    go_enter Try.func9, Try.ntmps9
    go_wp2_with fail
    refine (C1.out _ HBX.out).mono ?_
    rintro e1 w1 ⟨rfl, hb1⟩
    have hx1 := HX.out.below hb1
    obtain ⟨x0, x1, x2⟩ := hx1.three
    have HB1 := hidv (below_on HBX.out hb1)
    have HX1 := hidv hx1
    clear hb1 hx1
    cases q1
    · go_wp2_with fail
      go_ret
      exact ⟨rfl, HB1.out⟩
    go_wp2_with fail
    refine (C2.out _ HB1.out).mono ?_
    rintro e1 w2 ⟨rfl, hb2⟩
    clear x0 x1 x2
    have hx2 := HX1.out.below hb2
    obtain ⟨x0, x1, x2⟩ := hx2.three
    have HB2 := hidv (below_on HB1.out hb2)
    have HX2 := hidv hx2
    clear hb2 hx2
    cases q2
    · go_wp2_with fail
      go_ret
      exact ⟨rfl, HB2.out⟩
    have HE := hidv (fams_each HQ2.out)
    have HW := hidv (words_each HQ1.out)
    have hs2 := HB2.out.size
    go_wp2_with fail
    go_loopw [30] (fun i wr => ∃ k : Nat, k ≤ n ∧ i = .int .i64 k ∧ Hid (Wd.allN k (fun i => noneP ps (hitB (xs.getD i ⟨#[]⟩) 1)) = true) ∧ Hid (Below w2.heap.size w2 wr)) (fun i _ => n - (intOf i).toNat)
    case atStart => exact ⟨0, Nat.zero_le _, rfl, hidv rfl, hidv (Below.refl _ _)⟩
    case round =>
      obtain ⟨k, hk, rfl, hall, hbe⟩ := hrel
      by_cases hlt : k < n
      · have hkx : k < xs.length := by have := HN.out; omega
        have hbw := below_on HB2.out hbe.out
        obtain ⟨g, o, rfl, hg, hce⟩ := HA.out (by omega)
        have c1 := (hbw.cell (p := ⟨g, _, none⟩) (by show g < _; omega)).trans (hce k hkx)
        have hx3 := HX2.out.below hbe.out
        obtain ⟨y0, y1, y2⟩ := hx3.three
        have hlt3 := hx3.lt
        have h60 := Wd.wordB_len (HW.out k hkx)
        have hsu := Wd.allN_succ k (fun i => noneP ps (hitB (xs.getD i ⟨#[]⟩) 1))
        have hfa := Wd.allN_false (f := fun i => noneP ps (hitB (xs.getD i ⟨#[]⟩) 1)) k hlt
        rw [hall.out, Bool.true_and, str_at hkx] at hsu
        rw [HR.out, str_at hkx] at hfa
        obtain ⟨s, hs1⟩ : ∃ s, xs[k] = s := ⟨_, rfl⟩
        rw [hs1] at c1 h60 hsu hfa
        rw [show s.data.toList.length = s.size by simp] at h60
        have hbn := Bx.new wr 9 #[.string s]
        have hba : Below w.heap.size w (wr.alloc (.cells #[.string s] 9)) := below_al hbw _
        have hcon := containsPV_any _ ps wr.heap.size B (hitB s 1) (wr.alloc (.cells #[.string s] 9)) (HRB.out.below (hba.mono hB)) (Nat.le_trans hB hba.size) hp
          (fun p W hp hW => closV_any p s wr.heap.size W ((hbn.below hW).cell 0) (HE.out p hp) (by omega))
        obtain ⟨q, hq⟩ : ∃ q, noneP ps (hitB s 1) = q := ⟨_, rfl⟩
        rw [hq] at hcon hsu hfa
        have HC := hidv hcon
        have HSU := hidv hsu
        have HFA := hidv hfa
        have HBA := hidv (below_al hbe.out (.cells #[.string s] 9))
        clear hcon hsu hfa hba hbn hx3 hq hs1 hce hbw
        go_wp2_with fail
        refine HC.out.mono ?_
        rintro e1 w3 ⟨rfl, hb3⟩
        have HB3 := hidv (below_on HBA.out hb3)
        clear hb3
        cases q
        · have hr0 : r = false := HFA.out (by trivial)
          go_wp2_with fail
          go_ret
          exact ⟨ret_bool (by rw [hr0]; rfl), below_on HB2.out HB3.out⟩
        · go_wp2_with fail
          go_roundw
          case rel => exact ⟨k + 1, by omega, by go_num, HSU, HB3⟩
          case measure => simp [intOf]; omega
      · obtain rfl : k = n := by omega
        go_wp2
        go_ret
        exact ⟨ret_bool (by rw [← HR.out, hall.out]; rfl), below_on HB2.out hbe.out⟩
  · rw [if_pos rfl]
    obtain ⟨x0, x1, x2⟩ := HX.out.three
    clear hn
    by_cases h1 : n = 0
    · by_cases h2 : ps.length = 0
      · have d1 : ((n : Int) == 0) = true := by rw [beq_iff_eq]; omega
        have d2 : ((ps.length : Int) == 0) = true := by rw [beq_iff_eq]; omega
        rw [decide_eq_true h1, decide_eq_true h2]
        clear h1 h2
        go_enter Try.func9, Try.ntmps9
        go_wp2_with fail
        go_ret
        exact ⟨rfl, HBX.out⟩
      · have d1 : ((n : Int) == 0) = true := by rw [beq_iff_eq]; omega
        have d2 : ((ps.length : Int) == 0) = false := by rw [beq_eq_false_iff_ne]; omega
        rw [decide_eq_true h1, decide_eq_false h2]
        clear h1 h2
        go_enter Try.func9, Try.ntmps9
        go_wp2_with fail
        go_ret
        exact ⟨rfl, HBX.out⟩
    · have d1 : ((n : Int) == 0) = false := by rw [beq_eq_false_iff_ne]; omega
      rw [decide_eq_false h1, Bool.false_and]
      clear h1
      go_enter Try.func9, Try.ntmps9
      go_wp2_with fail
      go_ret
      exact ⟨rfl, HBX.out⟩

end Go.Proofs.Ythgbfjeemfcnlaa
