/-
  HasSolution, of the program and of the model: contracts.
-/
import Derived.Test.YthgbfjeemfcnlaaHs1
namespace Go.Proofs.Ythgbfjeemfcnlaa
open Go.RowKit Go
set_option linter.unusedVariables false

theorem valid_hits {xs : List ByteArray} {ps : List Pw} (e : Bool) (h : validB e xs ps = true) : ∀ p ∈ ps, famL p.1.data.toList p.2.1.data.toList p.2.2 = true := by
  cases e
  · unfold validB at h
    rw [if_neg (by decide), Bool.and_eq_true, Bool.and_eq_true] at h
    exact fams_each h.1.2
  · unfold validB at h
    rw [if_pos rfl, Bool.and_eq_true, decide_eq_true_eq, decide_eq_true_eq] at h
    intro p hp
    rw [List.length_eq_zero_iff.1 h.2] at hp
    cases hp

/-- What HasSolution answers, and with which code. -/
def hasC (e : Bool) (xs : List ByteArray) (ps : List Pw) (s : ByteArray) : Bool × Int := if validB e xs ps && Wd.wordB s.data.toList then (hasV e xs ps s, 0) else (false, 1)

set_option maxRecDepth 100000 in
set_option maxHeartbeats 1600000 in
theorem specHasS_any (v : Value) (e : Bool) (xs : List ByteArray) (ps : List Pw) (s : ByteArray) (B : Nat) (w : World) (hv : Desc w B v e xs ps) (hB : B ≤ w.heap.size) (hs : DescSz xs ps) (hx : xs.length ≤ 1048576) (hp : ps.length ≤ 1048576) (hz : s.size ≤ maxLen) (d : Bool) (c : Int) (hd : hasC e xs ps s = (d, c)) :
    Calls Try.prog 13 #[v, .string s] w fun e1 w' => e1 = .returned (.tuple #[.bool d, .int .i64 c]) ∧ Below w.heap.size w w' := by
  obtain ⟨va, vb, rfl, ha, hb⟩ := hv
  have hbx0 : Below w.heap.size w (w.alloc (.cells #[.bool e, va, vb] 30)) := below_al (Below.refl _ _) _
  have hx0 := Bx.new w 30 #[.bool e, va, vb]
  have hV := valid_hits (xs := xs) (ps := ps) e
  have HX := hidv hx0
  have C1 := hidv (specOk_any w.heap.size e va vb xs ps B _ (hx0.cell 0) (hx0.cell 1) (hx0.cell 2) (ha.below (hbx0.mono hB)) (hb.below (hbx0.mono hB)) (Nat.le_trans hB hbx0.size) hs hx hp)
  have C3 := fun (h : validB e xs ps = true) (h2 : s.size ≤ 1000) W (hW : Below (w.heap.size + 1) (w.alloc (.cells #[.bool e, va, vb] 30)) W) =>
    specHas_any w.heap.size e va vb xs ps s B W ((hx0.belowB hW (by omega)).cell 0) ((hx0.belowB hW (by omega)).cell 1) ((hx0.belowB hW (by omega)).cell 2)
      ((ha.below (hbx0.mono hB)).below (hW.mono (by omega))) ((hb.below (hbx0.mono hB)).below (hW.mono (by omega))) (by have := hW.size; have := hbx0.size; omega) hx hp (hV h) h2
  have c2 := fun W => specWord_any s W hz
  have h60 := fun h => Wd.wordB_len (l := s.data.toList) h
  unfold hasC at hd
  obtain ⟨r, hr⟩ : ∃ r, validB e xs ps = r := ⟨_, rfl⟩
  obtain ⟨q, hq⟩ : ∃ r, Wd.wordB s.data.toList = r := ⟨_, rfl⟩
  rw [hr] at C1 hd C3
  rw [hq] at c2 hd h60
  have HBX := hidv hbx0
  have C2 := hidv c2
  have HC3 := hidv C3
  have HD := hidv hd
  clear ha hb hs hx0 hbx0 hr hq c2 C3 hd hV
  cases r
  · obtain ⟨rfl, rfl⟩ : false = d ∧ (1 : Int) = c := by have := HD.out; simpa using this
    go_enter Try.func13, Try.ntmps13
    go_wp2_with fail
    refine C1.out.mono ?_
    rintro e1 w1 ⟨rfl, hb1⟩
    go_wp2_with fail
    go_ret2
    exact ⟨rfl, below_on HBX.out hb1⟩
  cases q
  · obtain ⟨rfl, rfl⟩ : false = d ∧ (1 : Int) = c := by have := HD.out; simpa using this
    go_enter Try.func13, Try.ntmps13
    go_wp2_with fail
    refine C1.out.mono ?_
    rintro e1 w1 ⟨rfl, hb1⟩
    go_wp2_with (go_at_call 29; refine (C2.out _).mono ?_; rintro e w' ⟨rfl, rfl⟩)
    go_ret2
    exact ⟨rfl, below_on HBX.out hb1⟩
  · obtain ⟨hdv, rfl⟩ : hasV e xs ps s = d ∧ (0 : Int) = c := by have := HD.out; simpa using this
    have hsz : s.size ≤ 60 := by have := h60 rfl; simpa using this
    have hc3 := HC3.out rfl (by omega)
    rw [hdv] at hc3
    have HC4 := hidv hc3
    clear hc3 hdv HC3 HD
    go_enter Try.func13, Try.ntmps13
    go_wp2_with fail
    refine C1.out.mono ?_
    rintro e1 w1 ⟨rfl, hb1⟩
    go_wp2_with (first | (go_at_call 29; refine (C2.out _).mono ?_; rintro e w' ⟨rfl, rfl⟩))
    refine (HC4.out _ (hb1.mono (by simp))).mono ?_
    rintro e1 w2 ⟨rfl, hb2⟩
    go_wp2_with fail
    go_ret2
    exact ⟨rfl, below_on (below_on HBX.out hb1) hb2⟩

set_option maxRecDepth 100000 in
set_option maxHeartbeats 1600000 in
theorem implHasS_any (v : Value) (e : Bool) (xs : List ByteArray) (ps : List Pw) (s : ByteArray) (B : Nat) (w : World) (hv : Desc w B v e xs ps) (hB : B ≤ w.heap.size) (hs : DescSz xs ps) (hx : xs.length ≤ 1048576) (hp : ps.length ≤ 1048576) (hz : s.size ≤ maxLen) (d : Bool) (c : Int) (hd : hasC e xs ps s = (d, c)) :
    Calls Try.prog 14 #[v, .string s] w fun e1 w' => e1 = .returned (.tuple #[.bool d, .int .i64 c]) ∧ Below w.heap.size w w' := by
  have HV := hidv hv
  have HS := hidv hs
  obtain ⟨va, vb, rfl, ha, hb⟩ := hv
  have HA := hidv ha
  have HB := hidv hb
  have hV := valid_hits (xs := xs) (ps := ps) e
  have hbx0 : Below w.heap.size w ((w.alloc (.cells #[.bool e, va, vb] 30)).alloc (.cells #[.string s] 9)) := ((Below.refl _ _).alloc (Nat.le_refl _) _).alloc (by simp) _
  have hx0 := (Bx.new w 30 #[.bool e, va, vb]).alloc (.cells #[.string s] 9)
  have hy0 := Bx.new (w.alloc (.cells #[.bool e, va, vb] 30)) 9 #[.string s]
  rw [World.size_alloc] at hy0
  have C1 := hidv (fun W (hW : Below w.heap.size w W) => implValid_any (.agg #[.bool e, va, vb]) e xs ps B W (HV.out.below (hW.mono hB)) (Nat.le_trans hB hW.size) HS.out hx hp)
  have c2 := fun W => implValidWord_any s W hz
  have h60 := fun h => Wd.wordB_len (l := s.data.toList) h
  unfold hasC at hd
  obtain ⟨r, hr⟩ : ∃ r, validB e xs ps = r := ⟨_, rfl⟩
  obtain ⟨q, hq⟩ : ∃ r, Wd.wordB s.data.toList = r := ⟨_, rfl⟩
  rw [hr] at C1 hd hV
  rw [hq] at c2 hd h60
  have HBX := hidv hbx0
  have HX := hidv hx0
  have HY := hidv hy0
  have C2 := hidv c2
  have HD := hidv hd
  have HVV := hidv hV
  clear ha hb hs hx0 hy0 hbx0 hr hq c2 hd hV
  cases r
  · obtain ⟨rfl, rfl⟩ : false = d ∧ (1 : Int) = c := by have := HD.out; simpa using this
    go_enter Try.func14, Try.ntmps14
    go_wp2_with fail
    refine (C1.out _ HBX.out).mono ?_
    rintro e1 w1 ⟨rfl, hb1⟩
    go_wp2_with fail
    go_ret2
    exact ⟨rfl, below_on HBX.out hb1⟩
  cases q
  · obtain ⟨rfl, rfl⟩ : false = d ∧ (1 : Int) = c := by have := HD.out; simpa using this
    go_enter Try.func14, Try.ntmps14
    go_wp2_with fail
    refine (C1.out _ HBX.out).mono ?_
    rintro e1 w1 ⟨rfl, hb1⟩
    have y0 : w1.cell? ⟨w.heap.size + 1, 0, none⟩ = some (.string s) := (HY.out.below hb1).cell 0
    go_wp2_with (go_at_call 31; refine (C2.out _).mono ?_; rintro e w' ⟨rfl, rfl⟩)
    go_ret2
    exact ⟨rfl, below_on HBX.out hb1⟩
  · obtain ⟨hdv, rfl⟩ : hasV e xs ps s = d ∧ (0 : Int) = c := by have := HD.out; simpa using this
    have hsz : s.size ≤ 60 := by have := h60 rfl; simpa using this
    have C3 := hidv (fun W (hW : Below w.heap.size w W) (b : Nat) (hb0 : W.cell? ⟨b, 0, none⟩ = some (.string s)) (hbl : b < W.heap.size) => containsPH_any vb ps b B (hitB s 0) W (HB.out.below (hW.mono hB)) (Nat.le_trans hB hW.size) hp
      (fun p W' hp hW' => closH_any p s b W' ((hW'.cell (p := ⟨b, 0, none⟩) hbl).trans hb0) (HVV.out rfl p hp) (by omega)))
    have C4 := hidv (fun W (hW : Below w.heap.size w W) => containsS_any va xs s B W (HA.out.below (hW.mono hB)) hx)
    unfold hasV at hdv
    obtain ⟨q1, hq1⟩ : ∃ q, (!(noneP ps (hitB s 0))) = q := ⟨_, rfl⟩
    obtain ⟨q2, hq2⟩ : ∃ q, (!(noneS xs s)) = q := ⟨_, rfl⟩
    rw [hq1] at C3 hdv
    rw [hq2] at C4 hdv
    clear hq1 hq2 HD HVV
    go_enter Try.func14, Try.ntmps14
    go_wp2_with fail
    refine (C1.out _ HBX.out).mono ?_
    rintro e1 w1 ⟨rfl, hb1⟩
    have hy1 := HY.out.below hb1
    have hx1 := HX.out.below hb1
    have y0 : w1.cell? ⟨w.heap.size + 1, 0, none⟩ = some (.string s) := hy1.cell 0
    obtain ⟨x0, x1, x2⟩ := hx1.three
    have HB1 := hidv (below_on HBX.out hb1)
    have HX1 := hidv hx1
    have HY1 := hidv hy1
    clear hb1 hx1 hy1
    go_wp2_with (first | (go_at_call 31; refine (C2.out _).mono ?_; rintro e w' ⟨rfl, rfl⟩))
    refine (C3.out _ HB1.out _ y0 HY1.out.lt).mono ?_
    rintro e1 w2 ⟨rfl, hb2⟩
    clear x0 x1 x2 y0
    have hy2 := HY1.out.below hb2
    have hx2 := HX1.out.below hb2
    have y0 : w2.cell? ⟨w.heap.size + 1, 0, none⟩ = some (.string s) := hy2.cell 0
    obtain ⟨x0, x1, x2⟩ := hx2.three
    have HB2 := hidv (below_on HB1.out hb2)
    clear hb2 hx2 hy2
    have HDV := hidv hdv
    clear hdv
    cases e
    · cases q1
      · obtain rfl : q2 = d := by have := HDV.out; simpa using this
        go_wp2_with fail
        refine (C4.out _ HB2.out).mono ?_
        rintro e1 w' ⟨rfl, rfl⟩
        go_wp2_with fail
        go_ret2
        exact ⟨rfl, HB2.out⟩
      · obtain rfl : true = d := by have := HDV.out; simpa using this
        go_wp2_with fail
        go_ret2
        exact ⟨rfl, HB2.out⟩
    · obtain rfl : true = d := by have := HDV.out; simpa using this
      go_wp2_with fail
      go_ret2
      exact ⟨rfl, HB2.out⟩

end Go.Proofs.Ythgbfjeemfcnlaa
