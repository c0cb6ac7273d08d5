/-
  OverhangOf, of the program and of the model: contracts.
-/
import Derived.Test.YtpjflakialomaaaAp7
import Derived.Test.YtpjflakialomaaaOv7
namespace Go.Proofs.Ytpjflakialomaaa
open Go.RowKit Go
set_option linter.unusedVariables false

/-- All three arguments are valid. -/
def OhV (f g : List ByteArray) (s : ByteArray) : Prop := ImgOk f ∧ ImgOk g ∧ Wd.wordB s.data.toList = true
/-- What OverhangOf answers. -/
def OhR (f g : List ByteArray) (s : ByteArray) (a : Int) (r : ByteArray) (c : Int) : Prop :=
  (OhV f g s → (60 < (imgV s f).size ∨ 60 < (imgV s g).size → a = 0 ∧ r = ⟨#[]⟩ ∧ c = 3) ∧ ((imgV s f).size ≤ 60 ∧ (imgV s g).size ≤ 60 →
    (ovF (imgV s f) (imgV s g) = true → a = ovS (imgV s f) (imgV s g) ∧ r = ovR (imgV s f) (imgV s g) ∧ c = 0) ∧ (ovF (imgV s f) (imgV s g) = false → a = 0 ∧ r = ⟨#[]⟩ ∧ c = 4))) ∧
  (¬ OhV f g s → a = 0 ∧ r = ⟨#[]⟩ ∧ c = 1)
theorem ohR_ex (f g : List ByteArray) (s : ByteArray) : ∃ a r c, OhR f g s a r c := by
  unfold OhR
  by_cases h : OhV f g s
  · by_cases h2 : 60 < (imgV s f).size ∨ 60 < (imgV s g).size
    · exact ⟨0, ⟨#[]⟩, 3, fun _ => ⟨fun _ => ⟨rfl, rfl, rfl⟩, fun h3 => by omega⟩, fun hn => absurd h hn⟩
    · cases h4 : ovF (imgV s f) (imgV s g)
      · exact ⟨0, ⟨#[]⟩, 4, fun _ => ⟨fun h3 => absurd h3 h2, fun _ => ⟨fun h5 => by (cases h5), fun _ => ⟨rfl, rfl, rfl⟩⟩⟩, fun hn => absurd h hn⟩
      · exact ⟨_, _, 0, fun _ => ⟨fun h3 => absurd h3 h2, fun _ => ⟨fun _ => ⟨rfl, rfl, rfl⟩, fun h5 => by (cases h5)⟩⟩, fun hn => absurd h hn⟩
  · exact ⟨0, ⟨#[]⟩, 1, fun hy => absurd hy h, fun _ => ⟨rfl, rfl, rfl⟩⟩

set_option maxHeartbeats 1600000 in
theorem implOver_any (s : ByteArray) (vf vg : Value) (f g : List ByteArray) (B C : Nat) (w : World) (hs : s.size ≤ maxLen) (hf : Row w B vf (f.map Value.string)) (hB : B ≤ w.heap.size) (hg : Row w C vg (g.map Value.string)) (hC : C ≤ w.heap.size) (hfl : f.length ≤ 1048576) (hgl : g.length ≤ 1048576) (hfz : ∀ s ∈ f, s.size ≤ maxLen) (hgz : ∀ s ∈ g, s.size ≤ maxLen) (a : Int) (r : ByteArray) (c : Int) (hd : OhR f g s a r c) :
    Calls Try.prog 39 #[vf, vg, .string s] w fun e w' => e = .returned (.tuple #[.int .i64 a, .string r, .int .i64 c]) ∧ Below w.heap.size w w' := by
  obtain ⟨q, hq⟩ := iffB (ImgOk f)
  obtain ⟨q2, hq2⟩ := iffB (ImgOk g)
  obtain ⟨p, hp⟩ : ∃ p, Wd.wordB s.data.toList = p := ⟨_, rfl⟩
  have CF := hidv (fun W (h : Below w.heap.size w W) => implImg_any vf f B W (hf.below (h.mono hB)) (Nat.le_trans hB h.size) hfl hfz q hq)
  have CG := hidv (fun W (h : Below w.heap.size w W) => implImg_any vg g C W (hg.below (h.mono hC)) (Nat.le_trans hC h.size) hgl hgz q2 hq2)
  have CW := hidv (fun W => implValidWord_any s W hs)
  rw [hp] at CW
  have HD := hidv hd
  have hvf : ∃ A n c, vf = .slice A n c := by obtain ⟨A, c, hh, _⟩ := hf; exact ⟨A, _, c, hh⟩
  have hvg : ∃ A n c, vg = .slice A n c := by obtain ⟨A, c, hh, _⟩ := hg; exact ⟨A, _, c, hh⟩
  obtain ⟨Af, nf, cf, hvf⟩ := hvf
  obtain ⟨Ag, ng, cg, hvg⟩ := hvg
  cases q
  · obtain ⟨rfl, rfl, rfl⟩ := HD.out.2 (fun h => absurd (hq.mpr h.1) (by decide))
    clear hd hq hq2 hp hf hg hfz hgz hs
    subst hvf hvg
    go_enter Try.func39, Try.ntmps39
    go_wp2_with fail
    refine (CF.out _ (Below.refl _ _)).mono ?_
    rintro e w1 ⟨rfl, hb1⟩
    have HB1 := hidv hb1
    clear hb1
    go_wp2_with fail
    go_ret3
    exact ⟨rfl, HB1.out⟩
  cases q2
  · obtain ⟨rfl, rfl, rfl⟩ := HD.out.2 (fun h => absurd (hq2.mpr h.2.1) (by decide))
    clear hd hq hq2 hp hf hg hfz hgz hs
    subst hvf hvg
    go_enter Try.func39, Try.ntmps39
    go_wp2_with fail
    refine (CF.out _ (Below.refl _ _)).mono ?_
    rintro e w1 ⟨rfl, hb1⟩
    have HB1 := hidv hb1
    clear hb1
    go_wp2_with fail
    refine (CG.out _ HB1.out).mono ?_
    rintro e w2 ⟨rfl, hb2⟩
    have HB2 := hidv (below_on HB1.out hb2)
    clear hb2
    go_wp2_with fail
    go_ret3
    exact ⟨rfl, HB2.out⟩
  cases p
  · obtain ⟨rfl, rfl, rfl⟩ := HD.out.2 (fun h => by have h1 := h.2.2; rw [hp] at h1; cases h1)
    clear hd hq hq2 hp hf hg hfz hgz hs
    subst hvf hvg
    go_enter Try.func39, Try.ntmps39
    go_wp2_with fail
    refine (CF.out _ (Below.refl _ _)).mono ?_
    rintro e w1 ⟨rfl, hb1⟩
    have HB1 := hidv hb1
    clear hb1
    go_wp2_with fail
    refine (CG.out _ HB1.out).mono ?_
    rintro e w2 ⟨rfl, hb2⟩
    have HB2 := hidv (below_on HB1.out hb2)
    clear hb2
    go_wp2_with fail
    refine (CW.out _).mono ?_
    rintro e w' ⟨rfl, rfl⟩
    go_wp2_with fail
    go_ret3
    exact ⟨rfl, HB2.out⟩
  have hok : OhV f g s := ⟨hq.mp rfl, hq2.mp rfl, hp⟩
  have CI := hidv (fun b W (h : Below w.heap.size w W) (hc : W.cell? ⟨b, 0, none⟩ = some vf) => closI_any s b vf f B W hok.2.2 hc (hf.below (h.mono hB)) (Nat.le_trans hB h.size) hok.1)
  have CJ := hidv (fun b W (h : Below w.heap.size w W) (hc : W.cell? ⟨b, 0, none⟩ = some vg) => closI_any s b vg g C W hok.2.2 hc (hg.below (h.mono hC)) (Nat.le_trans hC h.size) hok.2.1)
  have hR := HD.out.1 hok
  have hz1 := imgV_size hok.2.2 hok.1
  have hz2 := imgV_size hok.2.2 hok.2.1
  obtain ⟨u, hu⟩ : ∃ z, imgV s f = z := ⟨_, rfl⟩
  obtain ⟨z, hz⟩ : ∃ z, imgV s g = z := ⟨_, rfl⟩
  rw [hu] at CI hR hz1
  rw [hz] at CJ hR hz2
  clear hd hq hq2 hp hf hg hfz hgz hs hu hz hok HD
  subst hvf hvg
  by_cases h60 : 60 < u.size ∨ 60 < z.size
  · obtain ⟨rfl, rfl, rfl⟩ := hR.1 h60
    clear hR
    by_cases h61 : 60 < u.size
    · clear h60
      go_enter Try.func39, Try.ntmps39
      go_wp2_with fail
      refine (CF.out _ (Below.refl _ _)).mono ?_
      rintro e w1 ⟨rfl, hb1⟩
      have HB1 := hidv hb1
      clear hb1
      go_wp2_with fail
      refine (CG.out _ HB1.out).mono ?_
      rintro e w2 ⟨rfl, hb2⟩
      have HB2 := hidv (below_on HB1.out hb2)
      clear hb2
      go_wp2_with fail
      refine (CW.out _).mono ?_
      rintro e w' ⟨rfl, rfl⟩
      go_wp2_with fail
      refine (imageBy_any _ _ ⟨_, _, _, rfl⟩).mono ?_
      rintro e w3 ⟨rfl, hb3, hbx3⟩
      have HB3 := hidv (below_on HB2.out hb3)
      have D3 := hidv (CI.out _ w3 HB3.out (hbx3.cell 0))
      clear hb3 hbx3
      go_wp2_with fail
      refine D3.out.mono ?_
      rintro e w4 ⟨rfl, hb4⟩
      have HB4 := hidv (below_on HB3.out hb4)
      clear hb4
      go_wp2_with fail
      refine (imageBy_any _ _ ⟨_, _, _, rfl⟩).mono ?_
      rintro e w5 ⟨rfl, hb5, hbx5⟩
      have HB5 := hidv (below_on HB4.out hb5)
      have D5 := hidv (CJ.out _ w5 HB5.out (hbx5.cell 0))
      clear hb5 hbx5
      go_wp2_with fail
      refine D5.out.mono ?_
      rintro e w6 ⟨rfl, hb6⟩
      have HB6 := hidv (below_on HB5.out hb6)
      clear hb6
      go_wp2_with fail
      go_ret3
      exact ⟨rfl, HB6.out⟩
    · have h62 : 60 < z.size := by omega
      clear h60
      go_enter Try.func39, Try.ntmps39
      go_wp2_with fail
      refine (CF.out _ (Below.refl _ _)).mono ?_
      rintro e w1 ⟨rfl, hb1⟩
      have HB1 := hidv hb1
      clear hb1
      go_wp2_with fail
      refine (CG.out _ HB1.out).mono ?_
      rintro e w2 ⟨rfl, hb2⟩
      have HB2 := hidv (below_on HB1.out hb2)
      clear hb2
      go_wp2_with fail
      refine (CW.out _).mono ?_
      rintro e w' ⟨rfl, rfl⟩
      go_wp2_with fail
      refine (imageBy_any _ _ ⟨_, _, _, rfl⟩).mono ?_
      rintro e w3 ⟨rfl, hb3, hbx3⟩
      have HB3 := hidv (below_on HB2.out hb3)
      have D3 := hidv (CI.out _ w3 HB3.out (hbx3.cell 0))
      clear hb3 hbx3
      go_wp2_with fail
      refine D3.out.mono ?_
      rintro e w4 ⟨rfl, hb4⟩
      have HB4 := hidv (below_on HB3.out hb4)
      clear hb4
      go_wp2_with fail
      refine (imageBy_any _ _ ⟨_, _, _, rfl⟩).mono ?_
      rintro e w5 ⟨rfl, hb5, hbx5⟩
      have HB5 := hidv (below_on HB4.out hb5)
      have D5 := hidv (CJ.out _ w5 HB5.out (hbx5.cell 0))
      clear hb5 hbx5
      go_wp2_with fail
      refine D5.out.mono ?_
      rintro e w6 ⟨rfl, hb6⟩
      have HB6 := hidv (below_on HB5.out hb6)
      clear hb6
      go_wp2_with fail
      go_ret3
      exact ⟨rfl, HB6.out⟩
  · have hu60 : ¬ 60 < u.size := by omega
    have hz60 : ¬ 60 < z.size := by omega
    have HRR := hidv (hR.2 ⟨by omega, by omega⟩)
    have CO := hidv (fun W => overhang_any u z W (by unfold maxLen; omega) (by unfold maxLen; omega))
    clear hR h60
    cases hp : ovF u z
    · obtain ⟨rfl, rfl, rfl⟩ := HRR.out.2 hp
      obtain ⟨A2, hA2⟩ : ∃ a, ovS u z = a := ⟨_, rfl⟩
      obtain ⟨R2, hR2⟩ : ∃ a, ovR u z = a := ⟨_, rfl⟩
      rw [hp, hA2, hR2] at CO
      clear hp hA2 hR2 HRR
      go_enter Try.func39, Try.ntmps39
      go_wp2_with fail
      refine (CF.out _ (Below.refl _ _)).mono ?_
      rintro e w1 ⟨rfl, hb1⟩
      have HB1 := hidv hb1
      clear hb1
      go_wp2_with fail
      refine (CG.out _ HB1.out).mono ?_
      rintro e w2 ⟨rfl, hb2⟩
      have HB2 := hidv (below_on HB1.out hb2)
      clear hb2
      go_wp2_with fail
      refine (CW.out _).mono ?_
      rintro e w' ⟨rfl, rfl⟩
      go_wp2_with fail
      refine (imageBy_any _ _ ⟨_, _, _, rfl⟩).mono ?_
      rintro e w3 ⟨rfl, hb3, hbx3⟩
      have HB3 := hidv (below_on HB2.out hb3)
      have D3 := hidv (CI.out _ w3 HB3.out (hbx3.cell 0))
      clear hb3 hbx3
      go_wp2_with fail
      refine D3.out.mono ?_
      rintro e w4 ⟨rfl, hb4⟩
      have HB4 := hidv (below_on HB3.out hb4)
      clear hb4
      go_wp2_with fail
      refine (imageBy_any _ _ ⟨_, _, _, rfl⟩).mono ?_
      rintro e w5 ⟨rfl, hb5, hbx5⟩
      have HB5 := hidv (below_on HB4.out hb5)
      have D5 := hidv (CJ.out _ w5 HB5.out (hbx5.cell 0))
      clear hb5 hbx5
      go_wp2_with fail
      refine D5.out.mono ?_
      rintro e w6 ⟨rfl, hb6⟩
      have HB6 := hidv (below_on HB5.out hb6)
      clear hb6
      go_wp2_with fail
      refine (CO.out _).mono ?_
      rintro e w' ⟨⟨t, rfl, ht⟩, rfl⟩
      have HT := hidv ht
      clear ht
      go_wp2_with fail
      go_ret3
      exact ⟨rfl, HB6.out⟩
    · obtain ⟨rfl, rfl, rfl⟩ := HRR.out.1 hp
      obtain ⟨A2, hA2⟩ : ∃ a, ovS u z = a := ⟨_, rfl⟩
      obtain ⟨R2, hR2⟩ : ∃ a, ovR u z = a := ⟨_, rfl⟩
      rw [hp, hA2, hR2] at CO
      rw [hA2, hR2]
      clear hp hA2 hR2 HRR
      go_enter Try.func39, Try.ntmps39
      go_wp2_with fail
      refine (CF.out _ (Below.refl _ _)).mono ?_
      rintro e w1 ⟨rfl, hb1⟩
      have HB1 := hidv hb1
      clear hb1
      go_wp2_with fail
      refine (CG.out _ HB1.out).mono ?_
      rintro e w2 ⟨rfl, hb2⟩
      have HB2 := hidv (below_on HB1.out hb2)
      clear hb2
      go_wp2_with fail
      refine (CW.out _).mono ?_
      rintro e w' ⟨rfl, rfl⟩
      go_wp2_with fail
      refine (imageBy_any _ _ ⟨_, _, _, rfl⟩).mono ?_
      rintro e w3 ⟨rfl, hb3, hbx3⟩
      have HB3 := hidv (below_on HB2.out hb3)
      have D3 := hidv (CI.out _ w3 HB3.out (hbx3.cell 0))
      clear hb3 hbx3
      go_wp2_with fail
      refine D3.out.mono ?_
      rintro e w4 ⟨rfl, hb4⟩
      have HB4 := hidv (below_on HB3.out hb4)
      clear hb4
      go_wp2_with fail
      refine (imageBy_any _ _ ⟨_, _, _, rfl⟩).mono ?_
      rintro e w5 ⟨rfl, hb5, hbx5⟩
      have HB5 := hidv (below_on HB4.out hb5)
      have D5 := hidv (CJ.out _ w5 HB5.out (hbx5.cell 0))
      clear hb5 hbx5
      go_wp2_with fail
      refine D5.out.mono ?_
      rintro e w6 ⟨rfl, hb6⟩
      have HB6 := hidv (below_on HB5.out hb6)
      clear hb6
      go_wp2_with fail
      refine (CO.out _).mono ?_
      rintro e w' ⟨⟨t, rfl, ht⟩, rfl⟩
      have HT := hidv ht
      clear ht
      obtain rfl := HT.out rfl
      go_wp2_with fail
      go_ret3
      exact ⟨rfl, HB6.out⟩

set_option maxHeartbeats 1600000 in
theorem specOver_any (s : ByteArray) (vf vg : Value) (f g : List ByteArray) (B C : Nat) (w : World) (hs : s.size ≤ maxLen) (hf : Row w B vf (f.map Value.string)) (hB : B ≤ w.heap.size) (hg : Row w C vg (g.map Value.string)) (hC : C ≤ w.heap.size) (hfl : f.length ≤ 1048576) (hgl : g.length ≤ 1048576) (hfz : ∀ s ∈ f, s.size ≤ maxLen) (hgz : ∀ s ∈ g, s.size ≤ maxLen) (a : Int) (r : ByteArray) (c : Int) (hd : OhR f g s a r c) :
    Calls Try.prog 38 #[vf, vg, .string s] w fun e w' => e = .returned (.tuple #[.int .i64 a, .string r, .int .i64 c]) ∧ Below w.heap.size w w' := by
  obtain ⟨q, hq⟩ := iffB (ImgOk f)
  obtain ⟨q2, hq2⟩ := iffB (ImgOk g)
  obtain ⟨p, hp⟩ : ∃ p, Wd.wordB s.data.toList = p := ⟨_, rfl⟩
  have CF := hidv (fun W (h : Below w.heap.size w W) => specImg_any vf f B W (hf.below (h.mono hB)) (Nat.le_trans hB h.size) hfl hfz q hq)
  have CG := hidv (fun W (h : Below w.heap.size w W) => specImg_any vg g C W (hg.below (h.mono hC)) (Nat.le_trans hC h.size) hgl hgz q2 hq2)
  have CW := hidv (fun W => specWord_any s W hs)
  rw [hp] at CW
  have HD := hidv hd
  have hvf : ∃ A n c, vf = .slice A n c := by obtain ⟨A, c, hh, _⟩ := hf; exact ⟨A, _, c, hh⟩
  have hvg : ∃ A n c, vg = .slice A n c := by obtain ⟨A, c, hh, _⟩ := hg; exact ⟨A, _, c, hh⟩
  obtain ⟨Af, nf, cf, hvf⟩ := hvf
  obtain ⟨Ag, ng, cg, hvg⟩ := hvg
  cases q
  · obtain ⟨rfl, rfl, rfl⟩ := HD.out.2 (fun h => absurd (hq.mpr h.1) (by decide))
    clear hd hq hq2 hp hf hg hfz hgz hs
    subst hvf hvg
    go_enter Try.func38, Try.ntmps38
    go_wp2_with fail
    refine (CF.out _ (Below.refl _ _)).mono ?_
    rintro e w1 ⟨rfl, hb1⟩
    have HB1 := hidv hb1
    clear hb1
    go_wp2_with fail
    go_ret3
    exact ⟨rfl, HB1.out⟩
  cases q2
  · obtain ⟨rfl, rfl, rfl⟩ := HD.out.2 (fun h => absurd (hq2.mpr h.2.1) (by decide))
    clear hd hq hq2 hp hf hg hfz hgz hs
    subst hvf hvg
    go_enter Try.func38, Try.ntmps38
    go_wp2_with fail
    refine (CF.out _ (Below.refl _ _)).mono ?_
    rintro e w1 ⟨rfl, hb1⟩
    have HB1 := hidv hb1
    clear hb1
    go_wp2_with fail
    refine (CG.out _ HB1.out).mono ?_
    rintro e w2 ⟨rfl, hb2⟩
    have HB2 := hidv (below_on HB1.out hb2)
    clear hb2
    go_wp2_with fail
    go_ret3
    exact ⟨rfl, HB2.out⟩
  cases p
  · obtain ⟨rfl, rfl, rfl⟩ := HD.out.2 (fun h => by have h1 := h.2.2; rw [hp] at h1; cases h1)
    clear hd hq hq2 hp hf hg hfz hgz hs
    subst hvf hvg
    go_enter Try.func38, Try.ntmps38
    go_wp2_with fail
    refine (CF.out _ (Below.refl _ _)).mono ?_
    rintro e w1 ⟨rfl, hb1⟩
    have HB1 := hidv hb1
    clear hb1
    go_wp2_with fail
    refine (CG.out _ HB1.out).mono ?_
    rintro e w2 ⟨rfl, hb2⟩
    have HB2 := hidv (below_on HB1.out hb2)
    clear hb2
    go_wp2_with fail
    refine (CW.out _).mono ?_
    rintro e w' ⟨rfl, rfl⟩
    go_wp2_with fail
    go_ret3
    exact ⟨rfl, HB2.out⟩
  have hok : OhV f g s := ⟨hq.mp rfl, hq2.mp rfl, hp⟩
  have CI := hidv (fun W (h : Below w.heap.size w W) => (l07Image_any s vf f B W hok.2.2 (hf.below (h.mono hB)) hok.1).mono (fun e w' h => (show e = .returned (.string (imgV s f)) ∧ Below W.heap.size W w' from ⟨h.1, h.2 ▸ Below.refl _ _⟩)))
  have CJ := hidv (fun W (h : Below w.heap.size w W) => (l07Image_any s vg g C W hok.2.2 (hg.below (h.mono hC)) hok.2.1).mono (fun e w' h => (show e = .returned (.string (imgV s g)) ∧ Below W.heap.size W w' from ⟨h.1, h.2 ▸ Below.refl _ _⟩)))
  have hR := HD.out.1 hok
  have hz1 := imgV_size hok.2.2 hok.1
  have hz2 := imgV_size hok.2.2 hok.2.1
  obtain ⟨u, hu⟩ : ∃ z, imgV s f = z := ⟨_, rfl⟩
  obtain ⟨z, hz⟩ : ∃ z, imgV s g = z := ⟨_, rfl⟩
  rw [hu] at CI hR hz1
  rw [hz] at CJ hR hz2
  clear hd hq hq2 hp hf hg hfz hgz hs hu hz hok HD
  subst hvf hvg
  by_cases h60 : 60 < u.size ∨ 60 < z.size
  · obtain ⟨rfl, rfl, rfl⟩ := hR.1 h60
    clear hR
    by_cases h61 : 60 < u.size
    · clear h60
      go_enter Try.func38, Try.ntmps38
      go_wp2_with fail
      refine (CF.out _ (Below.refl _ _)).mono ?_
      rintro e w1 ⟨rfl, hb1⟩
      have HB1 := hidv hb1
      clear hb1
      go_wp2_with fail
      refine (CG.out _ HB1.out).mono ?_
      rintro e w2 ⟨rfl, hb2⟩
      have HB2 := hidv (below_on HB1.out hb2)
      clear hb2
      go_wp2_with fail
      refine (CW.out _).mono ?_
      rintro e w' ⟨rfl, rfl⟩
      go_wp2_with fail
      refine (CI.out _ HB2.out).mono ?_
      rintro e w4 ⟨rfl, hb4⟩
      have HB4 := hidv (below_on HB2.out hb4)
      clear hb4
      go_wp2_with fail
      refine (CJ.out _ HB4.out).mono ?_
      rintro e w6 ⟨rfl, hb6⟩
      have HB6 := hidv (below_on HB4.out hb6)
      clear hb6
      go_wp2_with fail
      go_ret3
      exact ⟨rfl, HB6.out⟩
    · have h62 : 60 < z.size := by omega
      clear h60
      go_enter Try.func38, Try.ntmps38
      go_wp2_with fail
      refine (CF.out _ (Below.refl _ _)).mono ?_
      rintro e w1 ⟨rfl, hb1⟩
      have HB1 := hidv hb1
      clear hb1
      go_wp2_with fail
      refine (CG.out _ HB1.out).mono ?_
      rintro e w2 ⟨rfl, hb2⟩
      have HB2 := hidv (below_on HB1.out hb2)
      clear hb2
      go_wp2_with fail
      refine (CW.out _).mono ?_
      rintro e w' ⟨rfl, rfl⟩
      go_wp2_with fail
      refine (CI.out _ HB2.out).mono ?_
      rintro e w4 ⟨rfl, hb4⟩
      have HB4 := hidv (below_on HB2.out hb4)
      clear hb4
      go_wp2_with fail
      refine (CJ.out _ HB4.out).mono ?_
      rintro e w6 ⟨rfl, hb6⟩
      have HB6 := hidv (below_on HB4.out hb6)
      clear hb6
      go_wp2_with fail
      go_ret3
      exact ⟨rfl, HB6.out⟩
  · have hu60 : ¬ 60 < u.size := by omega
    have hz60 : ¬ 60 < z.size := by omega
    have HRR := hidv (hR.2 ⟨by omega, by omega⟩)
    have CO := hidv (fun W => l07Over_any u z W (by unfold maxLen; omega) (by unfold maxLen; omega))
    clear hR h60
    cases hp : ovF u z
    · obtain ⟨rfl, rfl, rfl⟩ := HRR.out.2 hp
      have CO := hidv (fun W => CO.out W 0 ⟨#[]⟩ false ⟨fun h => by rw [hp] at h; (cases h), fun _ => ⟨rfl, rfl, rfl⟩⟩)
      clear hp HRR
      go_enter Try.func38, Try.ntmps38
      go_wp2_with fail
      refine (CF.out _ (Below.refl _ _)).mono ?_
      rintro e w1 ⟨rfl, hb1⟩
      have HB1 := hidv hb1
      clear hb1
      go_wp2_with fail
      refine (CG.out _ HB1.out).mono ?_
      rintro e w2 ⟨rfl, hb2⟩
      have HB2 := hidv (below_on HB1.out hb2)
      clear hb2
      go_wp2_with fail
      refine (CW.out _).mono ?_
      rintro e w' ⟨rfl, rfl⟩
      go_wp2_with fail
      refine (CI.out _ HB2.out).mono ?_
      rintro e w4 ⟨rfl, hb4⟩
      have HB4 := hidv (below_on HB2.out hb4)
      clear hb4
      go_wp2_with fail
      refine (CJ.out _ HB4.out).mono ?_
      rintro e w6 ⟨rfl, hb6⟩
      have HB6 := hidv (below_on HB4.out hb6)
      clear hb6
      go_wp2_with fail
      refine (CO.out _).mono ?_
      rintro e w7 ⟨rfl, m7, hm7⟩
      have HB7 := hidv (below_on HB6.out (below_q hm7))
      clear hm7
      go_wp2_with fail
      go_ret3
      exact ⟨rfl, HB7.out⟩
    · obtain ⟨rfl, rfl, rfl⟩ := HRR.out.1 hp
      have CO := hidv (fun W => CO.out W _ _ true ⟨fun _ => ⟨rfl, rfl, rfl⟩, fun h => by rw [hp] at h; cases h⟩)
      obtain ⟨A2, hA2⟩ : ∃ a, ovS u z = a := ⟨_, rfl⟩
      obtain ⟨R2, hR2⟩ : ∃ a, ovR u z = a := ⟨_, rfl⟩
      rw [hA2, hR2] at CO
      rw [hA2, hR2]
      clear hp hA2 hR2 HRR
      go_enter Try.func38, Try.ntmps38
      go_wp2_with fail
      refine (CF.out _ (Below.refl _ _)).mono ?_
      rintro e w1 ⟨rfl, hb1⟩
      have HB1 := hidv hb1
      clear hb1
      go_wp2_with fail
      refine (CG.out _ HB1.out).mono ?_
      rintro e w2 ⟨rfl, hb2⟩
      have HB2 := hidv (below_on HB1.out hb2)
      clear hb2
      go_wp2_with fail
      refine (CW.out _).mono ?_
      rintro e w' ⟨rfl, rfl⟩
      go_wp2_with fail
      refine (CI.out _ HB2.out).mono ?_
      rintro e w4 ⟨rfl, hb4⟩
      have HB4 := hidv (below_on HB2.out hb4)
      clear hb4
      go_wp2_with fail
      refine (CJ.out _ HB4.out).mono ?_
      rintro e w6 ⟨rfl, hb6⟩
      have HB6 := hidv (below_on HB4.out hb6)
      clear hb6
      go_wp2_with fail
      refine (CO.out _).mono ?_
      rintro e w7 ⟨rfl, m7, hm7⟩
      have HB7 := hidv (below_on HB6.out (below_q hm7))
      clear hm7
      go_wp2_with fail
      go_ret3
      exact ⟨rfl, HB7.out⟩

end Go.Proofs.Ytpjflakialomaaa
