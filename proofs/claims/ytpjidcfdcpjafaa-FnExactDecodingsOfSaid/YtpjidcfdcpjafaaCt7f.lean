/-
  The program's finder of decodings, as it is made; CountDecodings, of the program: contracts.
-/
import Derived.Test.YtpjidcfdcpjafaaCt7i
import Derived.Test.YtpjidcfdcpjafaaSt7o
namespace Go.Proofs.Ytpjidcfdcpjafaa
open Go.RowKit Go Go.Maps Go.WideMaps
set_option linter.unusedVariables false

def D0 : DataW Unit := (DataW.map []).put (kyS ⟨#[]⟩) (nI 1)
set_option maxRecDepth 100000 in
set_option maxHeartbeats 800000 in
theorem finderBy_any (vx : Value) (w : World) (hv : ∃ A n c, vx = .slice A n c) :
    Calls Try.prog 57 #[vx] w fun e w' => e = .returned (.agg #[vx, .map (some (w.heap.size + 1)), .slice none 0 0]) ∧ OwnC w' (w.heap.size + 1) D0 ∧ Below w.heap.size w w' := by
  obtain ⟨A, n, c, rfl⟩ := hv
  have hmm := @run_makeMap Try.prog
  obtain ⟨w5, hrun, hown, hgr⟩ := (World.ownsMap_made (w.alloc (.cells #[.slice none 0 0, .map none, .slice none 0 0] 78)) Try.prog 9 (plainElem (H := Unit) Try.prog 2)).update keyS Try.underlying74 (by decide) (keyOf_string_mk Try.underlying9 (s := ⟨#[]⟩) (by decide)) (plainElem_int Try.underlying2 (a := 1) (by decide))
  rw [World.size_alloc] at hrun hown hgr
  have hbx : Bx ((w.alloc (.cells #[.slice none 0 0, .map none, .slice none 0 0] 78)).alloc (.map #[] 0)) w.heap.size 78 #[.slice none 0 0, .map none, .slice none 0 0] := (Bx.new w _ _).alloc _
  have hbx5 := hbx.grown hgr (by intro h; injection h with h; omega)
  have hbe5 : Below w.heap.size w w5 := (below_al (below_al (Below.refl _ _) _) _).trans (below_grown hgr (by simp; omega) (fun k hk => by cases hk; omega))
  have x0 := hbx5.cell 0
  have x1 := hbx5.cell 1
  have x2 := hbx5.cell 2
  have y0 := hbx5.frozen 0
  have y1 := hbx5.frozen 1
  have y2 := hbx5.frozen 2
  have HOW := hidv hown
  have HBE := hidv hbe5
  clear hown hgr hbx hbe5
  go_enter Try.func57, Try.ntmps57
  have hs1 := ((hbx5.set 0 (.slice A n c)).set 1 (.map (some (w.heap.size + 1)))).set 2 (.slice none 0 0)
  have hown6 : (((w5.setCell ⟨w.heap.size, 0, none⟩ (.slice A n c)).setCell ⟨w.heap.size, 1, none⟩ (.map (some (w.heap.size + 1)))).setCell ⟨w.heap.size, 2, none⟩ (.slice none 0 0)).ownsMap Try.prog 9 (plainElem (H := Unit) Try.prog 2) (w.heap.size + 1) (0 + 1) D0 := ((HOW.out.setCell (by simp) _).setCell (by simp) _).setCell (by simp) _
  have hbe6 := ((HBE.out.setCell (p := ⟨w.heap.size, 0, none⟩) (Nat.le_refl _) (.slice A n c)).setCell (p := ⟨w.heap.size, 1, none⟩) (Nat.le_refl _) (.map (some (w.heap.size + 1)))).setCell (p := ⟨w.heap.size, 2, none⟩) (Nat.le_refl _) (.slice none 0 0)
  go_wp2_with fail
  obtain ⟨W6, hW6⟩ : ∃ W, (((w5.setCell ⟨w.heap.size, 0, none⟩ (.slice A n c)).setCell ⟨w.heap.size, 1, none⟩ (.map (some (w.heap.size + 1)))).setCell ⟨w.heap.size, 2, none⟩ (.slice none 0 0)) = W := ⟨_, rfl⟩
  rw [hW6] at hs1 hown6 hbe6 ⊢
  have z0 := hs1.cell 0
  have z1 := hs1.cell 1
  have z2 := hs1.cell 2
  refine bodyPost_ret (v := .agg #[.slice A n c, .map (some (w.heap.size + 1)), .slice none 0 0]) ?_ rfl ⟨rfl, own_tight hown6, hbe6⟩
  simp [results, Try.results57, go_sem, z0, z1, z2]

theorem isMap0 : IsMap (DataW.map [] : DataW Unit) := isMap_empty
theorem cinv0 (xs : List ByteArray) (s : ByteArray) : CInv xs s D0 := by
  have he : sfx s s.size = ⟨#[]⟩ := by
    apply ba_ext2
    rw [sfx_data, List.drop_eq_nil_of_le (by simp)]
  have hh0 : ∀ k, Maps.has (DataW.map [] : DataW Unit) k = false := fun k => rfl
  have hhas : Maps.has D0 (kyS (sfx s s.size)) = true := by rw [he]; exact has_put_same isMap0 (ky_key _) _
  refine ⟨fun i hi h => ?_, hhas, ?_⟩
  · by_cases hie : i = s.size
    · subst hie
      rw [he]
      unfold D0
      rw [atKey_put_same isMap0 (ky_key _)]
      unfold fcB
      rw [show (⟨#[]⟩ : ByteArray).data.toList = [] from rfl, Wd.fc_nil]
    · unfold D0 at h
      rw [← he, has_put_other (ky_ne hi (Nat.le_refl _) hie), hh0] at h
      cases h
  · have h1 := miss_put (s := s) isMap0 s.size (Nat.le_refl _) (hh0 _) (nI 1)
    rw [he] at h1
    have h2 : missN s (DataW.map [] : DataW Unit) ≤ s.size + 1 := by
      unfold missN
      exact Nat.le_trans (List.length_filter_le _ _) (by rw [List.length_range]; exact Nat.le_refl _)
    have h3 : Maps.size D0 = 1 := by
      unfold D0
      rw [size_put tidy_empty]
      rfl
    have h4 : missN s D0 + 1 ≤ missN s (DataW.map [] : DataW Unit) := h1
    omega

/-- What CountDecodings answers. -/
def CdR (xs : List ByteArray) (s : ByteArray) (a c : Int) : Prop := (SetOk xs ∧ Wd.wordB s.data.toList = true → a = (fcB xs s : Nat) ∧ c = 0) ∧ (¬ (SetOk xs ∧ Wd.wordB s.data.toList = true) → a = 0 ∧ c = 1)
theorem cdR_ex (xs : List ByteArray) (s : ByteArray) : ∃ a c, CdR xs s a c := by
  by_cases h : SetOk xs ∧ Wd.wordB s.data.toList = true
  · exact ⟨_, 0, fun _ => ⟨rfl, rfl⟩, fun hn => absurd h hn⟩
  · exact ⟨0, 1, fun hy => absurd hy h, fun _ => ⟨rfl, rfl⟩⟩

set_option maxRecDepth 100000 in
set_option maxHeartbeats 1600000 in
theorem implCd_any (vx : Value) (xs : List ByteArray) (s : ByteArray) (B : Nat) (w : World) (hv : Row w B vx (xs.map Value.string)) (hB : B ≤ w.heap.size) (hl : xs.length ≤ 1048576) (hz : ∀ s ∈ xs, s.size ≤ maxLen) (hs : s.size ≤ maxLen) (a c : Int) (hd : CdR xs s a c) :
    Calls Try.prog 16 #[vx, .string s] w fun e w' => e = .returned (.tuple #[.int .i64 a, .int .i64 c]) ∧ Below w.heap.size w w' := by
  obtain ⟨q, hq⟩ := iffB (SetOk xs)
  obtain ⟨p, hp⟩ : ∃ p, Wd.wordB s.data.toList = p := ⟨_, rfl⟩
  have CS := hidv (implSet_any vx xs B w hv hB hl hz q hq)
  have CW := hidv (fun W => implValidWord_any s W hs)
  rw [hp] at CW
  have HR := hidv (fun W (h : Below w.heap.size w W) => hv.below (h.mono hB))
  have HD := hidv hd
  obtain ⟨A, cx, hvx, _⟩ := strRow_at hv
  obtain ⟨n, hn⟩ : ∃ n, xs.length = n := ⟨_, rfl⟩
  rw [hn] at hvx
  have HQ := hidv hq
  have HP := hidv hp
  clear hv hz hs hd hq hp hn
  subst hvx
  cases q
  · obtain ⟨rfl, rfl⟩ := HD.out.2 (fun h => absurd (HQ.out.mpr h.1) (by decide))
    go_enter Try.func16, Try.ntmps16
    go_wp2_with fail
    refine CS.out.mono ?_
    rintro e w1 ⟨rfl, hb1⟩
    have HB1 := hidv hb1
    clear hb1
    go_wp2_with fail
    go_ret2
    exact ⟨rfl, HB1.out⟩
  cases p
  · obtain ⟨rfl, rfl⟩ := HD.out.2 (fun h => by have h1 := h.2; rw [HP.out] at h1; cases h1)
    go_enter Try.func16, Try.ntmps16
    go_wp2_with fail
    refine CS.out.mono ?_
    rintro e w1 ⟨rfl, hb1⟩
    have HB1 := hidv hb1
    clear hb1
    go_wp2_with fail
    refine (CW.out _).mono ?_
    rintro e w' ⟨rfl, rfl⟩
    go_wp2_with fail
    go_ret2
    exact ⟨rfl, HB1.out⟩
  have hok := HQ.out.mp rfl
  obtain ⟨rfl, rfl⟩ := HD.out.1 ⟨hok, HP.out⟩
  have hws := setOk_ws hok
  have hs60 : s.size ≤ 60 := by have := Wd.wordB_len HP.out; simpa using this
  have hC := fun M (hM : B ≤ M) (W : World) hr ho => count_any (.slice A n cx) xs B M s hs60 hws hM s.size 0 W D0 (by omega) (by omega) hr ho (cinv0 xs s)
  rw [sfx_zero] at hC
  have HC := hidv hC
  obtain ⟨T, hT⟩ : ∃ T, fcB xs s = T := ⟨_, rfl⟩
  rw [hT] at HC ⊢
  clear hok hws hs60 hC hT HD HQ HP
  go_enter Try.func16, Try.ntmps16
  go_wp2_with fail
  refine CS.out.mono ?_
  rintro e w1 ⟨rfl, hb1⟩
  have HB1 := hidv hb1
  have hz1 := hb1.size
  clear hb1
  go_wp2_with fail
  refine (CW.out _).mono ?_
  rintro e w' ⟨rfl, rfl⟩
  go_wp2_with fail
  refine (finderBy_any _ _ ⟨_, _, _, rfl⟩).mono ?_
  rintro e w2 ⟨rfl, ho2, hb2⟩
  have HB2 := hidv (below_on HB1.out hb2)
  have hz2 := hb2.size
  have hlo := ho2.lt
  have HO3 := hidv (ho2.alloc (.cells #[.slice A n cx, .map (some (w1.heap.size + 1)), .slice none 0 0] 78))
  have HB3 := hidv (below_al HB2.out (.cells #[.slice A n cx, .map (some (w1.heap.size + 1)), .slice none 0 0] 78))
  have hbx := Bx.new w2 78 #[.slice A n cx, .map (some (w1.heap.size + 1)), .slice none 0 0]
  obtain ⟨w3, hw3⟩ : ∃ W, w2.alloc (.cells #[.slice A n cx, .map (some (w1.heap.size + 1)), .slice none 0 0] 78) = W := ⟨_, rfl⟩
  rw [hw3] at HO3 HB3 hbx
  have x0 := hbx.cell 0
  have x1 := hbx.cell 1
  have x2 := hbx.cell 2
  have y0 := hbx.frozen 0
  have y1 := hbx.frozen 1
  have y2 := hbx.frozen 2
  have hz12 := HB2.out.size
  have HB3 := hidv (HB3.out.setCell (p := ⟨w2.heap.size, 2, none⟩) hz12 (.slice none 0 0))
  have HO3 := hidv (HO3.out.setCell (a := ⟨w2.heap.size, 2, none⟩) (by show w1.heap.size + 1 ≠ w2.heap.size; omega) (.slice none 0 0))
  have HC3 := hidv (HC.out (w1.heap.size + 1) (by omega) (w3.setCell ⟨w2.heap.size, 2, none⟩ (.slice none 0 0)) (HR.out _ HB3.out) HO3.out)
  clear ho2 hb2 hbx HC
  go_wp2_with fail
  refine HC3.out.mono ?_
  rintro e w4 ⟨rfl, D', ho4, _, _, hg4⟩
  have hb4 := HB3.out.trans (below_grown hg4 HB3.out.size (fun k hk => by cases hk; omega))
  have HB4 := hidv hb4
  clear ho4 hg4 hb4
  go_wp2_with fail
  go_ret2
  exact ⟨rfl, HB4.out⟩

end Go.Proofs.Ytpjidcfdcpjafaa
