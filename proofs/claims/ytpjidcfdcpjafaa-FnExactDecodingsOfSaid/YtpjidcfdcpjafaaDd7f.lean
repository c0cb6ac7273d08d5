/-
  decodingsBy and DecodingsOf, of the program: contracts.
-/
import Derived.Test.YtpjidcfdcpjafaaDd7i
import Derived.Test.YtpjidcfdcpjafaaCt7f
namespace Go.Proofs.Ytpjidcfdcpjafaa
open Go.RowKit Go Go.Maps Go.WideMaps
set_option linter.unusedVariables false

/-- What is answered: a list of rows of the call's own, all apart. -/
def FoA (w : World) (base : Nat) (v : Value) (L : List (List Int)) : Prop := ∃ us, FoD w base v L us
theorem FoA.nil (w : World) (base : Nat) : FoA w base (.slice none 0 0) [] := ⟨[], World.ownsRow_nil w base _ 1, ⟨rfl, fun i hi => absurd hi (by simp)⟩, List.Pairwise.nil⟩

set_option maxRecDepth 100000 in
set_option maxHeartbeats 1600000 in
theorem decodingsBy_any (vx : Value) (xs : List ByteArray) (s : ByteArray) (B : Nat) (w : World) (hv : Row w B vx (xs.map Value.string)) (hB : B ≤ w.heap.size) (hx : WsOk xs) (hs : s.size ≤ 60) (L : List (List Int)) (c : Int) (hd : (200 < fcB xs s → L = [] ∧ c = 3) ∧ (¬ 200 < fcB xs s → L = dcB xs [] s ∧ c = 0)) :
    Calls Try.prog 56 #[vx, .string s] w fun e w' => ∃ u, e = .returned (.tuple #[u, .int .i64 c]) ∧ FoA w' w.heap.size u L ∧ Below w.heap.size w w' := by
  have hvx : ∃ A n c, vx = .slice A n c := by obtain ⟨A, c, hh, _⟩ := hv; exact ⟨A, _, c, hh⟩
  obtain ⟨A, n, cx, rfl⟩ := hvx
  have hC := fun M (hM : B ≤ M) (W : World) hr ho => count_any (.slice A n cx) xs B M s hs hx hM s.size 0 W D0 (by omega) (by omega) hr ho (cinv0 xs s)
  rw [sfx_zero] at hC
  have HC := hidv hC
  have HV := hidv hv
  have HX := hidv hx
  have HD := hidv hd
  clear hC hv hx hd
  go_enter Try.func56, Try.ntmps56
  go_wp2_with fail
  refine (finderBy_any _ _ ⟨_, _, _, rfl⟩).mono ?_
  rintro e w2 ⟨rfl, ho2, hb2⟩
  have HB2 := hidv hb2
  have hlo := ho2.lt
  have HO2 := hidv ho2
  clear ho2 hb2
  have hz2 := HB2.out.size
  have hbx := Bx.new w2 78 #[.slice A n cx, .map (some (w.heap.size + 1)), .slice none 0 0]
  have ho3 := HO2.out.alloc (.cells #[.slice A n cx, .map (some (w.heap.size + 1)), .slice none 0 0] 78)
  have hb3 := below_al HB2.out (.cells #[.slice A n cx, .map (some (w.heap.size + 1)), .slice none 0 0] 78)
  have hs3 : (w2.alloc (.cells #[.slice A n cx, .map (some (w.heap.size + 1)), .slice none 0 0] 78)).heap.size = w2.heap.size + 1 := World.size_alloc _ _
  obtain ⟨w3, hw3⟩ : ∃ W, w2.alloc (.cells #[.slice A n cx, .map (some (w.heap.size + 1)), .slice none 0 0] 78) = W := ⟨_, rfl⟩
  rw [hw3] at hbx ho3 hb3 hs3
  have HBX := hidv hbx
  have HB3 := hidv hb3
  have HC3 := hidv (HC.out (w.heap.size + 1) (by omega) w3 (HV.out.below (hb3.mono hB)) ho3)
  have HW3 := hidv hw3
  clear hb3 ho3 HC HO2
  obtain ⟨T, hT⟩ : ∃ T, fcB xs s = T := ⟨_, rfl⟩
  have hT2 : T ≤ 1152921504606846976 := by rw [← hT]; exact fcB_bound HX.out hs
  rw [hT] at HC3 HD
  have HT := hidv hT
  clear hT hbx hw3
  go_wp2_with fail
  rw [HW3.out]
  refine HC3.out.mono ?_
  rintro e w4 ⟨rfl, D', ho4, hi4, _, hg4⟩
  have hB4 := HB3.out.trans (below_grown hg4 HB3.out.size (fun k hk => by cases hk; omega))
  have HB4 := hidv hB4
  have HO4 := hidv (own_tight ho4)
  have HI4 := hidv hi4
  have hbx4 := HBX.out.grown hg4 (by intro h; injection h with h; omega)
  have HBX4 := hidv hbx4
  have hz4 := hg4.size
  clear ho4 hi4 hg4 hB4
  by_cases h200 : 200 < T
  · obtain ⟨rfl, rfl⟩ := HD.out.1 h200
    go_wp2_with fail
    go_ret2
    exact ⟨_, rfl, FoA.nil _ _, HB4.out⟩
  · obtain ⟨hL, rfl⟩ := HD.out.2 h200
    have HL := hidv hL
    have hf := find_any (.slice A n cx) xs w.heap.size w3.heap.size w2.heap.size (w.heap.size + 1) s hs HX.out hz2 (by omega) (by omega) (by omega) (by omega) (by omega) s.size 0 (.slice none 0 0) [] (.slice none 0 0) [] [] D' w4 (by omega) (by omega) hz4 ((HV.out.more hB).below HB4.out) HO4.out HI4.out hbx4 (World.ownsRow_nil _ _ _ _) (by simpa using hs) ⟨World.ownsRow_nil _ _ _ _, ⟨rfl, fun i hi => absurd hi (by simp)⟩, List.Pairwise.nil⟩ (by rw [sfx_zero, HT.out]; simp; omega) (fun u hu => absurd hu (by simp))
    rw [sfx_zero] at hf
    have HF := hidv hf
    clear hf hL hbx4
    go_wp2_with fail
    refine HF.out.mono ?_
    rintro e w5 ⟨rfl, D5, vf5, us5, g1, g2, g3, g4, g5, g6, g7⟩
    obtain ⟨A5, n5, c5, rfl⟩ : ∃ A n c, vf5 = .slice A n c := by
      obtain ⟨A, c, h, _⟩ := Row.of_own g4.1
      exact ⟨A, _, c, h⟩
    have y2 := g3.cell 2
    have HB5 := hidv (HB4.out.trans g6.1)
    have HG := hidv g4
    clear g1 g2 g3 g4 g5 g6 g7
    go_wp2_with fail
    go_ret2
    refine ⟨_, rfl, ⟨us5, ?_⟩, HB5.out⟩
    have h := HG.out
    rw [List.nil_append] at h
    rw [HL.out]
    exact ⟨own_wider h.1 (by omega), ⟨h.2.1.1, fun i hi => by
      obtain ⟨hr, h1⟩ := h.2.1.2 i hi
      exact ⟨hr, own_wider h1 (by omega)⟩⟩, h.2.2⟩

set_option maxRecDepth 100000 in
set_option maxHeartbeats 1600000 in
theorem implDd_any (vx : Value) (xs : List ByteArray) (s : ByteArray) (B : Nat) (w : World) (hv : Row w B vx (xs.map Value.string)) (hB : B ≤ w.heap.size) (hl : xs.length ≤ 1048576) (hz : ∀ s ∈ xs, s.size ≤ maxLen) (hs : s.size ≤ maxLen) (L : List (List Int)) (c : Int) (hd : DdR xs s L c) :
    Calls Try.prog 15 #[vx, .string s] w fun e w' => ∃ u, e = .returned (.tuple #[u, .int .i64 c]) ∧ FoA w' w.heap.size u L ∧ Below w.heap.size w w' := by
  obtain ⟨q, hq⟩ := iffB (SetOk xs)
  obtain ⟨p, hp⟩ : ∃ p, Wd.wordB s.data.toList = p := ⟨_, rfl⟩
  have CS := hidv (implSet_any vx xs B w hv hB hl hz q hq)
  have CW := hidv (fun W => implValidWord_any s W hs)
  rw [hp] at CW
  have HC := hidv (fun W (h : Below w.heap.size w W) hx h60 hd => decodingsBy_any vx xs s B W (hv.below (h.mono hB)) (Nat.le_trans hB h.size) hx h60 L c hd)
  have HD := hidv hd
  have HQ := hidv hq
  have HP := hidv hp
  have hvx : ∃ A n c, vx = .slice A n c := by obtain ⟨A, c, hh, _⟩ := hv; exact ⟨A, _, c, hh⟩
  obtain ⟨A, n, cx, rfl⟩ := hvx
  clear hv hz hs hd hq hp
  cases q
  · obtain ⟨rfl, rfl⟩ := HD.out.2 (fun h => absurd (HQ.out.mpr h.1) (by decide))
    go_enter Try.func15, Try.ntmps15
    go_wp2_with fail
    refine CS.out.mono ?_
    rintro e w1 ⟨rfl, hb1⟩
    have HB1 := hidv hb1
    clear hb1
    go_wp2_with fail
    go_ret2
    exact ⟨_, rfl, FoA.nil _ _, HB1.out⟩
  cases p
  · obtain ⟨rfl, rfl⟩ := HD.out.2 (fun h => by have h1 := h.2; rw [HP.out] at h1; cases h1)
    go_enter Try.func15, Try.ntmps15
    go_wp2_with fail
    refine CS.out.mono ?_
    rintro e w1 ⟨rfl, hb1⟩
    have HB1 := hidv hb1
    clear hb1
    go_wp2_with fail
    refine (CW.out _).mono ?_
    rintro e w' ⟨rfl, rfl⟩
    go_wp2_with fail
    go_ret2
    exact ⟨_, rfl, FoA.nil _ _, HB1.out⟩
  have hok := HQ.out.mp rfl
  have HC2 := hidv (fun W h => HC.out W h (setOk_ws hok) (by have := Wd.wordB_len HP.out; simpa using this) (HD.out.1 ⟨hok, HP.out⟩))
  clear hok HD HQ HP HC
  go_enter Try.func15, Try.ntmps15
  go_wp2_with fail
  refine CS.out.mono ?_
  rintro e w1 ⟨rfl, hb1⟩
  have HB1 := hidv hb1
  clear hb1
  go_wp2_with fail
  refine (CW.out _).mono ?_
  rintro e w' ⟨rfl, rfl⟩
  go_wp2_with fail
  refine (HC2.out _ HB1.out).mono ?_
  rintro e w2 ⟨u, rfl, hu, hb2⟩
  have HB2 := hidv (below_on HB1.out hb2)
  have hz1 := HB1.out.size
  have HU := hidv hu
  clear hb2 hu
  go_wp2_with fail
  go_ret2
  refine ⟨_, rfl, ?_, HB2.out⟩
  obtain ⟨us, h⟩ := HU.out
  exact ⟨us, own_wider h.1 hz1, ⟨h.2.1.1, fun i hi => by
    obtain ⟨hr, h1⟩ := h.2.1.2 i hi
    exact ⟨hr, own_wider h1 hz1⟩⟩, h.2.2⟩

end Go.Proofs.Ytpjidcfdcpjafaa
