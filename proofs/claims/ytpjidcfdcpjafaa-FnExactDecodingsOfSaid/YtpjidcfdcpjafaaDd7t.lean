/-
  DecodingsOf, of the model: a contract.
-/
import Derived.Test.YtpjidcfdcpjafaaDd7s
namespace Go.Proofs.Ytpjidcfdcpjafaa
open Go.RowKit Go
set_option linter.unusedVariables false

/-- What DecodingsOf answers. -/
def DdR (xs : List ByteArray) (s : ByteArray) (L : List (List Int)) (c : Int) : Prop :=
  (SetOk xs ∧ Wd.wordB s.data.toList = true → (200 < fcB xs s → L = [] ∧ c = 3) ∧ (¬ 200 < fcB xs s → L = dcB xs [] s ∧ c = 0)) ∧ (¬ (SetOk xs ∧ Wd.wordB s.data.toList = true) → L = [] ∧ c = 1)
theorem ddR_ex (xs : List ByteArray) (s : ByteArray) : ∃ L c, DdR xs s L c ∧ L.length ≤ 200 ∧ ∀ r ∈ L, r.length ≤ 60 := by
  by_cases h : SetOk xs ∧ Wd.wordB s.data.toList = true
  · by_cases h2 : 200 < fcB xs s
    · exact ⟨[], 3, ⟨fun _ => ⟨fun _ => ⟨rfl, rfl⟩, fun hn => absurd h2 hn⟩, fun hn => absurd h hn⟩, by simp, by simp⟩
    · refine ⟨dcB xs [] s, 0, ⟨fun _ => ⟨fun hy => absurd hy h2, fun _ => ⟨rfl, rfl⟩⟩, fun hn => absurd h hn⟩, by rw [dcB_count]; omega, fun r hr => ?_⟩
      have h3 := dcB_len (setOk_ws h.1) [] s r hr
      have h4 := Wd.wordB_len h.2
      have h5 : s.size ≤ 60 := by simpa using h4
      simp at h3
      omega
  · exact ⟨[], 1, ⟨fun hy => absurd hy h, fun _ => ⟨rfl, rfl⟩⟩, by simp, by simp⟩
theorem IG.lit {w : World} {base : Nat} (hb : base ≤ w.heap.size) : IG (w.alloc (.cells #[] 26)) base (.slice (some ⟨w.heap.size, 0, none⟩) 0 0) [] :=
  ⟨[], World.ownsRow_lit (e := 26) (size := 1) (base := base) w #[] 0 hb (Nat.zero_le _) rfl, rfl, fun i hi => absurd hi (by simp)⟩

set_option maxRecDepth 100000 in
set_option maxHeartbeats 1600000 in
theorem specDd_any (vx : Value) (xs : List ByteArray) (s : ByteArray) (B : Nat) (w : World) (hv : Row w B vx (xs.map Value.string)) (hB : B ≤ w.heap.size) (hl : xs.length ≤ 1048576) (hz : ∀ s ∈ xs, s.size ≤ maxLen) (hs : s.size ≤ maxLen) (L : List (List Int)) (c : Int) (hd : DdR xs s L c) :
    Calls Try.prog 39 #[vx, .string s] w fun e w' => ∃ u, e = .returned (.tuple #[u, .int .i64 c]) ∧ IG w' w.heap.size u L ∧ Below w.heap.size w w' := by
  obtain ⟨q, hq⟩ := iffB (SetOk xs)
  obtain ⟨p, hp⟩ : ∃ p, Wd.wordB s.data.toList = p := ⟨_, rfl⟩
  have CS := hidv (l07Ok_any vx xs B w hv hB hl hz q hq)
  have CW := hidv (fun W => specWord_any s W hs)
  rw [hp] at CW
  have HC := hidv (fun W (h : Below w.heap.size w W) (hx : WsOk xs) (h60 : s.size ≤ 60) => l07Count_any vx xs s B W (hv.below (h.mono hB)) (Nat.le_trans hB h.size) hx h60)
  have HE := hidv (fun W (va vb : Value) (h : Below w.heap.size w W) (hx : WsOk xs) (h60 : s.size ≤ 60) (ha : W.ownsRow w.heap.size 2 1 va 0 []) (hb : IG W w.heap.size vb []) => (show Calls Try.prog 79 #[vx, .string s, va, vb, .int .i64 200] W fun e w' => ∃ u, e = .returned u ∧ IG w' w.heap.size u (([] ++ dcB xs [] s).take 200) ∧ GrD W w' vb u from decode_any vx xs B 200 hx (by omega) w.heap.size hB (s.size + 1) s va [] vb [] W (by omega) (hv.below (h.mono hB)) h.size ha (by simpa using h60) hb (by simp)))
  have HD := hidv hd
  have HQ := hidv hq
  have HP := hidv hp
  have hvx : ∃ A n c, vx = .slice A n c := by obtain ⟨A, c, hh, _⟩ := hv; exact ⟨A, _, c, hh⟩
  obtain ⟨A, n, cx, rfl⟩ := hvx
  clear hv hz hs hd hq hp
  cases q
  · obtain ⟨rfl, rfl⟩ := HD.out.2 (fun h => absurd (HQ.out.mpr h.1) (by decide))
    go_enter Try.func39, Try.ntmps39
    go_wp2_with fail
    refine CS.out.mono ?_
    rintro e w1 ⟨rfl, m1, hm1⟩
    have HB1 := hidv (below_q hm1)
    clear hm1
    go_wp2_with fail
    go_ret2
    exact ⟨_, rfl, IG.lit HB1.out.size, below_al HB1.out _⟩
  cases p
  · obtain ⟨rfl, rfl⟩ := HD.out.2 (fun h => by have h1 := h.2; rw [HP.out] at h1; cases h1)
    go_enter Try.func39, Try.ntmps39
    go_wp2_with fail
    refine CS.out.mono ?_
    rintro e w1 ⟨rfl, m1, hm1⟩
    have HB1 := hidv (below_q hm1)
    clear hm1
    go_wp2_with fail
    refine (CW.out _).mono ?_
    rintro e w' ⟨rfl, rfl⟩
    go_wp2_with fail
    go_ret2
    exact ⟨_, rfl, IG.lit HB1.out.size, below_al HB1.out _⟩
  have hok := HQ.out.mp rfl
  have hdd := HD.out.1 ⟨hok, HP.out⟩
  have hws := setOk_ws hok
  have hs60 : s.size ≤ 60 := by have := Wd.wordB_len HP.out; simpa using this
  have HC2 := hidv (fun W h => HC.out W h hws hs60)
  have HE2 := hidv (fun W va vb h ha hb => HE.out W va vb h hws hs60 ha hb)
  have hbd := fcB_bound hws hs60
  have hcnt := dcB_count xs [] s
  obtain ⟨T, hT⟩ : ∃ T, fcB xs s = T := ⟨_, rfl⟩
  rw [hT] at HC2 hdd hbd hcnt
  have hT2 : T ≤ 1152921504606846976 := hbd
  have HDD := hidv hdd
  have HCN := hidv hcnt
  clear hok hT HD HQ HP HC HE hws hs60 hdd hcnt hbd
  by_cases h200 : 200 < T
  · obtain ⟨rfl, rfl⟩ := HDD.out.1 h200
    go_enter Try.func39, Try.ntmps39
    go_wp2_with fail
    refine CS.out.mono ?_
    rintro e w1 ⟨rfl, m1, hm1⟩
    have HB1 := hidv (below_q hm1)
    clear hm1
    go_wp2_with fail
    refine (CW.out _).mono ?_
    rintro e w' ⟨rfl, rfl⟩
    go_wp2_with fail
    refine (HC2.out _ HB1.out).mono ?_
    rintro e w2 ⟨rfl, hb2⟩
    have HB2 := hidv (below_on HB1.out hb2)
    clear hb2
    go_wp2_with fail
    go_ret2
    exact ⟨_, rfl, IG.lit HB2.out.size, below_al HB2.out _⟩
  · obtain ⟨hL, rfl⟩ := HDD.out.2 h200
    have HLL := hidv hL
    clear hL
    go_enter Try.func39, Try.ntmps39
    go_wp2_with fail
    refine CS.out.mono ?_
    rintro e w1 ⟨rfl, m1, hm1⟩
    have HB1 := hidv (below_q hm1)
    clear hm1
    go_wp2_with fail
    refine (CW.out _).mono ?_
    rintro e w' ⟨rfl, rfl⟩
    go_wp2_with fail
    refine (HC2.out _ HB1.out).mono ?_
    rintro e w2 ⟨rfl, hb2⟩
    have HB2 := hidv (below_on HB1.out hb2)
    clear hb2
    have ha := World.ownsRow_lit (e := 2) (size := 1) (base := w.heap.size) w2 #[] 0 HB2.out.size (Nat.zero_le _) rfl
    have hb : IG ((w2.alloc (.cells #[] 2)).alloc (.cells #[] 26)) w.heap.size (.slice (some ⟨w2.heap.size + 1, 0, none⟩) 0 0) [] := by
      have h := IG.lit (w := w2.alloc (.cells #[] 2)) (base := w.heap.size) (by have := HB2.out.size; simp; omega)
      rw [World.size_alloc] at h
      exact h
    have HF := hidv (HE2.out _ _ _ (below_al (below_al HB2.out _) _) (World.ownsRow.alloc ha _) hb)
    clear ha hb
    go_wp2_with fail
    refine HF.out.mono ?_
    rintro e w5 ⟨u, rfl, hu, hg⟩
    have hbe := hg.1
    have HBE := hidv ((below_al (below_al HB2.out (.cells #[] 2)) (.cells #[] 26)).trans (below_grown hg.1 (by have := HB2.out.size; simp; omega) (fun k hk => by have h := HB2.out.size; simp [Value.ownBlock] at hk; omega)))
    have HU := hidv hu
    clear hu hg hbe
    go_wp2_with fail
    go_ret2
    refine ⟨_, rfl, ?_, HBE.out⟩
    rw [HLL.out]
    have h := HU.out
    rw [List.nil_append, List.take_of_length_le (by rw [HCN.out]; omega)] at h
    exact h

end Go.Proofs.Ytpjidcfdcpjafaa
