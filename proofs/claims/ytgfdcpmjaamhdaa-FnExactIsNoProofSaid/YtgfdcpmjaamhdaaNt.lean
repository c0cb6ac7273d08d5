/-
  IsNoProof of the model: a contract.
-/
import Derived.Test.YtgfdcpmjaamhdaaNr
namespace Go.Proofs.Ytgfdcpmjaamhdaa
open Go.RowKit Go
set_option linter.unusedVariables false

theorem in9_any (x : Int) (d : Bool) (hd : d = true ↔ -9 ≤ x ∧ x ≤ 9) (w : World) :
    Calls Try.prog 13 #[.int .i64 x, .int .i64 (-9), .int .i64 9] w fun e w' => e = .returned (.bool d) ∧ w = w' := by
  by_cases h1 : -9 ≤ x
  · by_cases h2 : x ≤ 9
    · obtain rfl : d = true := hd.mpr ⟨h1, h2⟩
      clear hd
      go_enter Try.func13, Try.ntmps13
      go_wp2
      go_ret
      exact ⟨ret_bool (by simp), rfl⟩
    · obtain rfl : d = false := iffNo hd (fun h => h2 h.2)
      clear hd
      go_enter Try.func13, Try.ntmps13
      go_wp2
      go_ret
      exact ⟨ret_bool (by simp), rfl⟩
  · obtain rfl : d = false := iffNo hd (fun h => h1 h.1)
    clear hd
    go_enter Try.func13, Try.ntmps13
    go_wp2
    go_ret
    exact ⟨ret_bool (by simp), rfl⟩

/-- What IsNoProof gives. -/
def FacOk (es : List Eqn) (F : List Int) : Prop := F.length = 5 * es.length ∧ ∀ f ∈ F, -9 ≤ f ∧ f ≤ 9
def InR (es : List Eqn) (F : List Int) (d : Bool) (c : Int) : Prop :=
  (¬ sysB es = true → d = false ∧ c = 1) ∧ (sysB es = true → ¬ FacOk es F → d = false ∧ c = 2) ∧
  (sysB es = true → FacOk es F → (d = true ↔ NpP (surS es) F es.length) ∧ c = 0)
theorem inR_ex (es : List Eqn) (F : List Int) : ∃ d c, InR es F d c := by
  by_cases h1 : sysB es = true
  · by_cases h2 : FacOk es F
    · obtain ⟨d, hd⟩ := iffEx (NpP (surS es) F es.length)
      exact ⟨d, 0, fun h => absurd h1 h, fun _ h => absurd h2 h, fun _ _ => ⟨hd, rfl⟩⟩
    · exact ⟨false, 2, fun h => absurd h1 h, fun _ _ => ⟨rfl, rfl⟩, fun _ h => absurd h h2⟩
  · exact ⟨false, 1, fun _ => ⟨rfl, rfl⟩, fun h => absurd h h1, fun h => absurd h h1⟩
theorem npOk_of {es : List Eqn} {F : List Int} (hs : sysB es = true) (hf : FacOk es F) : NpOk (surS es) F es.length := by
  refine ⟨?_, by simp [surS], hf.1, hf.2, surS_ok hs⟩
  unfold sysB at hs
  rw [Bool.and_eq_true, decide_eq_true_eq] at hs
  have := hs.1
  omega

set_option maxRecDepth 100000 in
set_option maxHeartbeats 1600000 in
theorem specNp_any (v u : Value) (es : List Eqn) (F : List Int) (B C : Nat) (w : World) (hv : ERow w B v es) (hB : B ≤ w.heap.size) (hx : es.length ≤ 1048576) (hs : ∀ e ∈ es, e.1.size ≤ maxLen ∧ e.2.size ≤ maxLen) (hu : Row w C u (ints F)) (hC : C ≤ w.heap.size) (hF : F.length ≤ 1048576) (d : Bool) (c : Int) (hR : InR es F d c) :
    Calls Try.prog 5 #[v, u] w fun e w' => e = .returned (.tuple #[.bool d, .int .i64 c]) ∧ Below w.heap.size w w' := by
  have C1 := hidv (specSys_any v es B w hv hB hx hs)
  have C2 := hidv (fun W (hW : Below w.heap.size w W) (h : sysB es = true) => l02Rows_any v es B W (hv.below (hW.mono hB)) (Nat.le_trans hB hW.size) h)
  have C3 := hidv (fun W z D (hW : Below w.heap.size w W) (hz : IRows W D z (surS es)) (hD : D ≤ W.heap.size) (hok : NpOk (surS es) F es.length) (hd : d = true ↔ NpP (surS es) F es.length) => l02Proof_any z u (surS es) F es.length D C W hz hD (hu.below (hW.mono hC)) (Nat.le_trans hC hW.size) hok d hd)
  obtain ⟨A, cA, rfl, _⟩ := id hv
  obtain ⟨Au, cu, rfl, hAu⟩ := hu
  obtain ⟨L, hL⟩ : ∃ L, (ints F).length = L := ⟨_, rfl⟩
  have hLF : F.length = L := by rw [← hL]; simp [ints]
  obtain ⟨n, hn⟩ : ∃ n, es.length = n := ⟨_, rfl⟩
  rw [hL] at hAu C3 ⊢
  rw [hn] at C1 C2 C3 ⊢
  have HU := hidv hAu
  have HR := hidv hR
  have HLF := hidv hLF
  have HN := hidv hn
  have hL1 : L ≤ 1048576 := by omega
  have HFA := hidv (show FacOk es F ↔ L = 5 * n ∧ ∀ f ∈ F, -9 ≤ f ∧ f ≤ 9 from by unfold FacOk; rw [hLF, hn])
  obtain ⟨a, ha⟩ : ∃ a, sysB es = a := ⟨_, rfl⟩
  have HSB := hidv ha
  rw [ha] at C1
  clear hv hs hAu hR hL hLF hn hF ha
  cases a
  · obtain ⟨rfl, rfl⟩ := HR.out.1 (by rw [HSB.out]; simp)
    go_enter Try.func5, Try.ntmps5
    go_wp2_with fail
    refine C1.out.mono ?_
    rintro e w1 ⟨rfl, hb1⟩
    go_wp2_with fail
    go_ret2
    exact ⟨rfl, hb1⟩
  · go_enter Try.func5, Try.ntmps5
    go_wp2_with fail
    refine C1.out.mono ?_
    rintro e w1 ⟨rfl, hb1⟩
    have HB1 := hidv hb1
    clear hb1 C1
    go_wp2_with fail
    go_loopw [6] (fun i wr => ∃ k : Nat, k ≤ L ∧ i = .int .i64 (k : Int) ∧ Hid (∀ j (h : j < F.length), j < k → -9 ≤ F[j] ∧ F[j] ≤ 9) ∧ Hid (Below w.heap.size w wr)) (fun i _ => L - (intOf i).toNat)
    case atStart => exact ⟨0, Nat.zero_le _, rfl, hidv (fun j h hj => by omega), HB1⟩
    case round =>
      obtain ⟨k, hk, rfl, hall, hbe⟩ := hrel
      by_cases hlt : k < L
      · have hkx : k < F.length := by have := HLF.out; omega
        obtain ⟨g, o, rfl, hg, hce⟩ := HU.out (by omega)
        have c1 : wr.cell? ⟨g, o + k, none⟩ = some (.int .i64 F[k]) := (hbe.out.cell (p := ⟨g, _, none⟩) (by show g < _; omega)).trans (hce k _ (ints_at (by simp [hkx])))
        obtain ⟨q, hq⟩ := iffEx (-9 ≤ F[k] ∧ F[k] ≤ 9)
        have HC := hidv (fun W => in9_any F[k] q hq W)
        have HQ := hidv hq
        have HME := hidv (List.getElem_mem hkx)
        obtain ⟨f, hf⟩ : ∃ f, F[k] = f := ⟨_, rfl⟩
        rw [hf] at c1 HC HQ HME
        have HFK := hidv hf
        clear hce hq hf
        go_wp2_with fail
        refine (HC.out _).mono ?_
        rintro e w2 ⟨rfl, rfl⟩
        cases q
        · obtain ⟨rfl, rfl⟩ := HR.out.2.1 HSB.out (fun h => by
            have h2 := (HFA.out.mp h).2 f HME.out
            have := HQ.out.mpr h2
            cases this)
          go_wp2_with fail
          go_ret2
          exact ⟨rfl, hbe.out⟩
        · have hall2 : ∀ j (h : j < F.length), j < k + 1 → -9 ≤ F[j] ∧ F[j] ≤ 9 := fun j h hj => by
            rcases Nat.lt_or_ge j k with h2 | h2
            · exact hall.out j h h2
            · obtain rfl : j = k := by omega
              rw [HFK.out]
              exact HQ.out.mp rfl
          have HALL := hidv hall2
          clear hall2
          go_wp2_with fail
          go_roundw
          case rel => exact ⟨k + 1, by omega, by go_num, HALL, hbe⟩
          case measure => simp [intOf]; omega
      · obtain rfl : L = k := by omega
        have HM := hidv (show ∀ f ∈ F, -9 ≤ f ∧ f ≤ 9 from fun f hf => by
          obtain ⟨j, hj, rfl⟩ := List.getElem_of_mem hf
          exact hall.out j hj (by have := HLF.out; omega))
        have hn4 : n ≤ 4 := by
          have h := HSB.out
          unfold sysB at h
          rw [Bool.and_eq_true, decide_eq_true_eq] at h
          have := h.1
          have := HN.out
          omega
        by_cases hl5 : L = 5 * n
        · have hfo : FacOk es F := HFA.out.mpr ⟨hl5, HM.out⟩
          obtain ⟨hd, rfl⟩ := HR.out.2.2 HSB.out hfo
          have HC3 := hidv (fun W z D hW hz hD => C3.out W z D hW hz hD (by have h := npOk_of HSB.out hfo; rwa [HN.out] at h) (by have h := hd; rwa [HN.out] at h))
          clear hd hfo C3
          have i1 : (L : Int) = 5 * (n : Int) := by omega
          subst hl5
          clear i1
          go_wp2_with fail
          refine (C2.out _ hbe.out HSB.out).mono ?_
          rintro e w3 ⟨z, rfl, hz, hb3⟩
          have HB3 := hidv (below_on hbe.out hb3)
          have HZ := hidv hz
          clear hz hb3
          go_wp2_with fail
          refine (HC3.out _ _ _ HB3.out HZ.out (Nat.le_refl _)).mono ?_
          rintro e w4 ⟨rfl, hb4⟩
          have HB4 := hidv (below_on HB3.out hb4)
          clear hb4
          go_wp2_with fail
          go_ret2
          exact ⟨rfl, HB4.out⟩
        · obtain ⟨rfl, rfl⟩ := HR.out.2.1 HSB.out (fun h => hl5 (HFA.out.mp h).1)
          have i1 : ¬ (L : Int) = 5 * (n : Int) := by omega
          go_wp2_with fail
          go_ret2
          exact ⟨rfl, hbe.out⟩

end Go.Proofs.Ytgfdcpmjaamhdaa
